/- The landed reader of package wire: a message that has no inner ones, one that may have 16. -/
import Derived.Test.YtaengjgmchpabaaGreatWireR10
namespace Go.Proofs.YtaengjgmchpabaaGreat.Wr
open Go Go.RowKit Vl Kv Ss Cn Mem Lg Nm
variable {w w' : World} {rb br bs : Nat} {l : List Nat}
theorem none_no {r : List Nat} (h : rdUp 0 r = none) : cNone.rd r = none := by
  rcases up_no h with ⟨n, q, hd, hn⟩ | hd
  · exact emb_no (A := cInt.sel (fun n => if n = 0 then Cod.one () else Cod.non)) (sel_no2 hd (by rw [if_neg (by omega)]; rfl))
  · exact emb_no (A := cInt.sel (fun n => if n = 0 then Cod.one () else Cod.non)) (sel_no1 hd)
theorem none_yes {r q : List Nat} {n : Int} (h : rdUp 0 r = some (n, q)) : cNone.rd r = some ((), q) := by
  obtain ⟨hd, h0, h1⟩ := rdUp_int h
  obtain rfl : n = 0 := by omega
  exact emb_yes (A := cInt.sel (fun n => if n = 0 then Cod.one () else Cod.non)) (sel_yes hd (by rw [if_pos rfl]; rfl))
theorem rmsg0_any (h : Rs w rb br bs l) : Calls Tryz.prog 25 #[.pointer (some ⟨rb, 0, none⟩), .int .i64 0] w (Igot rb br bs l w) := by
  refine (rmessage_any h (most := 0) (fun h => absurd h (by decide)) (by decide)).mono fun e w' hx => ?_
  cases hh : cHead.rd l with
  | none =>
    obtain ⟨he, hk⟩ := hx.none (seq_no1 hh)
    refine ⟨hk, ?_⟩
    rw [show cInner.rd l = none from as_no (seq_no1 hh)]
    exact he
  | some p =>
    obtain ⟨f, r⟩ := p
    cases hu : rdUp 0 r with
    | none =>
      obtain ⟨he, hk⟩ := hx.none (seq_no2 hh (cLi_no1 hu))
      refine ⟨hk, ?_⟩
      rw [show cInner.rd l = none from as_no (seq_no2 hh (none_no hu))]
      exact he
    | some p2 =>
      obtain ⟨n, q⟩ := p2
      have hn := rdUp_int hu
      obtain rfl : n = 0 := by omega
      have hy : (cHead.seq (cLi cInner 0)).rd l = some ((f, []), q) := seq_yes hh (cLi_yes hu (rep_zero q))
      obtain ⟨⟨p, LM, he, hm, ho⟩, hs, hk⟩ := hx.some hy
      refine ⟨hk, ?_⟩
      rw [show cInner.rd l = some (f, q) from as_yes (seq_yes hh (none_yes hu))]
      exact ⟨⟨p, he, by rw [← ho.len]; have : LM = [] := List.map_eq_nil_iff.1 hm; rw [this]; rfl, ho.self⟩, hs⟩
theorem rmsg16_any (h : Rs w rb br bs l) : Calls Tryz.prog 25 #[.pointer (some ⟨rb, 0, none⟩), .int .i64 16] w (Mgot 16 rb br bs l w) :=
  rmessage_any h (fun _ _ _ hs => rmsg0_any hs) (by decide)
end Go.Proofs.YtaengjgmchpabaaGreat.Wr
