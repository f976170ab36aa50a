import Derived.Test.YtaengjgmchpabaaGreatWireR6
import Derived.Test.YtaengjgmchpabaaGreatMergeWr23
import Derived.Test.YtaengjgmchpabaaGreatMergeWr15
/- The landed reader of package wire: entries. -/
namespace Go.Proofs.YtaengjgmchpabaaGreat.Wr
open Go Go.RowKit Vl Kv Ss Cn Mem Lg Nm
attribute [local go_sem] Nm.run_bits Nm.run_frombits run_store_float
variable {w w' : World} {rb br bs : Nat} {l : List Nat}
/-- what entries leaves -/
def Lgot (most : Int) (rb br bs : Nat) (l : List Nat) (w : World) (x : Ending) (w' : World) : Prop :=
  Kept (Only br) w w' ∧ match (cLi cEnt most).rd l with
    | some (L, r) => (∃ b a cap, x = .returned (.slice a L.length cap) ∧ Li.OwnL 70 w' b a cap L ∧ w.heap.size ≤ b) ∧ Rs w' rb br bs r
    | none => x = .panicked thr
theorem Lgot.some {most : Int} {L : List E} {r : List Nat} {x : Ending} (h : Lgot most rb br bs l w x w') (hd : (cLi cEnt most).rd l = some (L, r)) : (∃ b a cap, x = .returned (.slice a L.length cap) ∧ Li.OwnL 70 w' b a cap L ∧ w.heap.size ≤ b) ∧ Rs w' rb br bs r ∧ Kept (Only br) w w' := by
  unfold Lgot at h; rw [hd] at h; exact ⟨h.2.1, h.2.2, h.1⟩
theorem Lgot.none {most : Int} {x : Ending} (h : Lgot most rb br bs l w x w') (hd : (cLi cEnt most).rd l = none) : x = .panicked thr ∧ Kept (Only br) w w' := by
  unfold Lgot at h; rw [hd] at h; exact ⟨h.2, h.1⟩
/-- a list that is being read -/
structure Rl (w : World) (rb br bs : Nat) (r0 : List Nat) (k : Nat) (r : List Nat) (L : List E) (b : Nat) (a : Option Addr) (cap : Nat) (W : World) : Prop where
  rs : Rs W rb br bs r
  kept : Kept (Only br) w W
  lbr : br < w.heap.size
  got : (cEnt.rep k).rd r0 = some (L, r)
  own : Li.OwnL 70 W b a cap L
  lo : w.heap.size ≤ b
  lrb : rb < w.heap.size
  lbs : r ≠ [] → bs < w.heap.size
theorem Rl.call {r0 r r' : List Nat} {k : Nat} {L : List E} {b : Nat} {a : Option Addr} {cap : Nat} {W W' : World} {x : E} (h : Rl w rb br bs r0 k r L b a cap W) (hd : cEnt.rd r = some (x, r')) (hs : Rs W' rb br bs r') (hk : Kept (Only br) W W') :
    Rs W' rb br bs r' ∧ Kept (Only br) w W' ∧ (cEnt.rep (k + 1)).rd r0 = some (L ++ [x], r') ∧ Li.OwnL 70 W' b a cap L :=
  ⟨hs, h.kept.trans hk, rep_snoc h.got hd, OwnC.kept h.own hk (fun _ e => by have e : b = br := e; have := h.lo; have := h.lbr; omega)⟩
theorem Rl.app {r0 r r' : List Nat} {k : Nat} {L : List E} {b b' : Nat} {a a' : Option Addr} {cap cap' : Nat} {W W1 W2 W' : World} {x : E} (h : Rl w rb br bs r0 k r L b a cap W) (hle : r'.length ≤ r.length)
    (hs : Rs W1 rb br bs r' ∧ Kept (Only br) w W1 ∧ (cEnt.rep (k + 1)).rd r0 = some (L ++ [x], r') ∧ Li.OwnL 70 W1 b a cap L) (hb : Beh W1 W2)
    (h2 : OwnC 70 16 W' b' a' cap' (L.length + 1) (Li.flat L ++ Li.flat [x])) (h3 : Kept (Of a b) W2 W') (h4 : (b' = b ∧ (a' = none ∨ a ≠ none)) ∨ W2.heap.size ≤ b') :
    Rl w rb br bs r0 (k + 1) r' (L ++ [x]) b' a' cap' W' := by
  obtain ⟨h1, hk, hg, ho⟩ := hs
  have hz := hk.size
  have hz2 := hb.size
  have hof : ∀ k, Of a b k → w.heap.size ≤ k := fun k e => by have := e.2; have := h.lo; omega
  have hlbs : r' ≠ [] → bs < w.heap.size := fun hr => h.lbs (fun e => hr (List.eq_nil_of_length_eq_zero (by rw [e] at hle; simpa using hle)))
  have h1b := h1.on hb
  refine ⟨⟨h3.heap h1b.box (fun e => by have := hof _ e; have := h.lrb; omega), h1b.rd.kept h3 (fun e => by have := hof _ e; have := h.lbr; omega) (fun hr e => by have := hof _ e; have := hlbs hr; omega), h1.ne, h1.len, h1.nes⟩, ?_, h.lbr, hg, ?_, ?_, h.lrb, hlbs⟩
  · exact (hk.trans (kept_beh hb).ofNone).trans' h3 (fun k e => .inr (hof k e))
  · show OwnC _ 16 W' b' a' cap' (L ++ [x]).length (Li.flat (L ++ [x]))
    rw [List.length_append, Li.flat_append]
    exact h2
  · rcases h4 with ⟨rfl, _⟩ | h4
    · exact h.lo
    · omega
set_option maxHeartbeats 6400000 in
set_option maxRecDepth 100000 in
theorem rentries_any (h : Rs w rb br bs l) (most : Int) : Calls Tryz.prog 53 #[.pointer (some ⟨rb, 0, none⟩), .int .i64 most] w (Lgot most rb br bs l w) := by
  have HC := Lib.hid (rupTo_any h most)
  have hb8 := h.b8
  have hlen := h.len
  have hlt := h.lt
  have hbs : l ≠ [] → bs < w.heap.size := fun hl => RAt.lt2 h.rd hl
  clear h
  go_enter Tryz.func53, Tryz.ntmps53
  cases hd : rdUp most l with
  | none =>
    go_wp2_with fail
    refine HC.out.mono ?_
    rintro e wq hx
    obtain ⟨rfl, hk⟩ := hx.none hd
    go_wp2_with fail
    refine ⟨rfl, hk, ?_⟩
    rw [cLi_no1 hd]
  | some p =>
    obtain ⟨n, r⟩ := p
    have hle := rdUp_le hb8 hd
    have hr8 := rd_b8 cInt hb8 (rdUp_int hd).1
    have hn0 := (rdUp_int hd).2.1
    go_wp2_with fail
    refine HC.out.mono ?_
    rintro e wq hx
    obtain ⟨rfl, hs, hk⟩ := hx.some hd
    have HL : Hid (Rl w rb br bs r 0 r [] w.heap.size none 0 wq) := ⟨hs, hk, hlt.2, rep_zero r, OwnC.nil _ _ _ _, Nat.le_refl _, hlt.1, fun hr => hbs (fun e => hr (List.eq_nil_of_length_eq_zero (by rw [e] at hle; simpa using hle)))⟩
    have HD := Lib.hid hd
    have HBB := Lib.hid hbs
    clear hx hs hk HC hd hbs
    obtain ⟨N, hN⟩ : ∃ N : Nat, n = (N : Int) := ⟨n.toNat, by omega⟩
    subst hN
    clear hn0
    go_wp2_with fail
    go_loopw [5, 9] (fun s i wr => ∃ (k : Nat) (q : List Nat) (L : List E) (b : Nat) (a : Option Addr) (cap : Nat), k ≤ N ∧ L.length = k ∧ s = .slice a k cap ∧ i = .int .i64 k ∧ Hid (Rl w rb br bs r k q L b a cap wr)) (fun _ i _ => N - (intOf i).toNat)
    case atStart => exact ⟨0, r, [], w.heap.size, none, 0, by omega, rfl, rfl, rfl, HL.out⟩
    case round =>
      clear HL
      obtain ⟨k, q, L, b, a, cap, hk, hL, rfl, rfl, HL⟩ := hrel
      have hq8 := rd_b8 (cEnt.rep k) hr8 HL.out.got
      have hkle := rep_le (m := 2) hr8 HL.out.got cEnt_len
      by_cases hlt : k < N
      · have HC := Lib.hid (rentry_any HL.out.rs)
        cases hd : cEnt.rd q with
        | none =>
          have HE := Lib.hid (cLi_no2 (A := cEnt) HD.out (rep_stop HL.out.got hd (by simpa using hlt)))
          go_wp2_with fail
          refine HC.out.mono ?_
          rintro e wx hx
          obtain ⟨rfl, hk2⟩ := hx.none hd
          go_wp2_with fail
          refine ⟨rfl, HL.out.kept.trans hk2, ?_⟩
          rw [HE.out]
        | some p =>
          obtain ⟨x, q2⟩ := p
          have hle2 := rd_le cEnt hq8 hd
          go_wp2_with fail
          refine HC.out.mono ?_
          rintro e wx hx
          obtain ⟨rfl, hs, hk2⟩ := hx.some hd
          have HX := Lib.hid (HL.out.call hd hs hk2)
          clear hx hs hk2 HC hd
          subst hL
          go_wp2_with (at_builtin; refine wpList_append_cells rfl _ _ _ rfl 70 16 _ _ 152 Tryz.underlying22 rfl rfl rfl rfl rfl b a cap L.length (Li.flat L) rfl (OwnC.kept HX.out.2.2.2 ((Kept.refl Mem.None _).alloc _) (fun _ h => h)) _ 1 1 _ rfl (Li.ListAt.src (Li.lit_list (L := [x]) (alloc_here _ rfl) rfl (by simp))) Li.flat_one (by omega) (by omega) ?_; intro b' a' cap' w8 h2 h3 h4 h5; (have HP := Lib.hid (HL.out.app hle2 HX.out (below_alloc _ _) h2 h3 h4)); clear h2 h3 h4 h5)
          go_roundw
          case rel => exact ⟨L.length + 1, q2, L ++ [x], b', a', cap', by omega, by simp, by go_num, by go_num, HP.out⟩
          case measure => simp [intOf]; omega
      · obtain rfl : k = N := by omega
        have HE := Lib.hid (cLi_yes (A := cEnt) HD.out HL.out.got)
        go_wp2
        go_ret
        refine ⟨HL.out.kept, ?_⟩
        rw [HE.out]
        exact ⟨⟨b, a, cap, by rw [hL]; rfl, HL.out.own, HL.out.lo⟩, HL.out.rs⟩
end Go.Proofs.YtaengjgmchpabaaGreat.Wr
