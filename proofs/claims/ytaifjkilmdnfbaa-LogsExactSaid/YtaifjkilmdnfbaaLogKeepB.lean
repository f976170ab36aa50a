/- Entries: the keeper's TwinEntries, SpoilEntries; slices.Clone of entries, of bytes; the law's HeavyEntries. -/
import Derived.Test.YtaifjkilmdnfbaaLogAt
import Derived.Test.YtaifjkilmdnfbaaCmds60
namespace Go.Proofs.Ytaifjkilmdnfbaa.Lg
open Go Go.RowKit Vl Kv Ss Cn Mem Li Nm
attribute [local go_sem] Nm.run_bits Nm.run_frombits run_store_float
attribute [local irreducible] wpQuiet

set_option maxHeartbeats 800000 in
set_option maxRecDepth 100000 in
theorem twinEnts_any (a : Option Addr) (cap : Nat) (L : List E) (w : World) (h : EntAt w a cap L) (hl : L.length ≤ 100000) :
    Calls Try.prog 40 #[.slice a L.length cap] w fun e w' => ∃ b' a' cap', e = .returned (.slice a' L.length cap') ∧ Made 40 w w' b' a' cap' L := by
  have HI := Lib.hid h
  clear h
  go_enter Try.func40, Try.ntmps40
  go_wp2_with (at_builtin; refine wpList_append_cells rfl _ _ _ rfl 40 16 _ _ 152 Try.underlying25 rfl rfl rfl rfl rfl w.heap.size none 0 0 [] rfl (OwnC.nil _ _ _ _) a cap L.length (flat L) rfl HI.out.src flat_one (by omega) (by omega) ?_; intro b' a' cap' w' h2 h3 h4 h5)
  go_ret
  exact ⟨b', a', cap', rfl, (by have h6 := h2; simp only [Nat.zero_add, List.nil_append] at h6; exact h6), by rcases h4 with ⟨h4, _⟩ | h4 <;> omega, Li.own_beh h3 (fun k hk => absurd rfl hk.1)⟩
set_option maxHeartbeats 800000 in
set_option maxRecDepth 100000 in
theorem cloneEnts_any (a : Option Addr) (cap : Nat) (L : List E) (w : World) (h : EntAt w a cap L) (hl : L.length ≤ 100000) :
    Calls Try.prog 57 #[.slice a L.length cap] w fun e w' => ∃ b' a' cap', e = .returned (.slice a' L.length cap') ∧ Made 40 w w' b' a' cap' L := by
  have HI := Lib.hid h
  have heq := fun w => run_eql_nil (P := Try.prog) w 25 40 a L.length cap Try.underlying25
  clear h
  cases a with
  | none =>
    obtain ⟨h1, h2⟩ := HI.out.bare
    subst h1 h2
    simp only [Option.isNone_none, List.length_nil] at heq
    go_enter Try.func57, Try.ntmps57
    go_wp2_with fail
    go_ret
    exact ⟨w.heap.size, none, 0, rfl, Made.nil _ _⟩
  | some ad =>
    simp only [Option.isNone_some] at heq
    go_enter Try.func57, Try.ntmps57
    go_wp2_with (at_builtin; refine wpList_append_cells rfl _ _ _ rfl 40 16 _ _ 152 Try.underlying25 rfl rfl rfl rfl rfl w.heap.size (some ⟨w.heap.size, 0, none⟩) 0 0 [] rfl (own_newC (by simp) (Nat.le_refl _) (by decide) (by simp) (by simp)) (some ad) cap L.length (flat L) rfl (HI.out.alloc _).src flat_one (by omega) (by omega) ?_; intro b' a' cap' w' h2 h3 h4 h5)
    go_ret
    exact ⟨b', a', cap', rfl, (by have h6 := h2; simp only [Nat.zero_add, List.nil_append] at h6; exact h6), (by rcases h4 with ⟨h4, _⟩ | h4 <;> first | omega | (rw [Bh.size_alloc] at h4; omega)), Li.own_beh2 ((Kept.refl _ _).alloc _) h3 (fun k hk => Nat.le_of_eq hk.2.symm)⟩
set_option maxHeartbeats 800000 in
set_option maxRecDepth 100000 in
theorem spoilEnts_any (b : Nat) (a : Option Addr) (cap : Nat) (L : List E) (w : World) (h : OwnL 40 w b a cap L) (hl : L.length ≤ 100000) :
    Calls Try.prog 33 #[.slice a L.length cap] w fun e w' => e = .returned (.tuple #[]) ∧ Kept (Of a b) w w' := by
  have hcell : Hid (0 < L.length → a = some ⟨b, 0, none⟩ ∧ ∃ cur : Array Value, w.heap[b]? = some (.cells cur 40 (0, 0)) ∧ L.length * 16 ≤ cur.size) := fun h0 => by
    rcases h.2 with ⟨_, _, h3⟩ | ⟨ha, h1, _, cur, h2, h3, _⟩
    · omega
    · have h3 : cur.size = cap * 16 := h3
      exact ⟨ha, cur, h2, by omega⟩
  clear h
  go_enter Try.func33, Try.ntmps33
  go_wp2
  go_loopw [2] (fun i wr => ∃ k : Nat, k ≤ L.length ∧ i = .int .i64 k ∧ Hid (Kept (Of a b) w wr) ∧ Hid (0 < L.length → a = some ⟨b, 0, none⟩ ∧ ∃ cur : Array Value, wr.heap[b]? = some (.cells cur 40 (0, 0)) ∧ L.length * 16 ≤ cur.size)) (fun i _ => L.length - (intOf i).toNat)
  case atStart => exact ⟨0, by omega, rfl, Kept.refl _ _, hcell.out⟩
  case round =>
    obtain ⟨k, hk, rfl, hw, hc⟩ := hrel
    by_cases hlt : k < L.length
    · obtain ⟨rfl, cur, hh, hs⟩ := hc.out (by omega)
      have c0 : wr.cell? ⟨b, k * 16, none⟩ = some (cur.getD (k * 16) undef) := by
        have : k * 16 < cur.size := by omega
        simp [World.cell?, hh, this]
      have f0 := frozen_of hh (k * 16)
      have HH := Lib.hid hh
      clear hh
      go_wp2
      go_roundw
      case rel => exact ⟨k + 1, by omega, by go_num, hw.out.setCell (.inl ⟨by simp, rfl⟩) _, fun _ => ⟨by first | rfl | trivial, _, Li.heap_setc HH.out, by simpa using hs⟩⟩
      case measure => simp [intOf]; omega
    · obtain rfl : k = L.length := by omega
      go_wp2
      go_end0
      exact ⟨rfl, hw.out⟩
def heavyL (L : List E) : Bool := decide (200 < L.length) || L.any (fun x => x.call.cmd.heavy)
theorem any_next {L : List E} {k : Nat} (hk : k < L.length) (h : (L.take k).any (fun x => x.call.cmd.heavy) = false) (hx : (L.getD k E.zero).call.cmd.heavy = false) : (L.take (k + 1)).any (fun x => x.call.cmd.heavy) = false := by
  have e : L.getD k E.zero = L[k] := by simp [hk]
  rw [e] at hx
  rw [List.take_succ_eq_append_getElem hk, List.any_append, h]
  simp [hx]
theorem any_hit {L : List E} {k : Nat} (hk : k < L.length) (hx : (L.getD k E.zero).call.cmd.heavy = true) : heavyL L = true := by
  have e : L.getD k E.zero = L[k] := by simp [hk]
  rw [e] at hx
  unfold heavyL
  rw [Bool.or_eq_true, List.any_eq_true]
  exact .inr ⟨_, List.getElem_mem hk, hx⟩
set_option maxHeartbeats 1600000 in
set_option maxRecDepth 100000 in
theorem heavyEnts_any (a : Option Addr) (cap : Nat) (L : List E) (w : World) (h : EntAt w a cap L) :
    Calls Try.prog 36 #[.slice a L.length cap] w fun e w' => e = .returned (.bool (heavyL L)) ∧ Below w.heap.size w w' := by
  have HI := Lib.hid h
  have hmx : L.length ≤ 9223372036854775807 := Nat.le_trans h.len h.max
  clear h
  by_cases hm : 200 < L.length
  · have d1 : decide ((200 : Int) < (L.length : Int)) = true := decide_eq_true (by omega)
    have HR := Lib.hid (show heavyL L = true by unfold heavyL; rw [decide_eq_true hm]; rfl)
    clear hm
    go_enter Try.func36, Try.ntmps36
    go_wp2
    go_ret
    exact ⟨ret_bool HR.out.symm, Below.refl _ _⟩
  · have d1 : decide ((200 : Int) < (L.length : Int)) = false := decide_eq_false (by omega)
    have HM := Lib.hid hm
    go_enter Try.func36, Try.ntmps36
    go_wp2
    go_loopw [3] (fun i wr => ∃ k : Nat, k ≤ L.length ∧ i = .int .i64 k ∧ Hid ((L.take k).any (fun x => x.call.cmd.heavy) = false) ∧ Hid (Beh w wr)) (fun i _ => L.length - (intOf i).toNat)
    case atStart => exact ⟨0, by omega, rfl, rfl, Beh.start _⟩
    case round =>
      obtain ⟨k, hk, rfl, hs, HW⟩ := hrel
      by_cases hlt : k < L.length
      · obtain ⟨b, off, rfl, hc⟩ := EntAt.cells (HI.out.below HW.out) (by omega)
        obtain ⟨c0, c1, c2, c3, c4, c5, c6, c7, c8, c9, c10, c11, c12, c13, c14, c15⟩ := hc k hlt
        have HN := Lib.hid (any_next hlt hs.out)
        have HH := Lib.hid (any_hit hlt)
        clear hc
        generalize L.getD k E.zero = x at *
        have HV := fun w => Lib.hid (heavyCmd_any x.call.cmd w)
        cases hq : x.call.cmd.heavy
        · simp only [hq] at HV
          go_wp2_with (go_at_call 58; refine ((HV _).out).mono ?_; rintro e w' ⟨rfl, hb⟩; (have HW := Lib.hid (HW.out.on hb)); clear hb)
          go_roundw
          case rel => exact ⟨k + 1, by omega, by go_num, HN.out hq, HW.out⟩
          case measure => simp [intOf]; omega
        · simp only [hq] at HV
          go_wp2_with (go_at_call 58; refine ((HV _).out).mono ?_; rintro e w' ⟨rfl, hb⟩; (have HW := Lib.hid (HW.out.on hb)); clear hb)
          go_ret
          exact ⟨ret_bool (HH.out hq).symm, HW.out⟩
      · obtain rfl : k = L.length := by omega
        go_wp2
        go_ret
        refine ⟨ret_bool ?_, HW.out⟩
        have := hs.out
        rw [List.take_length] at this
        unfold heavyL
        rw [this, decide_eq_false HM.out]; rfl
end Go.Proofs.Ytaifjkilmdnfbaa.Lg
