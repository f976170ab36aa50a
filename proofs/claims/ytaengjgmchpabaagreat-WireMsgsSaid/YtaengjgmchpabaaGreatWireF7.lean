import Derived.Test.YtaengjgmchpabaaGreatMergeWr36
import Derived.Test.YtaengjgmchpabaaGreatMergeWr40
import Derived.Test.YtaengjgmchpabaaGreatWireHm
/- The reference's writers: may a message be written, is one of its texts too long. -/
namespace Go.Proofs.YtaengjgmchpabaaGreat.Wr
open Go Go.RowKit Vl Kv Ss Cn Lg Li Nm
attribute [local go_sem] Nm.run_bits Nm.run_frombits run_store_float
set_option maxHeartbeats 3200000 in
set_option maxRecDepth 100000 in
theorem refFlatM (x : Mr) (w : World) (ha : FlAt w x) (hl : x.1.ents.length ≤ 1000) :
    Calls Tryz.prog 41 #[x.val] w fun e w' => e = .returned (.bool (okF x.1)) ∧ Below w.heap.size w w' := by
  have HB := Lib.hid (Bh.Bx.one w x.obj)
  have HV : Hid (∀ W, Kv.Beh w W → Calls Tryz.prog 71 #[.slice x.2.ea x.1.ents.length x.2.ec] W fun e w' => e = .returned (.bool (okL x.1.ents)) ∧ Below W.heap.size W w') := fun W hW => refEntsOk x.2.ea x.2.ec x.1.ents W (ha.on hW).ents (by omega)
  have HC := Lib.hid (show okF x.1 = (decide ((x.1.ents.length : Int) ≤ 8) && okL x.1.ents) from rfl)
  clear ha
  generalize okL x.1.ents = q at *
  obtain ⟨c0, c1, c2, c3, c4, c5, c6, c7, c8, c9, c10, c11, c12, c13, c14, c15⟩ := cells16m (x := x) HB.out.b0
  by_cases h8 : x.1.ents.length ≤ 8
  · have d1 : decide ((x.1.ents.length : Int) ≤ 8) = true := decide_eq_true (by omega)
    rw [d1] at HC
    clear h8 hl
    cases q
    all_goals
      go_enter Tryz.func41, Tryz.ntmps41
      go_wp2_with (first | (go_at_call 71; refine Calls.mono (HV.out _ HB.out.beh) ?_; rintro e w' ⟨rfl, hb⟩; (have HB := Lib.hid (HB.out.on hb)); clear hb))
      go_ret
      exact ⟨ret_bool (by rw [HC.out]; rfl), HB.out.beh⟩
  · have d1 : decide ((x.1.ents.length : Int) ≤ 8) = false := decide_eq_false (by omega)
    rw [d1] at HC
    clear h8 hl
    go_enter Tryz.func41, Tryz.ntmps41
    go_wp2_with fail
    go_ret
    exact ⟨ret_bool (by rw [HC.out]; rfl), HB.out.beh⟩
/-- may it be written? -/
def mayB (x : Mr) (L : List Mr) : Bool := okF x.1 && (decide ((L.length : Int) ≤ 16) && L.all okI)
theorem mayB_iff {x : Mr} {L : List Mr} (hn : L.length = x.2.n) : mayB x L = true ↔ mayM x L := by
  unfold mayB mayM
  rw [Bool.and_eq_true, Bool.and_eq_true, decide_eq_true_eq, hn]
/-- a text that is too long? -/
def longB (x : Mr) (L : List Mr) : Bool := L.any (fun y => decide (16384 < y.1.snap.length)) || decide (16384 < x.1.snap.length)
theorem longB_iff {x : Mr} {L : List Mr} : longB x L = false ↔ snapsOk x L := by
  unfold longB snapsOk
  rw [Bool.or_eq_false_iff, decide_eq_false_iff_not, List.any_eq_false]
  constructor
  · rintro ⟨h1, h2⟩
    exact ⟨by omega, fun y hy => by have := h1 y hy; rw [decide_eq_true_eq] at this; omega⟩
  · rintro ⟨h1, h2⟩
    exact ⟨fun y hy => by rw [decide_eq_true_eq]; have := h2 y hy; omega, by omega⟩
theorem any_hit {L : List Mr} {k : Nat} (hk : k < L.length) (hx : 16384 < (L.getD k Mr.zero).1.snap.length) (x : Mr) : longB x L = true := by
  unfold longB
  rw [Bool.or_eq_true]
  exact .inl (List.any_eq_true.2 ⟨_, getD_mem hk, decide_eq_true hx⟩)
theorem any_no {L : List Mr} (h : ∀ j, j < L.length → ¬ 16384 < (L.getD j Mr.zero).1.snap.length) (x : Mr) : longB x L = decide (16384 < x.1.snap.length) := by
  unfold longB
  have : L.any (fun y => decide (16384 < y.1.snap.length)) = false := List.any_eq_false.2 fun y hy => by
    obtain ⟨i, hi, rfl⟩ := mem_getD hy
    rw [decide_eq_true_eq]
    exact h i hi
  rw [this, Bool.false_or]
end Go.Proofs.YtaengjgmchpabaaGreat.Wr
