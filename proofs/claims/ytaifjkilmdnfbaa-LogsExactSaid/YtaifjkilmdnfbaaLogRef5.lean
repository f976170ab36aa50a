import Derived.Test.YtaifjkilmdnfbaaMergeLgF
import Derived.Test.YtaifjkilmdnfbaaLogCode8
/- The reference: From. -/
namespace Go.Proofs.Ytaifjkilmdnfbaa.Lg
open Go Go.RowKit Vl Kv Ss Cn Mem Li Nm
attribute [local go_sem] Nm.run_bits Nm.run_frombits run_store_float
attribute [local irreducible] wpQuiet
theorem from_told {h : H} {i most : Int} (x : h.base < i) : h.from_ i most = (h.log.drop (h.pos i)).take most.toNat := by
  unfold H.from_
  by_cases y : h.has i = true
  · by_cases z : 1 ≤ most
    · rw [if_pos ⟨y, z⟩]
    · rw [if_neg (by omega), show most.toNat = 0 by omega, List.take_zero]
  · rw [if_neg (fun hh => y hh.1)]
    have : h.log.length ≤ h.pos i := by
      unfold H.has H.last at y
      unfold H.pos
      rw [Bool.and_eq_true, decide_eq_true_eq, decide_eq_true_eq] at y
      omega
    rw [List.drop_eq_nil_of_le this]; simp
/-- an entry in a block of its own -/
theorem one_ent {w : World} {b : Nat} {x : E} (h : w.heap[b]? = some x.obj) : EntAt w (some ⟨b, 0, none⟩) 1 [x] := by
  refine ⟨Nat.le_refl _, by omega, fun h => (by cases h), fun _ => ⟨b, 0, rfl, fun i hi j u hu => ?_⟩⟩
  obtain rfl : i = 0 := by simp at hi; omega
  have hu : x.cells[j]? = some u := hu
  have hj : j < 16 := (List.getElem?_eq_some_iff.1 hu).1
  show w.cell? ⟨b, 0 + 0 * 16 + j, none⟩ = some u
  rw [show 0 + 0 * 16 + j = j by omega, cell_of_row w b j _ _ _ h, ← hu]
  unfold E.cells
  simp
theorem take_next {S : List E} {k : Nat} (hk : k < S.length) : S.take (k + 1) = S.take k ++ [S.getD k E.zero] := by
  rw [List.take_succ_eq_append_getElem hk]; simp [hk]
theorem from_get {h : H} {i most : Int} {k : Nat} (x : h.base < i) (hk : k < (h.from_ i most).length) : (h.from_ i most).getD k E.zero = h.entry (i + k) ∧ (k : Int) < most ∧ i + k ≤ h.base + h.log.length := by
  have hk0 := hk
  rw [from_told x] at hk ⊢
  rw [List.length_take, List.length_drop] at hk
  have hp : h.pos i + k < h.log.length := by omega
  have hpos : (h.pos i : Int) = i - h.base - 1 := by unfold H.pos; omega
  refine ⟨?_, by omega, by omega⟩
  have hh : h.has (i + k) = true := has_iff.2 ⟨by omega, by unfold H.last; omega⟩
  rw [entry_in hh]
  have : h.pos (i + k) = h.pos i + k := by unfold H.pos; omega
  rw [this]
  simp [List.getD, hk, hp]
theorem from_end {h : H} {i most : Int} (x : h.base < i) : most ≤ ((h.from_ i most).length : Int) ∨ h.base + h.log.length < i + (h.from_ i most).length := by
  rw [from_told x, List.length_take, List.length_drop]
  have hpos : (h.pos i : Int) = i - h.base - 1 := by unfold H.pos; omega
  omega
theorem from_len {h : H} {i most : Int} : (h.from_ i most).length ≤ h.log.length := by
  unfold H.from_
  split
  · rw [List.length_take, List.length_drop]; omega
  · exact Nat.zero_le _
set_option maxHeartbeats 6400000 in
set_option maxRecDepth 100000 in
theorem rFrom_any (h : H) (p : Hp) (i most : Int) (w : World) (hn : h.Num) (ha : HardAt w h p) :
    Calls Try.prog 28 #[h.val p, .int .i64 i, .int .i64 most] w (FromTold h i most w) := by
  have HL : Hid (∀ W j, Kv.Beh w W → Calls Try.prog 17 #[h.val p, .int .i64 j] W (EntTold h j W)) := fun W j hW => At_any h p j W hn (ha.on hW)
  unfold EntTold at HL
  have HB0 : Hid (∀ W, Kv.Beh (w.alloc (h.obj p)) W → Bh.Bx w [h.obj p] W) := fun W hW => (Bh.Bx.one w (h.obj p)).on hW
  have n1 := hn.lo; have n2 := hn.hi; have n3 := hn.len
  clear ha hn
  unfold FromTold
  by_cases hb : i ≤ h.base
  · have x1 := decide_eq_true hb
    have hno : h.from_ i most = [] := from_no (has_lo hb)
    rw [hno]
    clear hb hno
    obtain ⟨c0, c1, c2, c3, c4, c5, c6, c7, c8, c9⟩ := cells10h (HB0.out _ (Beh.start _)).b0
    go_enter Try.func28, Try.ntmps28
    go_wp2_with fail
    go_ret
    exact ⟨w.heap.size, none, 0, rfl, Made.nil' (HB0.out _ (Beh.start _)).beh⟩
  · have x1 := decide_eq_false hb
    have HG := Lib.hid (fun k => from_get (h := h) (i := i) (most := most) (k := k) (by omega))
    have HE := Lib.hid (from_end (h := h) (i := i) (most := most) (by omega))
    have HSL := Lib.hid (from_len (h := h) (i := i) (most := most))
    generalize h.from_ i most = S at *
    obtain ⟨c0, c1, c2, c3, c4, c5, c6, c7, c8, c9⟩ := cells10h (HB0.out _ (Beh.start _)).b0
    go_enter Try.func28, Try.ntmps28
    go_wp2_with fail
    clear c0 c1 c2 c3 c4 c5 c6 c7 c8 c9
    go_loopw [1, 7, 8, 9] (fun s o _ _ wr => ∃ (k b : Nat) (a : Option Addr) (cap : Nat), k ≤ S.length ∧ s = .int .i64 (i + k) ∧ o = .slice a k cap ∧ Hid (Made 40 (w.alloc (h.obj p)) wr b a cap (S.take k))) (fun s _ _ _ _ => (i + S.length - intOf s).toNat)
    case atStart => exact ⟨0, (w.alloc (h.obj p)).heap.size, none, 0, by omega, by simp, rfl, Made.nil _ _⟩
    case round =>
      obtain ⟨k, b, a, cap, hk, rfl, rfl, HM⟩ := hrel
      have hsl := HSL.out
      obtain ⟨c0, c1, c2, c3, c4, c5, c6, c7, c8, c9⟩ := cells10h (HB0.out _ HM.out.beh).b0
      by_cases hlt : k < S.length
      · obtain ⟨hg, hm, hi⟩ := HG.out k hlt
        have d1 := decide_eq_true hm
        have d2 := decide_eq_true hi
        have HT : Hid (S.take (k + 1) = S.take k ++ [h.entry (i + k)]) := by show _ = _; rw [take_next hlt, hg]
        have HTL : Hid ((S.take k).length = k) := by show _ = _; rw [List.length_take]; omega
        have HB := Lib.hid (HB0.out _ HM.out.beh)
        have HLk := fun W => Lib.hid (HL.out W (i + k))
        generalize h.entry (i + k) = x at *
        have hib : i + k + 1 ≤ 9223372036854775807 := by omega
        have hib0 : 0 < i := by omega
        clear hg hm hi HG HE
        go_wp2_with (first
          | (apply Bh.load_bx 0 HB.out Try.underlying27; rfl; rfl; rfl; rfl; rfl; kernel_rfl)
          | (go_at_call 17; refine Calls.mono ((HLk _).out HB.out.beh) ?_; rintro e wq ⟨rfl, hb⟩; (have HB := Lib.hid (HB.out.on hb)); (have HM := Lib.hid (HM.out.on hb)); clear hb; (have HX := Lib.hid (Bh.Bx.one wq E.zero.obj)))
          | (apply Bh.store_bx 16 0 HX.out; rfl; rfl; rfl; rfl; rfl; rfl; kernel_rfl; rfl; rfl; intro wz hz; have HX := Lib.hid hz; clear hz)
          | (apply Bh.load_bx 0 HX.out Try.underlying40; rfl; rfl; rfl; rfl; rfl; kernel_rfl)
          | (at_builtin; refine wpList_append_cells rfl _ _ _ rfl 40 16 _ _ 152 Try.underlying25 rfl rfl rfl rfl rfl b a cap k (Li.flat (S.take k)) rfl (by have := ((HM.out.on HX.out.beh).on (Bh.below_alloc _ (E.obj x))).own; unfold OwnL at this; rw [HTL.out] at this; exact this) _ 1 1 (Li.flat [x]) rfl (by exact ListAt.src (one_ent (x := x) (Bh.alloc_here _ rfl))) flat_one (by omega) (by omega) ?_; intro b' a' cap' w' h2 h3 h4 h5; (have HM := Lib.hid (Li.Made.more (M := [x]) ((HM.out.on HX.out.beh).on (Bh.below_alloc _ (E.obj x))) (by rw [HTL.out]; exact h2) h3 h4)); clear h2 h3 h4 h5))
        go_roundw
        case rel => exact ⟨k + 1, b', a', cap', by omega, by congr 1; omega, by first | rfl | (congr 1), by show Made _ _ _ _ _ _ _; rw [HT.out]; exact HM.out⟩
        case measure => simp [intOf]; omega
      · obtain rfl : k = S.length := by omega
        have HE2 := HE.out
        clear HG HE
        have HF : Hid (Made 40 w wr b a cap S) := by
          have := HM.out.from (Bh.below_alloc w (h.obj p))
          rwa [List.take_length] at this
        by_cases z : most ≤ (S.length : Int)
        · have d1 : decide ((S.length : Int) < most) = false := decide_eq_false (by omega)
          go_wp2_with fail
          go_ret
          exact ⟨b, a, cap, rfl, HF.out⟩
        · have d1 : decide ((S.length : Int) < most) = true := decide_eq_true (by omega)
          have d2 : decide (i + (S.length : Int) ≤ h.base + (h.log.length : Int)) = false := decide_eq_false (by omega)
          go_wp2_with fail
          go_ret
          exact ⟨b, a, cap, rfl, HF.out⟩
end Go.Proofs.Ytaifjkilmdnfbaa.Lg
