import Derived.Test.YtaifjkilmdnfbaaMergeLgC
import Derived.Test.YtaifjkilmdnfbaaLogSlice
import Derived.Lib.MinMax
/- Package logs: From. -/
namespace Go.Proofs.Ytaifjkilmdnfbaa.Lg
open Go Go.RowKit Vl Kv Ss Cn Mem Li Nm
attribute [local go_sem] Nm.run_bits Nm.run_frombits run_store_float
attribute [local irreducible] wpQuiet
theorem from_in {h : H} {i most : Int} (x : h.has i = true) (y : 1 ≤ most) : h.from_ i most = (h.log.drop (h.pos i)).take (min most.toNat (h.log.drop (h.pos i)).length) := by
  unfold H.from_
  rw [if_pos ⟨x, y⟩]
  generalize h.log.drop (h.pos i) = D
  by_cases z : most.toNat ≤ D.length
  · rw [Nat.min_eq_left z]
  · rw [Nat.min_eq_right (by omega), List.take_of_length_le (by omega), List.take_of_length_le (by omega)]
theorem from_no {h : H} {i most : Int} (x : h.has i = false) : h.from_ i most = [] := by unfold H.from_; rw [if_neg (by rw [x]; simp)]
theorem from_no2 {h : H} {i most : Int} (x : most < 1) : h.from_ i most = [] := by unfold H.from_; rw [if_neg (by omega)]
/-- what From tells -/
def FromTold (h : H) (i most : Int) (w : World) (e : Ending) (w' : World) : Prop := ∃ b' a' cap', e = .returned (.slice a' (h.from_ i most).length cap') ∧ Made 40 w w' b' a' cap' (h.from_ i most)
set_option maxHeartbeats 3200000 in
set_option maxRecDepth 100000 in
theorem From_any (h : H) (p : Hp) (i most : Int) (w : World) (hn : h.Num) (ha : HardAt w h p) (hm : most ≤ 9223372036854775807) :
    Calls Try.prog 25 #[h.val p, .int .i64 i, .int .i64 most] w (FromTold h i most w) := by
  have HL : Hid (∀ W, Kv.Beh w W → Calls Try.prog 50 #[h.val p, .int .i64 i] W fun e w' => e = .returned (.tuple #[.int .i64 (if h.has i = true then (h.pos i : Int) else 0), .bool (h.has i)]) ∧ Below W.heap.size W w') := fun W hW => place_any h p i W hn (ha.on hW)
  have HB := Lib.hid (Bh.Bx.one w (h.obj p))
  have HI := Lib.hid ha.log
  have HPL := Lib.hid (pos_lt (h := h) (i := i))
  have H1 := Lib.hid (from_in (h := h) (i := i) (most := most))
  have H2 := Lib.hid (from_no (h := h) (i := i) (most := most))
  have H3 := Lib.hid (from_no2 (h := h) (i := i) (most := most))
  have hlen := hn.len
  clear ha hn
  unfold FromTold
  cases hh : h.has i
  · rw [hh] at HL
    rw [if_neg (by simp)] at HL
    rw [H2.out hh]
    clear H1 H2 H3 HPL hh
    go_enter Try.func25, Try.ntmps25
    go_wp2_with (first
      | (go_at_call 50; refine Calls.mono (HL.out _ HB.out.beh) ?_; rintro e wq ⟨rfl, hb⟩; (have HB := Lib.hid (HB.out.on hb)); clear hb)
      | (apply Bh.load_bx 0 HB.out Try.underlying27; rfl; rfl; rfl; rfl; rfl; kernel_rfl))
    go_ret
    exact ⟨w.heap.size, none, 0, rfl, Made.nil' HB.out.beh⟩
  · rw [hh] at HL
    rw [if_pos rfl] at HL
    have hkl := HPL.out hh
    have H1 := Lib.hid (H1.out hh)
    clear HPL H2 hh
    by_cases hmo : most < 1
    · rw [H3.out hmo]
      clear H1 H3
      generalize h.pos i = k at *
      go_enter Try.func25, Try.ntmps25
      go_wp2_with (first
        | (go_at_call 50; refine Calls.mono (HL.out _ HB.out.beh) ?_; rintro e wq ⟨rfl, hb⟩; (have HB := Lib.hid (HB.out.on hb)); clear hb)
        | (apply Bh.load_bx 0 HB.out Try.underlying27; rfl; rfl; rfl; rfl; rfl; kernel_rfl))
      go_ret
      exact ⟨w.heap.size, none, 0, rfl, Made.nil' HB.out.beh⟩
    · have H1 := Lib.hid (H1.out (by omega))
      rw [H1.out]
      clear H1 H3
      generalize h.pos i = k at *
      obtain ⟨j, hj⟩ : ∃ j, min most.toNat (h.log.drop k).length = j := ⟨_, rfl⟩
      obtain ⟨a1, n1, c1, hs1, hn1, he1⟩ := slice_from HI.out k (by omega)
      obtain ⟨n2, hs2, hn2, he2⟩ := slice_to (n := n1) (he1 w (Beh.start w)) j (by rw [← hj]; exact Nat.min_le_right _ _)
      have hmin : min most (n1 : Int) = (j : Int) := by rw [hn1]; omega
      have hle : n2 ≤ 100000 := by rw [hn2, List.length_take, List.length_drop]; omega
      have HE := Lib.hid he2
      have HN2 := Lib.hid hn2
      have HK : Hid (∀ W, Kv.Beh w W → Calls Try.prog 57 #[.slice a1 n2 c1] W fun e w' => ∃ b' a' cap', e = .returned (.slice a' n2 cap') ∧ Made 40 W w' b' a' cap' ((h.log.drop k).take j)) := fun W hW => by
        have := cloneEnts_any a1 c1 _ W (HE.out W hW) (by rw [← HN2.out]; omega)
        rwa [← HN2.out] at this
      rw [hj, ← HN2.out]
      clear hj he1 he2 hn1 hn2 HE
      obtain ⟨c0, c1', c2, c3, c4, c5, c6, c7, c8, c9⟩ := cells10h HB.out.b0
      clear c0 c1' c2 c3 c4 c5 c6 c7 c8 c9
      go_enter Try.func25, Try.ntmps25
      go_wp2_with (first
        | (go_at_call 50; refine Calls.mono (HL.out _ HB.out.beh) ?_; rintro e wq ⟨rfl, hb⟩; (have HB := Lib.hid (HB.out.on hb)); clear hb; (obtain ⟨x0, x1, x2, x3, x4, x5, x6, x7, x8, x9⟩ := cells10h HB.out.b0))
        | (go_at_call 57; refine Calls.mono (HK.out _ HB.out.beh) ?_; rintro e wq ⟨b', a', cap', rfl, hmade⟩; (have HM := Lib.hid (hmade.from HB.out.beh)); clear hmade)
        | (apply Bh.load_bx 0 HB.out Try.underlying27; rfl; rfl; rfl; rfl; rfl; kernel_rfl))
      go_ret
      exact ⟨b', a', cap', rfl, HM.out⟩
end Go.Proofs.Ytaifjkilmdnfbaa.Lg
