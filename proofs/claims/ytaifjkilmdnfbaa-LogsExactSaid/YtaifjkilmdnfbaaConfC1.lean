/- Package conf: Check. -/
import Derived.Test.YtaifjkilmdnfbaaConfC0
namespace Go.Proofs.Ytaifjkilmdnfbaa.Cn
open Go Go.RowKit Bh
attribute [local irreducible] wpQuiet
def C.check (c : C) : Int := if c.right then 0 else 14
set_option maxHeartbeats 1600000 in
theorem Check_any (c : C) (w : World) :
    Calls Try.prog 59 #[c.val] w fun e w' => e = .returned (.int .i64 c.check) ∧ Below w.heap.size w w' := by
  by_cases h0 : c.f = 0
  · have HC := Lib.hid (show c.check = 14 by
      unfold C.check
      rw [if_neg]
      intro h
      exact (right_iff.1 h).ne h0)
    obtain ⟨f, wt, l, x⟩ := c
    simp only at h0
    subst h0
    go_enter Try.func59, Try.ntmps59
    go_wp2_with fail
    go_ret
    exact ⟨ret_int HC.out.symm, below_alloc _ _⟩
  · have HG := Lib.hid (show (∀ k, k < 4 → At c k) → c.check = 0 from fun h => by
      unfold C.check; rw [if_pos (right_iff.2 ((ok_iff c).2 ⟨h0, h⟩))])
    have HN := Lib.hid (show ∀ k, k < 4 → ¬ At c k → c.check = 14 from fun k hk h => by
      unfold C.check
      rw [if_neg]
      intro hr
      exact h (((ok_iff c).1 (right_iff.1 hr)).2 k hk))
    have HS : Hid (∀ k, seen c (k + 1) = bits .or .i64 (seen c k) (fld c k)) := fun _ => rfl
    have HA : Hid (∀ k, 0 ≤ fld c k → fld c k ≤ 127 → bits .and .i64 (fld c k) (seen c k) = 0 → At c k) := fun _ a b d => ⟨a, b, d⟩
    have HR : Hid (∀ k, At c k → 0 ≤ fld c k ∧ fld c k ≤ 127 ∧ bits .and .i64 (fld c k) (seen c k) = 0) := fun _ h => ⟨h.lo, h.hi, h.no⟩
    have e0 : (c.f == 0) = false := by simpa using h0
    have HS0 : Hid (seen c 0 = 0) := rfl
    obtain ⟨f, wt, l, x⟩ := c
    have F0 : Hid (fld ⟨f, wt, l, x⟩ 0 = f) := rfl
    have F1 : Hid (fld ⟨f, wt, l, x⟩ 1 = wt) := rfl
    have F2 : Hid (fld ⟨f, wt, l, x⟩ 2 = l) := rfl
    have F3 : Hid (fld ⟨f, wt, l, x⟩ 3 = x) := rfl
    simp only at e0
    clear h0
    have i0 : ∀ w, (Instr.index 90 (.agg #[.int .i64 f, .int .i64 wt, .int .i64 l, .int .i64 x]) (.int .i64 0)).run Try.prog w = .ok (.int .i64 f) w := fun _ => by kernel_rfl
    have i1 : ∀ w, (Instr.index 90 (.agg #[.int .i64 f, .int .i64 wt, .int .i64 l, .int .i64 x]) (.int .i64 1)).run Try.prog w = .ok (.int .i64 wt) w := fun _ => by kernel_rfl
    have i2 : ∀ w, (Instr.index 90 (.agg #[.int .i64 f, .int .i64 wt, .int .i64 l, .int .i64 x]) (.int .i64 2)).run Try.prog w = .ok (.int .i64 l) w := fun _ => by kernel_rfl
    have i3 : ∀ w, (Instr.index 90 (.agg #[.int .i64 f, .int .i64 wt, .int .i64 l, .int .i64 x]) (.int .i64 3)).run Try.prog w = .ok (.int .i64 x) w := fun _ => by kernel_rfl
    generalize C.check ⟨f, wt, l, x⟩ = CK at *
    go_enter Try.func59, Try.ntmps59
    go_wp2_with fail
    generalize C.mk f wt l x = c at *
    go_loop [3, 18] (fun s i => ∃ k : Nat, k ≤ 4 ∧ i = .int .i64 k ∧ s = .int .i64 (seen c k) ∧ Hid (∀ j, j < k → At c j)) (fun _ i => 4 - (intOf i).toNat)
    case atStart => exact ⟨0, by omega, rfl, by rw [HS0.out], fun j hj => absurd hj (by omega)⟩
    case round =>
      obtain ⟨k, hk, rfl, rfl, hat⟩ := hrel
      obtain rfl | rfl | rfl | rfl | rfl : k = 0 ∨ k = 1 ∨ k = 2 ∨ k = 3 ∨ k = 4 := by omega
      · have HK := Lib.hid (HS.out 0)
        have HAk := HA.out 0
        have HRk := HR.out 0
        rw [F0.out] at HK HAk HRk
        have HAk := Lib.hid HAk
        have HRk := Lib.hid HRk
        generalize seen c 0 = S at *
        by_cases a1 : f < 0
        · have HE := Lib.hid (HN.out 0 (by omega) (fun h => by have := HRk.out h; omega))
          go_wp2_with fail
          go_ret
          exact ⟨ret_int HE.out.symm, below_alloc _ _⟩
        · by_cases a2 : 127 < f
          · have HE := Lib.hid (HN.out 0 (by omega) (fun h => by have := HRk.out h; omega))
            go_wp2_with fail
            go_ret
            exact ⟨ret_int HE.out.symm, below_alloc _ _⟩
          · by_cases a3 : bits .and .i64 f S = 0
            · have HT := Lib.hid (HAk.out (by omega) (by omega) a3)
              have a4 : (bits .and .i64 f S != 0) = false := by rw [a3]; rfl
              clear a3
              go_wp2_with fail
              go_round
              case rel => exact ⟨0 + 1, by omega, by go_num, by rw [HK.out], fun j hj => if h : j = 0 then h ▸ HT.out else hat.out j (by omega)⟩
              case measure => simp [intOf]
            · have HE := Lib.hid (HN.out 0 (by omega) (fun h => a3 (HRk.out h).2.2))
              have a4 : (bits .and .i64 f S != 0) = true := by simpa using a3
              clear a3
              go_wp2_with fail
              go_ret
              exact ⟨ret_int HE.out.symm, below_alloc _ _⟩
      · have HK := Lib.hid (HS.out 1)
        have HAk := HA.out 1
        have HRk := HR.out 1
        rw [F1.out] at HK HAk HRk
        have HAk := Lib.hid HAk
        have HRk := Lib.hid HRk
        generalize seen c 1 = S at *
        by_cases a1 : wt < 0
        · have HE := Lib.hid (HN.out 1 (by omega) (fun h => by have := HRk.out h; omega))
          go_wp2_with fail
          go_ret
          exact ⟨ret_int HE.out.symm, below_alloc _ _⟩
        · by_cases a2 : 127 < wt
          · have HE := Lib.hid (HN.out 1 (by omega) (fun h => by have := HRk.out h; omega))
            go_wp2_with fail
            go_ret
            exact ⟨ret_int HE.out.symm, below_alloc _ _⟩
          · by_cases a3 : bits .and .i64 wt S = 0
            · have HT := Lib.hid (HAk.out (by omega) (by omega) a3)
              have a4 : (bits .and .i64 wt S != 0) = false := by rw [a3]; rfl
              clear a3
              go_wp2_with fail
              go_round
              case rel => exact ⟨1 + 1, by omega, by go_num, by rw [HK.out], fun j hj => if h : j = 1 then h ▸ HT.out else hat.out j (by omega)⟩
              case measure => simp [intOf]
            · have HE := Lib.hid (HN.out 1 (by omega) (fun h => a3 (HRk.out h).2.2))
              have a4 : (bits .and .i64 wt S != 0) = true := by simpa using a3
              clear a3
              go_wp2_with fail
              go_ret
              exact ⟨ret_int HE.out.symm, below_alloc _ _⟩
      · have HK := Lib.hid (HS.out 2)
        have HAk := HA.out 2
        have HRk := HR.out 2
        rw [F2.out] at HK HAk HRk
        have HAk := Lib.hid HAk
        have HRk := Lib.hid HRk
        generalize seen c 2 = S at *
        by_cases a1 : l < 0
        · have HE := Lib.hid (HN.out 2 (by omega) (fun h => by have := HRk.out h; omega))
          go_wp2_with fail
          go_ret
          exact ⟨ret_int HE.out.symm, below_alloc _ _⟩
        · by_cases a2 : 127 < l
          · have HE := Lib.hid (HN.out 2 (by omega) (fun h => by have := HRk.out h; omega))
            go_wp2_with fail
            go_ret
            exact ⟨ret_int HE.out.symm, below_alloc _ _⟩
          · by_cases a3 : bits .and .i64 l S = 0
            · have HT := Lib.hid (HAk.out (by omega) (by omega) a3)
              have a4 : (bits .and .i64 l S != 0) = false := by rw [a3]; rfl
              clear a3
              go_wp2_with fail
              go_round
              case rel => exact ⟨2 + 1, by omega, by go_num, by rw [HK.out], fun j hj => if h : j = 2 then h ▸ HT.out else hat.out j (by omega)⟩
              case measure => simp [intOf]
            · have HE := Lib.hid (HN.out 2 (by omega) (fun h => a3 (HRk.out h).2.2))
              have a4 : (bits .and .i64 l S != 0) = true := by simpa using a3
              clear a3
              go_wp2_with fail
              go_ret
              exact ⟨ret_int HE.out.symm, below_alloc _ _⟩
      · have HK := Lib.hid (HS.out 3)
        have HAk := HA.out 3
        have HRk := HR.out 3
        rw [F3.out] at HK HAk HRk
        have HAk := Lib.hid HAk
        have HRk := Lib.hid HRk
        generalize seen c 3 = S at *
        by_cases a1 : x < 0
        · have HE := Lib.hid (HN.out 3 (by omega) (fun h => by have := HRk.out h; omega))
          go_wp2_with fail
          go_ret
          exact ⟨ret_int HE.out.symm, below_alloc _ _⟩
        · by_cases a2 : 127 < x
          · have HE := Lib.hid (HN.out 3 (by omega) (fun h => by have := HRk.out h; omega))
            go_wp2_with fail
            go_ret
            exact ⟨ret_int HE.out.symm, below_alloc _ _⟩
          · by_cases a3 : bits .and .i64 x S = 0
            · have HT := Lib.hid (HAk.out (by omega) (by omega) a3)
              have a4 : (bits .and .i64 x S != 0) = false := by rw [a3]; rfl
              clear a3
              go_wp2_with fail
              go_round
              case rel => exact ⟨3 + 1, by omega, by go_num, by rw [HK.out], fun j hj => if h : j = 3 then h ▸ HT.out else hat.out j (by omega)⟩
              case measure => simp [intOf]
            · have HE := Lib.hid (HN.out 3 (by omega) (fun h => a3 (HRk.out h).2.2))
              have a4 : (bits .and .i64 x S != 0) = true := by simpa using a3
              clear a3
              go_wp2_with fail
              go_ret
              exact ⟨ret_int HE.out.symm, below_alloc _ _⟩
      · have HE := Lib.hid (HG.out hat.out)
        go_wp2_with fail
        go_ret
        exact ⟨ret_int HE.out.symm, below_alloc _ _⟩
end Go.Proofs.Ytaifjkilmdnfbaa.Cn
