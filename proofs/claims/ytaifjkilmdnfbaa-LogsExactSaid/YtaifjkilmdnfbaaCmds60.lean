/- Walks on commands: HeavyCmd, hasRightValues. -/
import Derived.Test.YtaifjkilmdnfbaaBeh0
import Derived.Test.YtaifjkilmdnfbaaCode5a0
namespace Go.Proofs.Ytaifjkilmdnfbaa.Kv
open Go Go.RowKit Vl Nm Mem
attribute [local go_sem] run_bits run_frombits run_store_float
def Cm.heavy (c : Cm) : Bool := decide (2000 < c.key.size) || decide (2000 < c.old.text.size) || decide (2000 < c.val.text.size)
set_option maxHeartbeats 800000 in
theorem heavyCmd_any (c : Cm) (w : World) :
    Calls Try.prog 58 #[c.agg] w fun e w' => e = .returned (.bool c.heavy) ∧ Below w.heap.size w w' := by
  obtain ⟨k, key, ⟨ok, on, os⟩, ⟨vk, vn, vs⟩⟩ := c
  have HC := Lib.hid (show (Cm.mk k key ⟨ok, on, os⟩ ⟨vk, vn, vs⟩).heavy = (decide ((2000 : Int) < (key.size : Int)) || decide ((2000 : Int) < (os.size : Int)) || decide ((2000 : Int) < (vs.size : Int))) by
    unfold Cm.heavy; rw [← int_gt (n := 2000), ← int_gt (n := 2000), ← int_gt (n := 2000)]; rfl)
  cases h0 : decide ((2000 : Int) < (key.size : Int)) <;> cases h1 : decide ((2000 : Int) < (os.size : Int))
  all_goals
    go_enter Try.func58, Try.ntmps58
    go_wp2_with fail
    go_ret
    exact ⟨ret_bool (by rw [HC.out, h0, h1]; simp), below_alloc _ _⟩
theorem vals_told (c : Cm) : c.vals = ((c.old.check == 0) && (c.val.check == 0) &&
    (if c.kind = 2 then (c.old.kind == 0) && (c.val.kind != 0) else if c.kind = 4 then true
     else if c.kind = 5 ∨ c.kind = 6 then (c.old.kind == 0) && (c.val.kind == 1) else (c.old.kind == 0) && (c.val.kind == 0))) := by
  have e : ∀ a b : Int, decide (a = b) = (a == b) := fun a b => by rw [Bool.eq_iff_iff]; simp
  have e2 : ∀ a b : Int, decide (a ≠ b) = (a != b) := fun a b => by rw [Bool.eq_iff_iff]; simp
  unfold Cm.vals
  simp only [e, e2]
set_option maxHeartbeats 3200000 in
theorem hasRight_any (c : Cm) (w : World) :
    Calls Try.prog 82 #[c.agg] w fun e w' => e = .returned (.bool c.vals) ∧ Below w.heap.size w w' := by
  have HC := Lib.hid (vals_told c)
  have HA := Lib.hid (alloc_here (w := w) c.obj rfl)
  have HB := Lib.hid (below_alloc w c.obj)
  obtain ⟨k, key, ⟨ok, on, os⟩, ⟨vk, vn, vs⟩⟩ := c
  unfold Cm.obj at HA HB
  cases a1 : ((V.mk ok on os).check == 0)
  · have a2 : ((V.mk ok on os).check != 0) = true := by rw [bne, a1]; rfl
    go_enter Try.func82, Try.ntmps82
    go_wp2_with (first | (go_at_call 87; refine (Check_any ⟨_, _, _⟩ _).mono ?_; rintro e w' ⟨rfl, hb⟩; (have HA := Lib.hid (box_on HA.out hb)); (have HB := Lib.hid (blw HB.out hb)); clear hb; obtain ⟨c0, c1, c2, c3, c4, c5, c6, c7⟩ := cells8 HA.out))
    go_ret
    exact ⟨ret_bool (by rw [HC.out]; simp [a1]), HB.out⟩
  · have a2 : ((V.mk ok on os).check != 0) = false := by rw [bne, a1]; rfl
    cases b1 : ((V.mk vk vn vs).check == 0)
    · have b2 : ((V.mk vk vn vs).check != 0) = true := by rw [bne, b1]; rfl
      go_enter Try.func82, Try.ntmps82
      go_wp2_with (first | (go_at_call 87; refine (Check_any ⟨_, _, _⟩ _).mono ?_; rintro e w' ⟨rfl, hb⟩; (have HA := Lib.hid (box_on HA.out hb)); (have HB := Lib.hid (blw HB.out hb)); clear hb; obtain ⟨c0, c1, c2, c3, c4, c5, c6, c7⟩ := cells8 HA.out))
      go_ret
      exact ⟨ret_bool (by rw [HC.out]; simp [a1, b1]), HB.out⟩
    · have b2 : ((V.mk vk vn vs).check != 0) = false := by rw [bne, b1]; rfl
      rcases (show k = 2 ∨ k = 4 ∨ k = 5 ∨ k = 6 ∨ (k ≠ 2 ∧ k ≠ 4 ∧ k ≠ 5 ∧ k ≠ 6) by omega) with rfl | rfl | rfl | rfl | ⟨n2, n4, n5, n6⟩
      case' inr.inr.inr.inr =>
        have m2 := int_nbeq n2
        have m4 := int_nbeq n4
        have m5 := int_nbeq n5
        have m6 := int_nbeq n6
        replace HC := Lib.hid (HC.out.trans (by rw [if_neg n2, if_neg n4, if_neg (by omega : ¬(k = 5 ∨ k = 6))]))
        clear n2 n4 n5 n6
      all_goals cases o1 : (ok == 0) <;> cases v1 : (vk == 0) <;> cases v2 : (vk == 1)
      all_goals
        have v3 : (vk != 0) = !(vk == 0) := rfl
        rw [v1] at v3
        go_enter Try.func82, Try.ntmps82
        go_wp2_with (first | (go_at_call 87; refine (Check_any ⟨_, _, _⟩ _).mono ?_; rintro e w' ⟨rfl, hb⟩; (have HA := Lib.hid (box_on HA.out hb)); (have HB := Lib.hid (blw HB.out hb)); clear hb; obtain ⟨c0, c1, c2, c3, c4, c5, c6, c7⟩ := cells8 HA.out))
        go_ret
        exact ⟨ret_bool (by rw [HC.out]; simp [a1, b1, o1, v1, v2, bne]), HB.out⟩
end Go.Proofs.Ytaifjkilmdnfbaa.Kv
