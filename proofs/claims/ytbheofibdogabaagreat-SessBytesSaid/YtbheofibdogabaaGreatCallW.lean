import Derived.Test.YtbheofibdogabaaGreatMergeSb3
import Derived.Test.YtbheofibdogabaaGreatRefCmd60
/- Package sess: mayBe, Right; the reference's Call. -/
namespace Go.Proofs.YtbheofibdogabaaGreat.Ss
open Go Go.RowKit Vl Kv Mem Nm
attribute [local go_sem] run_bits run_frombits run_store_float
theorem ge_one (n : Int) : decide (1 ≤ n) = decide ((1 : Int) ≤ n) := rfl
theorem mayBe_any (c s : Int) (w : World) : Calls Tryz.prog 69 #[.int .i64 c, .int .i64 s] w fun e w' => e = .returned (.bool (mayBe c s)) ∧ w = w' := by
  have HC := Lib.hid (show mayBe c s = (decide (1 ≤ c) && decide (c ≤ 4) && decide (1 ≤ s) && decide (s ≤ 1099511627776)) from rfl)
  cases h1 : decide (1 ≤ c) <;> cases h2 : decide (c ≤ 4) <;> cases h3 : decide (1 ≤ s)
  all_goals
    go_enter Tryz.func69, Tryz.ntmps69
    go_wp2
    go_ret
    exact ⟨ret_bool (by rw [HC.out, h1, h2, h3]; simp), rfl⟩
def Cl.right (c : Cl) : Int := if mayBe c.client c.seq = true then c.cmd.right else 1
set_option maxHeartbeats 800000 in
theorem SRight_any (c : Cl) (w : World) : Calls Tryz.prog 59 #[c.agg] w fun e w' => e = .returned (.int .i64 c.right) ∧ Beh w w' := by
  have HC := Lib.hid (show c.right = if mayBe c.client c.seq = true then c.cmd.right else 1 from rfl)
  have HA := Lib.hid (alloc_here (w := w) c.obj rfl)
  have HB := Lib.hid ((Beh.start w).alloc c.obj)
  have HM := fun w => Lib.hid (mayBe_any c.client c.seq w)
  have HR := fun w => Lib.hid (Right_any c.cmd w)
  obtain ⟨cl, sq, ⟨k0, key, ⟨ok, on, os⟩, ⟨vk, vn, vs⟩⟩⟩ := c
  unfold Cl.obj at HA HB
  dsimp only at HA HB HC HM HR
  cases h1 : mayBe cl sq
  all_goals
    rw [h1] at HC
    simp only [h1] at HM
    go_enter Tryz.func59, Tryz.ntmps59
    go_wp2_with (first | (go_at_call 69; refine ((HM _).out).mono ?_; rintro e w' ⟨rfl, rfl⟩) | (go_at_call 81; refine ((HR _).out).mono ?_; rintro e w' ⟨rfl, hb⟩; (have HB := Lib.hid (HB.out.on hb)); clear hb))
    go_ret
    exact ⟨ret_int (by rw [HC.out]; rfl), HB.out⟩
theorem may_told (c s : Int) : mayBe c s = !(decide (c < 1) || decide (4 < c) || decide (s < 1) || decide (1099511627776 < s)) := by
  rw [Bool.eq_iff_iff, mayBe_iff]
  simp
  omega
set_option maxHeartbeats 800000 in
theorem refCall_any (c : Cl) (w : World) : Calls Tryz.prog 65 #[c.agg] w fun e w' => e = .returned (.int .i64 c.right) ∧ Beh w w' := by
  have HC := Lib.hid (show c.right = if mayBe c.client c.seq = true then c.cmd.right else 1 from rfl)
  have HA := Lib.hid (alloc_here (w := w) c.obj rfl)
  have HB := Lib.hid ((Beh.start w).alloc c.obj)
  have HM := Lib.hid (may_told c.client c.seq)
  have HR := fun w => Lib.hid (refCmd_any c.cmd w)
  obtain ⟨cl, sq, ⟨k0, key, ⟨ok, on, os⟩, ⟨vk, vn, vs⟩⟩⟩ := c
  unfold Cl.obj at HA HB
  dsimp only at HA HB HC HM HR
  cases x1 : decide (cl < 1) <;> cases x2 : decide (4 < cl) <;> cases x3 : decide (sq < 1) <;> cases x4 : decide (1099511627776 < sq)
  all_goals
    rw [x1, x2, x3, x4] at HM
    go_enter Tryz.func65, Tryz.ntmps65
    go_wp2_with (first | (go_at_call 93; refine ((HR _).out).mono ?_; rintro e w' ⟨rfl, hb⟩; (have HB := Lib.hid (HB.out.on hb)); clear hb))
    go_ret
    exact ⟨ret_int (by rw [HC.out, HM.out]; rfl), HB.out⟩
end Go.Proofs.YtbheofibdogabaaGreat.Ss
