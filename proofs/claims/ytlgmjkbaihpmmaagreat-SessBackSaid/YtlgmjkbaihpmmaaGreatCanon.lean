/- Walks of floats' bits and of Canon. -/
import Derived.Test.YtlgmjkbaihpmmaaGreatNumMath
import Derived.Test.YtlgmjkbaihpmmaaGreatPackNums
namespace Go.Proofs.YtlgmjkbaihpmmaaGreat.Pk
open Go Go.RowKit Nm

theorem run_bits (a : Nat) (w : World) : (callFunc 50 #[.float .f64 a]).run Tryz.prog w = .ok (.value (.int .u64 a)) w := by
  rw [run_callFunc_extern (fn := Tryz.f50) (e := Extern.MathFloatBits.float64bits) Tryz.func50 (by kernel_rfl) (by kernel_rfl) (by kernel_rfl) (by kernel_rfl)]
  rfl
theorem run_frombits (n : Int) (w : World) : (callFunc 72 #[.int .u64 n]).run Tryz.prog w = .ok (.value (.float .f64 n.toNat)) w := by
  rw [run_callFunc_extern (fn := Tryz.f72) (e := Extern.MathFloatBits.float64frombits) Tryz.func72 (by kernel_rfl) (by kernel_rfl) (by kernel_rfl) (by kernel_rfl)]
  rfl
attribute [local go_sem] run_bits run_frombits

set_option maxHeartbeats 400000 in
theorem IsNaN_any (a : Nat) (w : World) :
    Calls Tryz.prog 99 #[.float .f64 a] w fun e w' => e = .returned (.bool (isNaN a)) ∧ w = w' := by
  go_enter Tryz.func99, Tryz.ntmps99
  go_wp2
  go_ret
  exact ⟨rfl, rfl⟩
set_option maxHeartbeats 400000 in
theorem nan_any (w : World) :
    Calls Tryz.prog 100 #[] w fun e w' => e = .returned (.float .f64 nanBits) ∧ w = w' := by
  go_enter Tryz.func100, Tryz.ntmps100
  go_wp2
  go_ret
  exact ⟨rfl, rfl⟩
set_option maxHeartbeats 400000 in
theorem refNaN_any (w : World) :
    Calls Tryz.prog 51 #[] w fun e w' => e = .returned (.float .f64 nanBits) ∧ w = w' := by
  go_enter Tryz.func51, Tryz.ntmps51
  go_wp2
  go_ret
  exact ⟨rfl, rfl⟩
set_option maxHeartbeats 400000 in
theorem Canon_any (a : Nat) (w : World) :
    Calls Tryz.prog 71 #[.float .f64 a] w fun e w' => e = .returned (.float .f64 (canon a)) ∧ w = w' := by
  cases h : isNaN a
  all_goals
    have h2 : (FloatKind.f64.format.order a a != some .eq) = _ := h
    go_enter Tryz.func71, Tryz.ntmps71
    go_wp2_with (first | (go_at_call 99; refine (IsNaN_any _ _).mono ?_; rintro e w' ⟨rfl, rfl⟩) | (go_at_call 100; refine (nan_any _).mono ?_; rintro e w' ⟨rfl, rfl⟩))
    go_ret
    exact ⟨by simp [canon, h], rfl⟩
set_option maxHeartbeats 400000 in
theorem refCanon_any (a : Nat) (w : World) :
    Calls Tryz.prog 74 #[.float .f64 a] w fun e w' => e = .returned (.float .f64 (canon a)) ∧ w = w' := by
  cases h : isNaN a
  all_goals
    have h2 : (FloatKind.f64.format.order a a != some .eq) = _ := h
    go_enter Tryz.func74, Tryz.ntmps74
    go_wp2_with (first | (go_at_call 51; refine (refNaN_any _).mono ?_; rintro e w' ⟨rfl, rfl⟩))
    go_ret
    exact ⟨by simp [canon, h], rfl⟩
end Go.Proofs.YtlgmjkbaihpmmaaGreat.Pk
