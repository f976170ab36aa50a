/- Walks of floats' bits and of Canon. -/
import Derived.Test.YtjlpmmbmjkbdiaaNumMath
import Derived.Test.YtjlpmmbmjkbdiaaPackNums
namespace Go.Proofs.Ytjlpmmbmjkbdiaa.Pk
open Go Go.RowKit Nm

theorem run_bits (a : Nat) (w : World) : (callFunc 33 #[.float .f64 a]).run Try.prog w = .ok (.value (.int .u64 a)) w := by
  rw [run_callFunc_extern (fn := Try.f33) (e := Extern.MathFloatBits.float64bits) Try.func33 (by kernel_rfl) (by kernel_rfl) (by kernel_rfl) (by kernel_rfl)]
  rfl
theorem run_frombits (n : Int) (w : World) : (callFunc 29 #[.int .u64 n]).run Try.prog w = .ok (.value (.float .f64 n.toNat)) w := by
  rw [run_callFunc_extern (fn := Try.f29) (e := Extern.MathFloatBits.float64frombits) Try.func29 (by kernel_rfl) (by kernel_rfl) (by kernel_rfl) (by kernel_rfl)]
  rfl
attribute [local go_sem] run_bits run_frombits

set_option maxHeartbeats 400000 in
theorem IsNaN_any (a : Nat) (w : World) :
    Calls Try.prog 47 #[.float .f64 a] w fun e w' => e = .returned (.bool (isNaN a)) ∧ w = w' := by
  go_enter Try.func47, Try.ntmps47
  go_wp2
  go_ret
  exact ⟨rfl, rfl⟩
set_option maxHeartbeats 400000 in
theorem nan_any (w : World) :
    Calls Try.prog 48 #[] w fun e w' => e = .returned (.float .f64 nanBits) ∧ w = w' := by
  go_enter Try.func48, Try.ntmps48
  go_wp2
  go_ret
  exact ⟨rfl, rfl⟩
set_option maxHeartbeats 400000 in
theorem refNaN_any (w : World) :
    Calls Try.prog 49 #[] w fun e w' => e = .returned (.float .f64 nanBits) ∧ w = w' := by
  go_enter Try.func49, Try.ntmps49
  go_wp2
  go_ret
  exact ⟨rfl, rfl⟩
set_option maxHeartbeats 400000 in
theorem Canon_any (a : Nat) (w : World) :
    Calls Try.prog 45 #[.float .f64 a] w fun e w' => e = .returned (.float .f64 (canon a)) ∧ w = w' := by
  cases h : isNaN a
  all_goals
    have h2 : (FloatKind.f64.format.order a a != some .eq) = _ := h
    go_enter Try.func45, Try.ntmps45
    go_wp2_with (first | (go_at_call 47; refine (IsNaN_any _ _).mono ?_; rintro e w' ⟨rfl, rfl⟩) | (go_at_call 48; refine (nan_any _).mono ?_; rintro e w' ⟨rfl, rfl⟩))
    go_ret
    exact ⟨by simp [canon, h], rfl⟩
set_option maxHeartbeats 400000 in
theorem refCanon_any (a : Nat) (w : World) :
    Calls Try.prog 46 #[.float .f64 a] w fun e w' => e = .returned (.float .f64 (canon a)) ∧ w = w' := by
  cases h : isNaN a
  all_goals
    have h2 : (FloatKind.f64.format.order a a != some .eq) = _ := h
    go_enter Try.func46, Try.ntmps46
    go_wp2_with (first | (go_at_call 49; refine (refNaN_any _).mono ?_; rintro e w' ⟨rfl, rfl⟩))
    go_ret
    exact ⟨by simp [canon, h], rfl⟩
end Go.Proofs.Ytjlpmmbmjkbdiaa.Pk
