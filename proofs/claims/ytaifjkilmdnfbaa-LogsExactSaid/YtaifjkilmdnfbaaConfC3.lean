/- The reference's within, Bits. -/
import Derived.Test.YtaifjkilmdnfbaaConfC0
namespace Go.Proofs.Ytaifjkilmdnfbaa.Cn
open Go Go.RowKit Bh
attribute [local irreducible] wpQuiet
theorem rwithin_any (a lo hi : Int) (w : World) :
    Calls Try.prog 54 #[.int .i64 a, .int .i64 lo, .int .i64 hi] w fun e w' => e = .returned (.bool (decide (lo ≤ a) && decide (a ≤ hi))) ∧ w = w' := by
  by_cases h : lo ≤ a
  · have HC := Lib.hid (show (decide (lo ≤ a) && decide (a ≤ hi)) = decide (a ≤ hi) by rw [decide_eq_true h, Bool.true_and])
    generalize (decide (lo ≤ a) && decide (a ≤ hi)) = Q at *
    go_enter Try.func54, Try.ntmps54
    go_wp2_with fail
    go_ret
    exact ⟨ret_bool HC.out.symm, rfl⟩
  · have HC := Lib.hid (show (decide (lo ≤ a) && decide (a ≤ hi)) = false by rw [decide_eq_false h, Bool.false_and])
    generalize (decide (lo ≤ a) && decide (a ≤ hi)) = Q at *
    go_enter Try.func54, Try.ntmps54
    go_wp2_with fail
    go_ret
    exact ⟨ret_bool HC.out.symm, rfl⟩
def inB (x : Int) : Bool := decide (0 ≤ x) && decide (x ≤ 127)
theorem inB_iff {x : Int} : inB x = true ↔ In7 x := by unfold inB In7; simp
theorem rBits_any (x : Int) (w : World) :
    Calls Try.prog 60 #[.int .i64 x] w fun e w' => e = .returned (.bool (inB x)) ∧ w = w' := by
  have HC := Lib.hid (show inB x = (decide (0 ≤ x) && decide (x ≤ 127)) from rfl)
  have HW := Lib.hid (fun w => rwithin_any x 0 127 w)
  rw [← HC.out] at HW
  generalize inB x = Q at *
  go_enter Try.func60, Try.ntmps60
  go_wp2_with (first | (go_at_call 54; refine Calls.mono (HW.out _) ?_; rintro e w' ⟨rfl, rfl⟩))
  go_ret
  exact ⟨rfl, rfl⟩
end Go.Proofs.Ytaifjkilmdnfbaa.Cn
