/- The law's own small closed question, 'wakes': of every world that holds the library's table. -/
import Derived.Test.YtagofgadijeglaaDoorNumTicks
import Derived.Test.YtagofgadijeglaaDoorHex
import Derived.Lib.LaidTab
import Derived.Stop.LaidErr
namespace Go.Proofs.YtagofgadijeglaaDoor.Nm
open Go Go.RowKit
attribute [local go_sem] run_bits run_frombits

set_option maxHeartbeats 400000 in
theorem Copysign_zero (w : World) :
    Calls Tryd.prog 35 #[.float .f64 0, .float .f64 13830554455654793216] w fun e w' => e = .returned (.float .f64 9223372036854775808) ∧ w = w' := by
  go_enter Tryd.func35, Tryd.ntmps35
  go_wp2
  go_ret
  exact ⟨ret_float (by kernel_rfl), rfl⟩

theorem less_zeros : less 9223372036854775808 0 = true := by kernel_rfl
theorem text_one : textF 4607182418800017408 = [51, 102, 102, 48, 48, 48, 48, 48, 48, 48, 48, 48, 48, 48, 48, 48] := by kernel_rfl
theorem ticks_some : ticksF 4611911198408756429 1 9 = 3 := by kernel_rfl

set_option maxHeartbeats 400000 in
theorem wakes_any (w : World) (h0 : Tab16 w) :
    Calls Tryd.prog 24 #[] w fun e w' => e = .returned (.bool true) ∧ Below w.heap.size w w' := by
  have hl := less_zeros
  have ht := ticks_some
  go_enter Tryd.func24, Tryd.ntmps24
  go_wp2_with (first | (go_at_call 35; refine (Copysign_zero _).mono ?_; rintro e w' ⟨rfl, rfl⟩) | (go_at_call 16; refine (Less_any _ _ (by omega) (by omega) _).mono ?_; rintro e w' ⟨rfl, rfl⟩) | (go_at_call 29; refine (Text_any _ (by omega) _ h0).mono ?_; rw [text_one]; rintro e w' ⟨rfl, hb⟩) | (go_at_call 27; refine (Ticks_any _ _ _ (by omega) (by omega) (by omega) _).mono ?_; rintro e w2 ⟨rfl, n, rfl⟩))
  go_ret
  exact ⟨rfl, below_drewN hb _⟩
/-- what a law's row gives of the library's table: it stands second on the list -/
theorem tab16_of {x : String × DataW Unit} {r : List (String × DataW Unit)} {W : World}
    (h : laidMet Tryd.prog (x :: ("math/bits.deBruijn64tab", Rows.laid_math_bits_deBruijn64tab) :: r) W) : Tab16 W := by
  have hT : Lib.TabIs Tryd.prog W "math/bits.deBruijn64tab" .u8 [0, 1, 56, 2, 57, 49, 28, 3, 61, 58, 42, 50, 38, 29, 17, 4, 62, 47, 59, 36, 45, 43, 51, 22, 53, 39, 33, 30, 24, 18, 12, 5, 63, 55, 48, 27, 60, 41, 37, 16, 46, 35, 44, 21, 52, 32, 23, 11, 54, 26, 40, 15, 34, 20, 31, 10, 25, 14, 19, 9, 13, 8, 7, 6] :=
    Lib.tabIs_of_head (rest := r) (g := 5) (by kernel_rfl) (by kernel_rfl) Tryd.underlying90 Tryd.underlying5 (by kernel_rfl) (by kernel_rfl) h.tail
  exact hT.cell (g := 5) (by kernel_rfl) 15 (by decide)
theorem float_lt {a : Nat} (h : (Lit.float .f64 a).wf = true) : a < 18446744073709551616 := by
  simpa [Lit.wf] using h
theorem int_bounds {n : Int} (h : (Lit.int .i64 n).wf = true) : -9223372036854775808 ≤ n ∧ n ≤ 9223372036854775807 := by
  have h2 : IntKind.i64.min ≤ n ∧ n ≤ IntKind.i64.max := by simpa [Lit.wf] using h
  exact h2
end Go.Proofs.YtagofgadijeglaaDoor.Nm
