/- NumTicks' walk. -/
import Derived.Test.YtagofgadijeglaaDoorWakes
import Derived.Test.YtagofgadijeglaaDoorNumMore
namespace Go.Proofs.YtagofgadijeglaaDoor.Nm
open Go Go.RowKit

theorem Tab16.drewM {w : World} (h : Tab16 w) (n : Nat) : Tab16 (w.drewN n) := h.below (below_drewN (Below.refl _ _) n)
set_option maxHeartbeats 1000000 in
theorem NumTicks_any (x : Nat) (lo hi : Int) (w : World) (hx : x < 18446744073709551616) (hl : -9223372036854775808 ≤ lo) (hh : hi ≤ 9223372036854775807) (h0 : Tab16 w) :
    Calls Tryd.prog 5 #[.float .f64 x, .int .i64 lo, .int .i64 hi] w fun e w' => e = .returned (.bool true) ∧ Below w.heap.size w w' := by
  by_cases hlh : lo ≤ hi
  · obtain ⟨t1, t2⟩ := ticks_within x lo hi hlh
    go_enter Tryd.func5, Tryd.ntmps5
    go_wp2_with (first | (go_at_call 27; refine (Ticks_any _ _ _ (by assumption) (by assumption) (by assumption) _).mono ?_; rintro e w' ⟨rfl, n, rfl⟩) | (go_at_call 28; refine (refTicks_any _ _ _ (by assumption) (by assumption) _).mono ?_; rintro e w' ⟨rfl, rfl⟩) | (go_at_call 24; refine (wakes_any _ (by repeat (first | exact h0 | apply Tab16.drewM))).mono ?_; rintro e w' ⟨rfl, hbel⟩))
    go_ret
    exact ⟨rfl, (below_drewN (Below.refl _ _) _).trans hbel⟩
  · go_enter Tryd.func5, Tryd.ntmps5
    go_wp2_with (first | (go_at_call 27; refine (Ticks_any _ _ _ (by assumption) (by assumption) (by assumption) _).mono ?_; rintro e w' ⟨rfl, n, rfl⟩) | (go_at_call 28; refine (refTicks_any _ _ _ (by assumption) (by assumption) _).mono ?_; rintro e w' ⟨rfl, rfl⟩) | (go_at_call 24; refine (wakes_any _ (by repeat (first | exact h0 | apply Tab16.drewM))).mono ?_; rintro e w' ⟨rfl, hbel⟩))
    go_ret
    exact ⟨rfl, (below_drewN (Below.refl _ _) _).trans hbel⟩
theorem NumTicks_law (x : Nat) (lo hi : Int) (W : World) (wx : (Lit.float .f64 x).wf = true) (wl : (Lit.int .i64 lo).wf = true) (wh : (Lit.int .i64 hi).wf = true) (hL : laidMetH Tryd.prog Rows.numTicksRow.laid W) :
    Calls Tryd.prog 5 #[.float .f64 x, .int .i64 lo, .int .i64 hi] W fun e w' => e = .returned (.bool true) ∧ Below W.heap.size W w' :=
  NumTicks_any x lo hi W (float_lt wx) (int_bounds wl).1 (int_bounds wh).2 (tab16_of hL)
end Go.Proofs.YtagofgadijeglaaDoor.Nm
