/- NumOrder's walk. -/
import Derived.Test.YtagofgadijeglaaDoorWakes
namespace Go.Proofs.YtagofgadijeglaaDoor.Nm
open Go Go.RowKit

set_option maxHeartbeats 1000000 in
theorem NumOrder_any (a b c : Nat) (w : World) (ha : a < 18446744073709551616) (hb : b < 18446744073709551616) (hc : c < 18446744073709551616) (h0 : Tab16 w) :
    Calls Tryd.prog 7 #[.float .f64 a, .float .f64 b, .float .f64 c] w fun e w' => e = .returned (.bool true) ∧ Below w.heap.size w w' := by
  rcases three a b ha hb with ⟨h1, h2, h3, h4, h5⟩ | ⟨h1, h2, h3, h4⟩ | ⟨h1, h2, h3, h4⟩
  · have h4' : (FloatKind.f64.format.order a a != some .eq) = false := h4
    cases h6 : less b c <;> cases h7 : (FloatKind.f64.format.order a b == some .lt)
    all_goals have h8 := Lib.hid (less_trans (c := c) h1)
    all_goals (try have h9 := h8.out h6)
    all_goals clear h8
    all_goals
      go_enter Tryd.func7, Tryd.ntmps7
      go_wp2_with (first | (go_at_call 14; refine (Same_any _ _ _).mono ?_; rintro e w' ⟨rfl, rfl⟩) | (go_at_call 16; refine (Less_any _ _ (by assumption) (by assumption) _).mono ?_; rintro e w' ⟨rfl, rfl⟩) | (go_at_call 24; refine (wakes_any _ h0).mono ?_; rintro e w' ⟨rfl, hbel⟩))
      go_ret
      exact ⟨rfl, hbel⟩
  · cases h5 : isNaN a
    all_goals
      have h5' : (FloatKind.f64.format.order a a != some .eq) = _ := h5
      go_enter Tryd.func7, Tryd.ntmps7
      go_wp2_with (first | (go_at_call 14; refine (Same_any _ _ _).mono ?_; rintro e w' ⟨rfl, rfl⟩) | (go_at_call 16; refine (Less_any _ _ (by assumption) (by assumption) _).mono ?_; rintro e w' ⟨rfl, rfl⟩) | (go_at_call 24; refine (wakes_any _ h0).mono ?_; rintro e w' ⟨rfl, hbel⟩))
      go_ret
      exact ⟨rfl, hbel⟩
  · cases h5 : isNaN a <;> cases h6 : same b c
    all_goals have h8 := Lib.hid (same_trans (c := c) h3)
    all_goals (try have h9 := h8.out h6)
    all_goals clear h8
    all_goals
      have h5' : (FloatKind.f64.format.order a a != some .eq) = _ := h5
      go_enter Tryd.func7, Tryd.ntmps7
      go_wp2_with (first | (go_at_call 14; refine (Same_any _ _ _).mono ?_; rintro e w' ⟨rfl, rfl⟩) | (go_at_call 16; refine (Less_any _ _ (by assumption) (by assumption) _).mono ?_; rintro e w' ⟨rfl, rfl⟩) | (go_at_call 24; refine (wakes_any _ h0).mono ?_; rintro e w' ⟨rfl, hbel⟩))
      go_ret
      exact ⟨rfl, hbel⟩
theorem NumOrder_law (a b c : Nat) (W : World) (wa : (Lit.float .f64 a).wf = true) (wb : (Lit.float .f64 b).wf = true) (wc : (Lit.float .f64 c).wf = true) (hL : laidMetH Tryd.prog Rows.numOrderRow.laid W) :
    Calls Tryd.prog 7 #[.float .f64 a, .float .f64 b, .float .f64 c] W fun e w' => e = .returned (.bool true) ∧ Below W.heap.size W w' :=
  NumOrder_any a b c W (float_lt wa) (float_lt wb) (float_lt wc) (tab16_of hL)
end Go.Proofs.YtagofgadijeglaaDoor.Nm
