/- NumExact's walk. -/
import Derived.Test.YtagofgadijeglaaDoorWakes
namespace Go.Proofs.YtagofgadijeglaaDoor.Nm
open Go Go.RowKit

theorem Tab16.drewN {w : World} (h : Tab16 w) (n : Nat) : Tab16 (w.drewN n) := h.below (below_drewN (Below.refl _ _) n)
set_option maxHeartbeats 1000000 in
theorem NumExact_any (a b x lo hi : Nat) (w : World) (ha : a < 18446744073709551616) (hb : b < 18446744073709551616) (hx : x < 18446744073709551616) (hl : lo < 18446744073709551616) (hh : hi < 18446744073709551616) (h0 : Tab16 w) :
    Calls Tryd.prog 3 #[.float .f64 a, .float .f64 b, .float .f64 x, .float .f64 lo, .float .f64 hi] w fun e w' => e = .returned (.bool true) ∧ Below w.heap.size w w' := by
  go_enter Tryd.func3, Tryd.ntmps3
  go_wp2_with (first | (go_at_call 12; refine (Canon_any _ _).mono ?_; rintro e w' ⟨rfl, rfl⟩) | (go_at_call 13; refine (refCanon_any _ _).mono ?_; rintro e w' ⟨rfl, rfl⟩) | (go_at_call 11; refine (bits_any _ _ _).mono ?_; rintro e w' ⟨rfl, rfl⟩) | (go_at_call 14; refine (Same_any _ _ _).mono ?_; rintro e w' ⟨rfl, rfl⟩) | (go_at_call 15; refine (refSame_any _ _ (by assumption) (by assumption) _).mono ?_; rintro e w' ⟨rfl, rfl⟩) | (go_at_call 16; refine (Less_any _ _ (by assumption) (by assumption) _).mono ?_; rintro e w' ⟨rfl, rfl⟩) | (go_at_call 17; refine (refLess_any _ _ (by assumption) (by assumption) _).mono ?_; rintro e w' ⟨rfl, rfl⟩) | (go_at_call 20; refine (Max_any _ _ (by assumption) (by assumption) _).mono ?_; rintro e w' ⟨rfl, rfl⟩) | (go_at_call 21; refine (refMax_any _ _ (by assumption) (by assumption) _).mono ?_; rintro e w' ⟨rfl, rfl⟩) | (go_at_call 22; refine (Clamp_any _ _ _ (by assumption) (by assumption) (by assumption) _).mono ?_; rintro e w' ⟨rfl, rfl⟩) | (go_at_call 23; refine (refClamp_any _ _ _ (by assumption) (by assumption) (by assumption) _).mono ?_; rintro e w' ⟨rfl, rfl⟩) | (go_at_call 18; refine (Add_any _ _ _).mono ?_; rintro e w' ⟨rfl, n, rfl⟩) | (go_at_call 19; refine (refAdd_any _ _ _).mono ?_; rintro e w' ⟨rfl, n2, rfl⟩) | (go_at_call 24; refine (wakes_any _ (by repeat (first | exact h0 | apply Tab16.drewN))).mono ?_; rintro e w' ⟨rfl, hbel⟩))
  go_ret
  exact ⟨rfl, Below.trans (by repeat (first | exact Below.refl _ _ | refine below_drewN ?_ _)) hbel⟩
theorem NumExact_law (a b x lo hi : Nat) (W : World) (wa : (Lit.float .f64 a).wf = true) (wb : (Lit.float .f64 b).wf = true) (wx : (Lit.float .f64 x).wf = true) (wl : (Lit.float .f64 lo).wf = true) (wh : (Lit.float .f64 hi).wf = true) (hL : laidMetH Tryd.prog Rows.numExactRow.laid W) :
    Calls Tryd.prog 3 #[.float .f64 a, .float .f64 b, .float .f64 x, .float .f64 lo, .float .f64 hi] W fun e w' => e = .returned (.bool true) ∧ Below W.heap.size W w' :=
  NumExact_any a b x lo hi W (float_lt wa) (float_lt wb) (float_lt wx) (float_lt wl) (float_lt wh) (tab16_of hL)
end Go.Proofs.YtagofgadijeglaaDoor.Nm
