/- NumGrows' walk. -/
import Derived.Test.YtagofgadijeglaaDoorWakes
import Derived.Test.YtagofgadijeglaaDoorNumMore
namespace Go.Proofs.YtagofgadijeglaaDoor.Nm
open Go Go.RowKit

theorem Tab16.drewG {w : World} (h : Tab16 w) (n : Nat) : Tab16 (w.drewN n) := h.below (below_drewN (Below.refl _ _) n)
/-- where the law asks nothing -/
def Shut (x y a b : Nat) : Prop := less y x = true ∨ (less y x = false ∧ isNaN y = true) ∨ (less y x = false ∧ isNaN y = false ∧ less b a = true) ∨
  (less y x = false ∧ isNaN y = false ∧ less b a = false ∧ isNaN a = true) ∨ (less y x = false ∧ isNaN y = false ∧ less b a = false ∧ isNaN a = false ∧ isNaN b = true)
theorem shut_or (x y a b : Nat) : Shut x y a b ∨ (less y x = false ∧ isNaN y = false ∧ less b a = false ∧ isNaN a = false ∧ isNaN b = false) := by
  unfold Shut
  cases less y x <;> cases isNaN y <;> cases less b a <;> cases isNaN a <;> cases isNaN b <;> simp
set_option maxHeartbeats 1000000 in
theorem NumGrows_any (x y a b : Nat) (lo hi : Int) (w : World) (hx : x < 18446744073709551616) (hy : y < 18446744073709551616) (ha : a < 18446744073709551616) (hb : b < 18446744073709551616) (hl : -9223372036854775808 ≤ lo) (hh : hi ≤ 9223372036854775807) (h0 : Tab16 w) :
    Calls Tryd.prog 10 #[.float .f64 x, .float .f64 y, .float .f64 a, .float .f64 b, .int .i64 lo, .int .i64 hi] w fun e w' => e = .returned (.bool true) ∧ Below w.heap.size w w' := by
  rcases shut_or x y a b with h | ⟨h1, h2, h3, h4, h5⟩
  · rcases h with h1 | ⟨h1, h2⟩ | ⟨h1, h2, h3⟩ | ⟨h1, h2, h3, h4⟩ | ⟨h1, h2, h3, h4, h5⟩
    all_goals (try have h2' : (FloatKind.f64.format.order y y != some .eq) = _ := h2)
    all_goals (try have h4' : (FloatKind.f64.format.order a a != some .eq) = _ := h4)
    all_goals (try have h5' : (FloatKind.f64.format.order b b != some .eq) = _ := h5)
    all_goals
      go_enter Tryd.func10, Tryd.ntmps10
      go_wp2_with (first | (go_at_call 12; refine (Canon_any _ _).mono ?_; rintro e w' ⟨rfl, rfl⟩) | (go_at_call 13; refine (refCanon_any _ _).mono ?_; rintro e w' ⟨rfl, rfl⟩) | (go_at_call 11; refine (bits_any _ _ _).mono ?_; rintro e w' ⟨rfl, rfl⟩) | (go_at_call 14; refine (Same_any _ _ _).mono ?_; rintro e w' ⟨rfl, rfl⟩) | (go_at_call 15; refine (refSame_any _ _ (by assumption) (by assumption) _).mono ?_; rintro e w' ⟨rfl, rfl⟩) | (go_at_call 16; refine (Less_any _ _ (by assumption) (by assumption) _).mono ?_; rintro e w' ⟨rfl, rfl⟩) | (go_at_call 17; refine (refLess_any _ _ (by assumption) (by assumption) _).mono ?_; rintro e w' ⟨rfl, rfl⟩) | (go_at_call 20; refine (Max_any _ _ (by assumption) (by assumption) _).mono ?_; rintro e w' ⟨rfl, rfl⟩) | (go_at_call 21; refine (refMax_any _ _ (by assumption) (by assumption) _).mono ?_; rintro e w' ⟨rfl, rfl⟩) | (go_at_call 22; refine (Clamp_any _ _ _ (by assumption) (by assumption) (by assumption) _).mono ?_; rintro e w' ⟨rfl, rfl⟩) | (go_at_call 23; refine (refClamp_any _ _ _ (by assumption) (by assumption) (by assumption) _).mono ?_; rintro e w' ⟨rfl, rfl⟩))
      go_ret
      exact ⟨rfl, Below.refl _ _⟩
  · have r1 : rank x ≤ rank y := by unfold less at h1; rw [decide_eq_false_iff_not] at h1; omega
    have r2 : rank a ≤ rank b := by unfold less at h3; rw [decide_eq_false_iff_not] at h3; omega
    have t1 := ticks_mono hx hy h2 r1 lo hi
    have t2 := clamp_mono hx hy ha hb h4 h5 h2 r2 r1
    have c1 := (clamp_rank hx ha hb h4 h5 r2).1
    have c2 := (clamp_rank hy ha hb h4 h5 r2).1
    have h2' : (FloatKind.f64.format.order y y != some .eq) = _ := h2
    have h4' : (FloatKind.f64.format.order a a != some .eq) = _ := h4
    have h5' : (FloatKind.f64.format.order b b != some .eq) = _ := h5
    clear r1 r2
    go_enter Tryd.func10, Tryd.ntmps10
    go_wp2_with (first | (go_at_call 12; refine (Canon_any _ _).mono ?_; rintro e w' ⟨rfl, rfl⟩) | (go_at_call 13; refine (refCanon_any _ _).mono ?_; rintro e w' ⟨rfl, rfl⟩) | (go_at_call 11; refine (bits_any _ _ _).mono ?_; rintro e w' ⟨rfl, rfl⟩) | (go_at_call 14; refine (Same_any _ _ _).mono ?_; rintro e w' ⟨rfl, rfl⟩) | (go_at_call 15; refine (refSame_any _ _ (by assumption) (by assumption) _).mono ?_; rintro e w' ⟨rfl, rfl⟩) | (go_at_call 16; refine (Less_any _ _ (by assumption) (by assumption) _).mono ?_; rintro e w' ⟨rfl, rfl⟩) | (go_at_call 17; refine (refLess_any _ _ (by assumption) (by assumption) _).mono ?_; rintro e w' ⟨rfl, rfl⟩) | (go_at_call 20; refine (Max_any _ _ (by assumption) (by assumption) _).mono ?_; rintro e w' ⟨rfl, rfl⟩) | (go_at_call 21; refine (refMax_any _ _ (by assumption) (by assumption) _).mono ?_; rintro e w' ⟨rfl, rfl⟩) | (go_at_call 22; refine (Clamp_any _ _ _ (by assumption) (by assumption) (by assumption) _).mono ?_; rintro e w' ⟨rfl, rfl⟩) | (go_at_call 23; refine (refClamp_any _ _ _ (by assumption) (by assumption) (by assumption) _).mono ?_; rintro e w' ⟨rfl, rfl⟩) | (go_at_call 27; refine (Ticks_any _ _ _ (by assumption) (by assumption) (by assumption) _).mono ?_; rintro e w' ⟨rfl, n, rfl⟩) | (go_at_call 24; refine (wakes_any _ (by repeat (first | exact h0 | apply Tab16.drewG))).mono ?_; rintro e w' ⟨rfl, hbel⟩))
    go_ret
    exact ⟨rfl, Below.trans (by repeat (first | exact Below.refl _ _ | refine below_drewN ?_ _)) hbel⟩
theorem NumGrows_law (x y a b : Nat) (lo hi : Int) (W : World) (wx : (Lit.float .f64 x).wf = true) (wy : (Lit.float .f64 y).wf = true) (wa : (Lit.float .f64 a).wf = true) (wb : (Lit.float .f64 b).wf = true) (wl : (Lit.int .i64 lo).wf = true) (wh : (Lit.int .i64 hi).wf = true) (hL : laidMetH Tryd.prog Rows.numGrowsRow.laid W) :
    Calls Tryd.prog 10 #[.float .f64 x, .float .f64 y, .float .f64 a, .float .f64 b, .int .i64 lo, .int .i64 hi] W fun e w' => e = .returned (.bool true) ∧ Below W.heap.size W w' :=
  NumGrows_any x y a b lo hi W (float_lt wx) (float_lt wy) (float_lt wa) (float_lt wb) (int_bounds wl).1 (int_bounds wh).2 (tab16_of hL)
end Go.Proofs.YtagofgadijeglaaDoor.Nm
