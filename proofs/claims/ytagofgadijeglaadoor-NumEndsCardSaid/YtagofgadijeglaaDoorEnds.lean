/- NumEnds' walk: the edges, one by one. -/
import Derived.Test.YtagofgadijeglaaDoorWakes
import Derived.Test.YtagofgadijeglaaDoorNumMore
namespace Go.Proofs.YtagofgadijeglaaDoor.Nm
open Go Go.RowKit
attribute [local go_sem] run_bits run_frombits

set_option maxHeartbeats 400000 in
theorem Inf_one (w : World) : Calls Tryd.prog 34 #[.int .i64 1] w fun e w' => e = .returned (.float .f64 9218868437227405312) ∧ w = w' := by
  go_enter Tryd.func34, Tryd.ntmps34
  go_wp2
  go_ret
  exact ⟨rfl, rfl⟩
set_option maxHeartbeats 400000 in
theorem NaN_any (w : World) : Calls Tryd.prog 37 #[] w fun e w' => e = .returned (.float .f64 9221120237041090561) ∧ w = w' := by
  go_enter Tryd.func37, Tryd.ntmps37
  go_wp2
  go_ret
  exact ⟨rfl, rfl⟩
set_option maxHeartbeats 400000 in
theorem Mean_nil (w : World) : Calls Tryd.prog 25 #[.slice none 0 0] w fun e w' => e = .returned (.float .f64 nanBits) ∧ w = w' := by
  go_enter Tryd.func25, Tryd.ntmps25
  go_wp2_with (first | (go_at_call 40; refine (nan_any _).mono ?_; rintro e w' ⟨rfl, rfl⟩))
  go_ret
  exact ⟨rfl, rfl⟩
theorem run_neg_inf : Op.unary .neg (.float .f64 9218868437227405312) = pure (.float .f64 18442240474082181120) := rfl
attribute [local go_sem] run_neg_inf
theorem Tab16.drewE {w : World} (h : Tab16 w) (n : Nat) : Tab16 (w.drewN n) := h.below (below_drewN (Below.refl _ _) n)

set_option maxHeartbeats 1000000 in
set_option maxRecDepth 100000 in
theorem NumEnds_any (w : World) (h0 : Tab16 w) :
    Calls Tryd.prog 9 #[] w fun e w' => e = .returned (.bool true) ∧ Below w.heap.size w w' := by
  have h1 : same 18444492273895866659 9221120237041090561 = true := by kernel_rfl
  have h2 : less 9218868437227405312 18444492273895866659 = true := by kernel_rfl
  have h3 : less 18442240474082181120 18442240474082181119 = true := by kernel_rfl
  have h4 : less 9223372036854775808 0 = true := by kernel_rfl
  have h5 : same 9223372036854775808 0 = false := by kernel_rfl
  have h6 : less 0 1 = true := by kernel_rfl
  have h7 : same (sumC 9218868437227405312 18442240474082181120) 18444492273895866659 = true := by kernel_rfl
  have h8 : same (maxF 18444492273895866659 9218868437227405312) 18444492273895866659 = true := by kernel_rfl
  have h9 : same (maxF 9223372036854775808 0) 0 = true := by kernel_rfl
  have h10 : same (sumC 9223372036854775808 9223372036854775808) 9223372036854775808 = true := by kernel_rfl
  have h11 : same (sumC 9218868437227405311 9218868437227405311) 9218868437227405312 = true := by kernel_rfl
  have h12 : ticksF 9218868437227405312 1 9 = 9 := by kernel_rfl
  have h13 : ticksF 18442240474082181120 1 9 = 1 := by kernel_rfl
  have h14 : ticksF 18444492273895866659 4 9 = 4 := by kernel_rfl
  have h15 : ticksF 9094988921128908188 1 9223372036854775807 = 9223372036854775807 := by kernel_rfl
  have h16 : ticksF 9223372036854775808 0 9 = 0 := by kernel_rfl
  have h17 : ticksF 13826050856027422720 (-3) 9 = 0 := by kernel_rfl
  have h18 : ticksF 4617315517961601024 9 1 = 9 := by kernel_rfl
  have h19 : textF 9223372036854775808 = [56, 48, 48, 48, 48, 48, 48, 48, 48, 48, 48, 48, 48, 48, 48, 48] := by kernel_rfl
  have h20 : textF 18444492273895866659 = [55, 102, 102, 56, 48, 48, 48, 48, 48, 48, 48, 48, 48, 48, 48, 49] := by kernel_rfl
  have h21 : same nanBits 18444492273895866659 = true := by kernel_rfl
  go_enter Tryd.func9, Tryd.ntmps9
  go_wp2_with (first | (go_at_call 34; refine (Inf_one _).mono ?_; rintro e w' ⟨rfl, rfl⟩) | (go_at_call 37; refine (NaN_any _).mono ?_; rintro e w' ⟨rfl, rfl⟩) | (go_at_call 35; refine (Copysign_zero _).mono ?_; rintro e w' ⟨rfl, rfl⟩) | (go_at_call 14; refine (Same_any _ _ _).mono ?_; rintro e w' ⟨rfl, rfl⟩) | (go_at_call 16; refine (Less_any _ _ (by omega) (by omega) _).mono ?_; rintro e w' ⟨rfl, rfl⟩) | (go_at_call 20; refine (Max_any _ _ (by omega) (by omega) _).mono ?_; rintro e w' ⟨rfl, rfl⟩) | (go_at_call 18; refine (Add_any _ _ _).mono ?_; rintro e w' ⟨rfl, n, rfl⟩) | (go_at_call 27; refine (Ticks_any _ _ _ (by omega) (by omega) (by omega) _).mono ?_; rintro e w' ⟨rfl, n, rfl⟩) | (go_at_call 25; refine (Mean_nil _).mono ?_; rintro e w' ⟨rfl, rfl⟩))
  refine (Text_any _ (by omega) _ (by repeat (first | exact h0 | apply Tab16.drewE))).mono ?_
  rw [h19]
  rintro e w1 ⟨rfl, hb1⟩
  have B1 : Below w.heap.size w w1 := Below.trans (by repeat (first | exact Below.refl _ _ | refine below_drewN ?_ _)) hb1
  clear hb1
  have T1 := h0.below B1
  go_wp2_with fail
  refine (Text_any _ (by omega) _ T1).mono ?_
  rw [h20]
  rintro e w2 ⟨rfl, hb2⟩
  have T2 := T1.below hb2
  have B2 : Below w.heap.size w w2 := B1.trans (hb2.mono B1.size)
  clear B1 hb2
  go_wp2_with (first | (go_at_call 14; refine (Same_any _ _ _).mono ?_; rintro e w' ⟨rfl, rfl⟩) | (go_at_call 25; refine (Mean_nil _).mono ?_; rintro e w' ⟨rfl, rfl⟩) | (go_at_call 24; refine (wakes_any _ T2).mono ?_; rintro e w' ⟨rfl, hbel⟩))
  go_ret
  exact ⟨rfl, B2.trans (hbel.mono B2.size)⟩
theorem NumEnds_law (W : World) (hL : laidMetH Tryd.prog Rows.numEndsRow.laid W) :
    Calls Tryd.prog 9 #[] W fun e w' => e = .returned (.bool true) ∧ Below W.heap.size W w' :=
  NumEnds_any W (tab16_of hL)
end Go.Proofs.YtagofgadijeglaaDoor.Nm
