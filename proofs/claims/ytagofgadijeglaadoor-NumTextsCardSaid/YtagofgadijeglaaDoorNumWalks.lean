/- Walks of layer 1's functions. -/
import Derived.Test.YtagofgadijeglaaDoorNumMath
import Derived.WalkKit
import Derived.WalkSpells
import Derived.WalkLawsBesides
import Derived.Lib.Hide
import Derived.Deep.Draws
namespace Go.Proofs.YtagofgadijeglaaDoor.Nm
open Go Go.RowKit

theorem run_bits (a : Nat) (w : World) : (callFunc 38 #[.float .f64 a]).run Tryd.prog w = .ok (.value (.int .u64 a)) w := by
  rw [run_callFunc_extern (fn := Tryd.f38) (e := Extern.MathFloatBits.float64bits) Tryd.func38 (by kernel_rfl) (by kernel_rfl) (by kernel_rfl) (by kernel_rfl)]
  rfl
theorem run_frombits (n : Int) (w : World) : (callFunc 36 #[.int .u64 n]).run Tryd.prog w = .ok (.value (.float .f64 n.toNat)) w := by
  rw [run_callFunc_extern (fn := Tryd.f36) (e := Extern.MathFloatBits.float64frombits) Tryd.func36 (by kernel_rfl) (by kernel_rfl) (by kernel_rfl) (by kernel_rfl)]
  rfl
attribute [local go_sem] run_bits run_frombits

theorem ret_int {k : IntKind} {a b : Int} (h : a = b) : Ending.returned (.int k a) = .returned (.int k b) := by rw [h]
theorem ret_bool {a b : Bool} (h : a = b) : Ending.returned (.bool a) = .returned (.bool b) := by rw [h]
theorem ret_float {a b : Nat} (h : a = b) : Ending.returned (.float .f64 a) = .returned (.float .f64 b) := by rw [h]

set_option maxHeartbeats 400000 in
theorem IsNaN_any (a : Nat) (w : World) :
    Calls Tryd.prog 39 #[.float .f64 a] w fun e w' => e = .returned (.bool (isNaN a)) ∧ w = w' := by
  go_enter Tryd.func39, Tryd.ntmps39
  go_wp2
  go_ret
  exact ⟨rfl, rfl⟩

set_option maxHeartbeats 400000 in
theorem nan_any (w : World) :
    Calls Tryd.prog 40 #[] w fun e w' => e = .returned (.float .f64 nanBits) ∧ w = w' := by
  go_enter Tryd.func40, Tryd.ntmps40
  go_wp2
  go_ret
  exact ⟨rfl, rfl⟩

set_option maxHeartbeats 400000 in
theorem refNaN_any (w : World) :
    Calls Tryd.prog 41 #[] w fun e w' => e = .returned (.float .f64 nanBits) ∧ w = w' := by
  go_enter Tryd.func41, Tryd.ntmps41
  go_wp2
  go_ret
  exact ⟨rfl, rfl⟩

set_option maxHeartbeats 400000 in
theorem Canon_any (a : Nat) (w : World) :
    Calls Tryd.prog 12 #[.float .f64 a] w fun e w' => e = .returned (.float .f64 (canon a)) ∧ w = w' := by
  cases h : isNaN a
  all_goals
    have h2 : (FloatKind.f64.format.order a a != some .eq) = _ := h
    go_enter Tryd.func12, Tryd.ntmps12
    go_wp2_with (first | (go_at_call 39; refine (IsNaN_any _ _).mono ?_; rintro e w' ⟨rfl, rfl⟩) | (go_at_call 40; refine (nan_any _).mono ?_; rintro e w' ⟨rfl, rfl⟩))
    go_ret
    exact ⟨by simp [canon, h], rfl⟩

set_option maxHeartbeats 400000 in
theorem refCanon_any (a : Nat) (w : World) :
    Calls Tryd.prog 13 #[.float .f64 a] w fun e w' => e = .returned (.float .f64 (canon a)) ∧ w = w' := by
  cases h : isNaN a
  all_goals
    have h2 : (FloatKind.f64.format.order a a != some .eq) = _ := h
    go_enter Tryd.func13, Tryd.ntmps13
    go_wp2_with (first | (go_at_call 41; refine (refNaN_any _).mono ?_; rintro e w' ⟨rfl, rfl⟩))
    go_ret
    exact ⟨by simp [canon, h], rfl⟩

set_option maxHeartbeats 400000 in
theorem rank_any (a : Nat) (ha : a < 18446744073709551616) (w : World) :
    Calls Tryd.prog 43 #[.float .f64 a] w fun e w' => e = .returned (.int .u64 (rank a)) ∧ w = w' := by
  have H := Lib.hid (canon_lt ha)
  clear ha
  go_enter Tryd.func43, Tryd.ntmps43
  go_wp2_with (first | (go_at_call 12; refine (Canon_any _ _).mono ?_; rintro e w' ⟨rfl, rfl⟩))
  · go_ret
    exact ⟨ret_int (rank_hi _ H.out ‹_›), rfl⟩
  · go_ret
    exact ⟨ret_int (rank_lo _ H.out ‹_›), rfl⟩

theorem rank_hi2 (c : Nat) (hc : c < 18446744073709551616) (h : ((c : Int) / 9223372036854775808 == 1) = true) :
    bits .xor .u64 IntKind.u64.max (c : Int) = ((rankOf c : Nat) : Int) := by
  refine rank_hi c hc ?_
  rw [beq_iff_eq] at h
  rw [and_sign c hc, if_pos (by omega)]; rfl
theorem rank_lo2 (c : Nat) (hc : c < 18446744073709551616) (h : ((c : Int) / 9223372036854775808 == 1) = false) :
    bits .or .u64 (c : Int) 9223372036854775808 = ((rankOf c : Nat) : Int) := by
  refine rank_lo c hc ?_
  rw [beq_eq_false_iff_ne] at h
  rw [and_sign c hc, if_neg (by omega)]; rfl
set_option maxHeartbeats 400000 in
theorem refrank_any (a : Nat) (ha : a < 18446744073709551616) (w : World) :
    Calls Tryd.prog 42 #[.float .f64 a] w fun e w' => e = .returned (.int .u64 (rank a)) ∧ w = w' := by
  have H := Lib.hid (canon_lt ha)
  clear ha
  go_enter Tryd.func42, Tryd.ntmps42
  go_wp2_with (first | (go_at_call 13; refine (refCanon_any _ _).mono ?_; rintro e w' ⟨rfl, rfl⟩))
  · go_ret
    exact ⟨ret_int (rank_hi2 _ H.out ‹_›), rfl⟩
  · go_ret
    exact ⟨ret_int (rank_lo2 _ H.out ‹_›), rfl⟩

set_option maxHeartbeats 400000 in
theorem Same_any (a b : Nat) (w : World) :
    Calls Tryd.prog 14 #[.float .f64 a, .float .f64 b] w fun e w' => e = .returned (.bool (same a b)) ∧ w = w' := by
  go_enter Tryd.func14, Tryd.ntmps14
  go_wp2_with (first | (go_at_call 12; refine (Canon_any _ _).mono ?_; rintro e w' ⟨rfl, rfl⟩))
  go_ret
  exact ⟨ret_bool (by unfold same; rw [Bool.eq_iff_iff]; simp; omega), rfl⟩
set_option maxHeartbeats 400000 in
theorem refSame_any (a b : Nat) (ha : a < 18446744073709551616) (hb : b < 18446744073709551616) (w : World) :
    Calls Tryd.prog 15 #[.float .f64 a, .float .f64 b] w fun e w' => e = .returned (.bool (same a b)) ∧ w = w' := by
  go_enter Tryd.func15, Tryd.ntmps15
  go_wp2_with (first | (go_at_call 42; refine (refrank_any _ (by assumption) _).mono ?_; rintro e w' ⟨rfl, rfl⟩))
  go_ret
  exact ⟨ret_bool (by unfold same; rw [Bool.eq_iff_iff]; simp [← rank_inj ha hb]; omega), rfl⟩
set_option maxHeartbeats 400000 in
theorem Less_any (a b : Nat) (ha : a < 18446744073709551616) (hb : b < 18446744073709551616) (w : World) :
    Calls Tryd.prog 16 #[.float .f64 a, .float .f64 b] w fun e w' => e = .returned (.bool (less a b)) ∧ w = w' := by
  go_enter Tryd.func16, Tryd.ntmps16
  go_wp2_with (first | (go_at_call 43; refine (rank_any _ (by assumption) _).mono ?_; rintro e w' ⟨rfl, rfl⟩))
  go_ret
  exact ⟨ret_bool (by unfold less; exact decide_eq_decide.2 (by omega)), rfl⟩
set_option maxHeartbeats 400000 in
theorem refLess_any (a b : Nat) (ha : a < 18446744073709551616) (hb : b < 18446744073709551616) (w : World) :
    Calls Tryd.prog 17 #[.float .f64 a, .float .f64 b] w fun e w' => e = .returned (.bool (less a b)) ∧ w = w' := by
  go_enter Tryd.func17, Tryd.ntmps17
  go_wp2_with (first | (go_at_call 42; refine (refrank_any _ (by assumption) _).mono ?_; rintro e w' ⟨rfl, rfl⟩))
  go_ret
  exact ⟨ret_bool (by unfold less; exact decide_eq_decide.2 (by omega)), rfl⟩

/-- the sum of two floats, before it is made one NaN -/
def addF (a b : Nat) : Option Nat := FloatKind.f64.format.add a b
def sumC (a b : Nat) : Nat := match addF a b with | some r => canon r | none => nanBits
def nanAt (w : World) (a b : Nat) : Nat := Question.cut (.nanBits .f64 a b) (w.tape w.drawn (.nanBits .f64 a b))
theorem run_add_some {a b r : Nat} (h : addF a b = some r) (t : TypeId) (w : World) : (binOp .add t (.float .f64 a) (.float .f64 b)).run Tryd.prog w = .ok (.float .f64 r) w :=
  run_float_arith w .add t .f64 a b r h
theorem run_add_none {a b : Nat} (h : addF a b = none) (t : TypeId) (w : World) : (binOp .add t (.float .f64 a) (.float .f64 b)).run Tryd.prog w = .ok (.float .f64 (nanAt w a b)) w.drew := by
  unfold addF at h
  simp [binOp, Op.floatArith, h, nanAt, Question.forced]
theorem nanAt_nan (w : World) (a b : Nat) : isNaN (nanAt w a b) = true ∧ nanAt w a b < 18446744073709551616 := by
  unfold nanAt
  generalize w.tape w.drawn (Question.nanBits FloatKind.f64 a b) = t
  rw [isNaN_iff, decide_eq_true_eq]
  constructor
  · show 9218868437227405312 < ((t % 2) * 9223372036854775808 + 9218868437227405312 + 1 + (t / 2) % 4503599627370495) % 9223372036854775808
    have h1 : (t / 2) % 4503599627370495 < 4503599627370495 := Nat.mod_lt _ (by omega)
    have h2 : t % 2 < 2 := Nat.mod_lt _ (by omega)
    generalize (t / 2) % 4503599627370495 = u at *
    generalize t % 2 = v at *
    have e : v * 9223372036854775808 + 9218868437227405312 + 1 + u = (9218868437227405312 + 1 + u) + v * 9223372036854775808 := by omega
    rw [e, Nat.add_mul_mod_self_right, Nat.mod_eq_of_lt (by omega)]
    omega
  · show (t % 2) * 9223372036854775808 + 9218868437227405312 + 1 + (t / 2) % 4503599627370495 < 18446744073709551616
    omega
set_option maxHeartbeats 400000 in
theorem Add_any (a b : Nat) (w : World) :
    Calls Tryd.prog 18 #[.float .f64 a, .float .f64 b] w fun e w' => e = .returned (.float .f64 (sumC a b)) ∧ ∃ n, w' = w.drewN n := by
  cases h : addF a b
  · have hr := fun t w => run_add_none h t w
    go_enter Tryd.func18, Tryd.ntmps18
    go_wp2_with (first | (go_at_call 12; refine (Canon_any _ _).mono ?_; rintro e w' ⟨rfl, rfl⟩))
    go_ret
    exact ⟨ret_float (by unfold sumC; rw [h]; exact canon_nan (nanAt_nan _ _ _).1), 1, rfl⟩
  · have hr := fun t w => run_add_some h t w
    go_enter Tryd.func18, Tryd.ntmps18
    go_wp2_with (first | (go_at_call 12; refine (Canon_any _ _).mono ?_; rintro e w' ⟨rfl, rfl⟩))
    go_ret
    exact ⟨ret_float (by unfold sumC; rw [h]), 0, rfl⟩


def maxF (a b : Nat) : Nat := if isNaN a = true then nanBits else if isNaN b = true then nanBits else if less a b = true then b else a
set_option maxHeartbeats 400000 in
theorem Max_any (a b : Nat) (ha : a < 18446744073709551616) (hb : b < 18446744073709551616) (w : World) :
    Calls Tryd.prog 20 #[.float .f64 a, .float .f64 b] w fun e w' => e = .returned (.float .f64 (maxF a b)) ∧ w = w' := by
  have hm : maxF a b = canon (if less a b = true then b else a) := by
    unfold maxF
    cases na : isNaN a
    · cases nb : isNaN b
      · cases h : less a b
        · simp [canon_num na]
        · simp [canon_num nb]
      · have : less a b = true := by
          unfold less; rw [decide_eq_true_eq, rank_nan nb]; exact rank_num_lt ha na
        simp [this, canon_nan nb]
    · have : less a b = false := by
        unfold less; rw [decide_eq_false_iff_not]; have := rank_le_nan hb na; omega
      simp [this, canon_nan na]
  have HM := Lib.hid hm
  clear hm
  cases h : less a b
  all_goals
    go_enter Tryd.func20, Tryd.ntmps20
    go_wp2_with (first | (go_at_call 12; refine (Canon_any _ _).mono ?_; rintro e w' ⟨rfl, rfl⟩) | (go_at_call 16; refine (Less_any _ _ (by assumption) (by assumption) _).mono ?_; rintro e w' ⟨rfl, rfl⟩))
    go_ret
    exact ⟨ret_float (by rw [HM.out, h]; rfl), rfl⟩
set_option maxHeartbeats 400000 in
theorem refMax_any (a b : Nat) (ha : a < 18446744073709551616) (hb : b < 18446744073709551616) (w : World) :
    Calls Tryd.prog 21 #[.float .f64 a, .float .f64 b] w fun e w' => e = .returned (.float .f64 (maxF a b)) ∧ w = w' := by
  cases h1 : isNaN a
  · have h1' : (FloatKind.f64.format.order a a != some .eq) = _ := h1
    cases h2 : isNaN b
    · have h2' : (FloatKind.f64.format.order b b != some .eq) = _ := h2
      cases h : less a b
      all_goals
        go_enter Tryd.func21, Tryd.ntmps21
        go_wp2_with (first | (go_at_call 41; refine (refNaN_any _).mono ?_; rintro e w' ⟨rfl, rfl⟩) | (go_at_call 17; refine (refLess_any _ _ (by assumption) (by assumption) _).mono ?_; rintro e w' ⟨rfl, rfl⟩))
        go_ret
        exact ⟨ret_float (by simp [maxF, h1, h2, h]), rfl⟩
    · have h2' : (FloatKind.f64.format.order b b != some .eq) = _ := h2
      go_enter Tryd.func21, Tryd.ntmps21
      go_wp2_with (first | (go_at_call 41; refine (refNaN_any _).mono ?_; rintro e w' ⟨rfl, rfl⟩))
      go_ret
      exact ⟨ret_float (by simp [maxF, h1, h2]), rfl⟩
  · have h1' : (FloatKind.f64.format.order a a != some .eq) = _ := h1
    go_enter Tryd.func21, Tryd.ntmps21
    go_wp2_with (first | (go_at_call 41; refine (refNaN_any _).mono ?_; rintro e w' ⟨rfl, rfl⟩))
    go_ret
    exact ⟨ret_float (by simp [maxF, h1]), rfl⟩
set_option maxHeartbeats 400000 in
theorem refAdd_any (a b : Nat) (w : World) :
    Calls Tryd.prog 19 #[.float .f64 a, .float .f64 b] w fun e w' => e = .returned (.float .f64 (sumC a b)) ∧ ∃ n, w' = w.drewN n := by
  cases h : addF a b
  · have hr := fun t w => run_add_none h t w
    go_enter Tryd.func19, Tryd.ntmps19
    go_wp2_with (first | (go_at_call 13; refine (refCanon_any _ _).mono ?_; rintro e w' ⟨rfl, rfl⟩))
    go_ret
    exact ⟨ret_float (by unfold sumC; rw [h]; exact canon_nan (nanAt_nan _ _ _).1), 1, rfl⟩
  · have hr := fun t w => run_add_some h t w
    go_enter Tryd.func19, Tryd.ntmps19
    go_wp2_with (first | (go_at_call 13; refine (refCanon_any _ _).mono ?_; rintro e w' ⟨rfl, rfl⟩))
    go_ret
    exact ⟨ret_float (by unfold sumC; rw [h]), 0, rfl⟩

def clampF (x lo hi : Nat) : Nat := if isNaN x = true then canon lo else if less x lo = true then canon lo else if less hi x = true then canon hi else x
set_option maxHeartbeats 400000 in
theorem Clamp_any (x lo hi : Nat) (hx : x < 18446744073709551616) (hl : lo < 18446744073709551616) (hh : hi < 18446744073709551616) (w : World) :
    Calls Tryd.prog 22 #[.float .f64 x, .float .f64 lo, .float .f64 hi] w fun e w' => e = .returned (.float .f64 (clampF x lo hi)) ∧ w = w' := by
  cases h1 : isNaN x <;> cases h2 : less x lo <;> cases h3 : less hi x
  all_goals
    go_enter Tryd.func22, Tryd.ntmps22
    go_wp2_with (first | (go_at_call 39; refine (IsNaN_any _ _).mono ?_; rintro e w' ⟨rfl, rfl⟩) | (go_at_call 12; refine (Canon_any _ _).mono ?_; rintro e w' ⟨rfl, rfl⟩) | (go_at_call 16; refine (Less_any _ _ (by assumption) (by assumption) _).mono ?_; rintro e w' ⟨rfl, rfl⟩))
    go_ret
    exact ⟨ret_float (by simp [clampF, h1, h2, h3]), rfl⟩
set_option maxHeartbeats 400000 in
theorem refClamp_any (x lo hi : Nat) (hx : x < 18446744073709551616) (hl : lo < 18446744073709551616) (hh : hi < 18446744073709551616) (w : World) :
    Calls Tryd.prog 23 #[.float .f64 x, .float .f64 lo, .float .f64 hi] w fun e w' => e = .returned (.float .f64 (clampF x lo hi)) ∧ w = w' := by
  cases h1 : isNaN x <;> cases h2 : less x lo <;> cases h3 : less hi x
  all_goals
    have h1' : (FloatKind.f64.format.order x x != some .eq) = _ := h1
    go_enter Tryd.func23, Tryd.ntmps23
    go_wp2_with (first | (go_at_call 13; refine (refCanon_any _ _).mono ?_; rintro e w' ⟨rfl, rfl⟩) | (go_at_call 17; refine (refLess_any _ _ (by assumption) (by assumption) _).mono ?_; rintro e w' ⟨rfl, rfl⟩))
    go_ret
    exact ⟨ret_float (by simp [clampF, h1, h2, h3]), rfl⟩

set_option maxHeartbeats 400000 in
theorem bits_any (a b : Nat) (w : World) :
    Calls Tryd.prog 11 #[.float .f64 a, .float .f64 b] w fun e w' => e = .returned (.bool (decide (a = b))) ∧ w = w' := by
  go_enter Tryd.func11, Tryd.ntmps11
  go_wp2
  go_ret
  exact ⟨ret_bool (by rw [Bool.eq_iff_iff]; simp; omega), rfl⟩
end Go.Proofs.YtagofgadijeglaaDoor.Nm
