/- Walks of layer 1's functions. -/
import Derived.Test.YtekbeicoeoajoaaDoorNumMath
import Derived.WalkKit
import Derived.WalkSpells
import Derived.WalkLawsBesides
import Derived.Lib.Hide
import Derived.Deep.Draws
namespace Go.Proofs.YtekbeicoeoajoaaDoor.Nm
open Go Go.RowKit

theorem run_bits (a : Nat) (w : World) : (callFunc 26 #[.float .f64 a]).run Tryd.prog w = .ok (.value (.int .u64 a)) w := by
  rw [run_callFunc_extern (fn := Tryd.f26) (e := Extern.MathFloatBits.float64bits) Tryd.func26 (by kernel_rfl) (by kernel_rfl) (by kernel_rfl) (by kernel_rfl)]
  rfl
theorem run_frombits (n : Int) (w : World) : (callFunc 45 #[.int .u64 n]).run Tryd.prog w = .ok (.value (.float .f64 n.toNat)) w := by
  rw [run_callFunc_extern (fn := Tryd.f45) (e := Extern.MathFloatBits.float64frombits) Tryd.func45 (by kernel_rfl) (by kernel_rfl) (by kernel_rfl) (by kernel_rfl)]
  rfl
attribute [local go_sem] run_bits run_frombits

theorem ret_int {k : IntKind} {a b : Int} (h : a = b) : Ending.returned (.int k a) = .returned (.int k b) := by rw [h]
theorem ret_bool {a b : Bool} (h : a = b) : Ending.returned (.bool a) = .returned (.bool b) := by rw [h]
theorem ret_float {a b : Nat} (h : a = b) : Ending.returned (.float .f64 a) = .returned (.float .f64 b) := by rw [h]

set_option maxHeartbeats 400000 in
theorem IsNaN_any (a : Nat) (w : World) :
    Calls Tryd.prog 56 #[.float .f64 a] w fun e w' => e = .returned (.bool (isNaN a)) ∧ w = w' := by
  go_enter Tryd.func56, Tryd.ntmps56
  go_wp2
  go_ret
  exact ⟨rfl, rfl⟩

set_option maxHeartbeats 400000 in
theorem nan_any (w : World) :
    Calls Tryd.prog 57 #[] w fun e w' => e = .returned (.float .f64 nanBits) ∧ w = w' := by
  go_enter Tryd.func57, Tryd.ntmps57
  go_wp2
  go_ret
  exact ⟨rfl, rfl⟩

set_option maxHeartbeats 400000 in
theorem refNaN_any (w : World) :
    Calls Tryd.prog 27 #[] w fun e w' => e = .returned (.float .f64 nanBits) ∧ w = w' := by
  go_enter Tryd.func27, Tryd.ntmps27
  go_wp2
  go_ret
  exact ⟨rfl, rfl⟩

set_option maxHeartbeats 400000 in
theorem Canon_any (a : Nat) (w : World) :
    Calls Tryd.prog 44 #[.float .f64 a] w fun e w' => e = .returned (.float .f64 (canon a)) ∧ w = w' := by
  cases h : isNaN a
  all_goals
    have h2 : (FloatKind.f64.format.order a a != some .eq) = _ := h
    go_enter Tryd.func44, Tryd.ntmps44
    go_wp2_with (first | (go_at_call 56; refine (IsNaN_any _ _).mono ?_; rintro e w' ⟨rfl, rfl⟩) | (go_at_call 57; refine (nan_any _).mono ?_; rintro e w' ⟨rfl, rfl⟩))
    go_ret
    exact ⟨by simp [canon, h], rfl⟩

set_option maxHeartbeats 400000 in
theorem refCanon_any (a : Nat) (w : World) :
    Calls Tryd.prog 51 #[.float .f64 a] w fun e w' => e = .returned (.float .f64 (canon a)) ∧ w = w' := by
  cases h : isNaN a
  all_goals
    have h2 : (FloatKind.f64.format.order a a != some .eq) = _ := h
    go_enter Tryd.func51, Tryd.ntmps51
    go_wp2_with (first | (go_at_call 27; refine (refNaN_any _).mono ?_; rintro e w' ⟨rfl, rfl⟩))
    go_ret
    exact ⟨by simp [canon, h], rfl⟩

set_option maxHeartbeats 400000 in
theorem rank_any (a : Nat) (ha : a < 18446744073709551616) (w : World) :
    Calls Tryd.prog 46 #[.float .f64 a] w fun e w' => e = .returned (.int .u64 (rank a)) ∧ w = w' := by
  have H := Lib.hid (canon_lt ha)
  clear ha
  go_enter Tryd.func46, Tryd.ntmps46
  go_wp2_with (first | (go_at_call 44; refine (Canon_any _ _).mono ?_; rintro e w' ⟨rfl, rfl⟩))
  · go_ret
    exact ⟨ret_int (rank_hi _ H.out ‹_›), rfl⟩
  · go_ret
    exact ⟨ret_int (rank_lo _ H.out ‹_›), rfl⟩

theorem rank_hi2 (c : Nat) (hc : c < 18446744073709551616) (h : ((c : Int) / 9223372036854775808 == 1) = true) :
    bits .xor .u64 IntKind.u64.max (c : Int) = ((rankOf c : Nat) : Int) := by
  refine rank_hi c hc ?_
  rw [beq_iff_eq] at h
  rw [and_sign c hc, if_pos (by omega)]; rfl
theorem rank_lo2 (c : Nat) (hc : c < 18446744073709551616) (h : ((c : Int) / 9223372036854775808 == 1) = false) :
    bits .or .u64 (c : Int) 9223372036854775808 = ((rankOf c : Nat) : Int) := by
  refine rank_lo c hc ?_
  rw [beq_eq_false_iff_ne] at h
  rw [and_sign c hc, if_neg (by omega)]; rfl
set_option maxHeartbeats 400000 in
theorem refrank_any (a : Nat) (ha : a < 18446744073709551616) (w : World) :
    Calls Tryd.prog 47 #[.float .f64 a] w fun e w' => e = .returned (.int .u64 (rank a)) ∧ w = w' := by
  have H := Lib.hid (canon_lt ha)
  clear ha
  go_enter Tryd.func47, Tryd.ntmps47
  go_wp2_with (first | (go_at_call 51; refine (refCanon_any _ _).mono ?_; rintro e w' ⟨rfl, rfl⟩))
  · go_ret
    exact ⟨ret_int (rank_hi2 _ H.out ‹_›), rfl⟩
  · go_ret
    exact ⟨ret_int (rank_lo2 _ H.out ‹_›), rfl⟩

set_option maxHeartbeats 400000 in
theorem Same_any (a b : Nat) (w : World) :
    Calls Tryd.prog 28 #[.float .f64 a, .float .f64 b] w fun e w' => e = .returned (.bool (same a b)) ∧ w = w' := by
  go_enter Tryd.func28, Tryd.ntmps28
  go_wp2_with (first | (go_at_call 44; refine (Canon_any _ _).mono ?_; rintro e w' ⟨rfl, rfl⟩))
  go_ret
  exact ⟨ret_bool (by unfold same; rw [Bool.eq_iff_iff]; simp; omega), rfl⟩
set_option maxHeartbeats 400000 in
theorem refSame_any (a b : Nat) (ha : a < 18446744073709551616) (hb : b < 18446744073709551616) (w : World) :
    Calls Tryd.prog 31 #[.float .f64 a, .float .f64 b] w fun e w' => e = .returned (.bool (same a b)) ∧ w = w' := by
  go_enter Tryd.func31, Tryd.ntmps31
  go_wp2_with (first | (go_at_call 47; refine (refrank_any _ (by assumption) _).mono ?_; rintro e w' ⟨rfl, rfl⟩))
  go_ret
  exact ⟨ret_bool (by unfold same; rw [Bool.eq_iff_iff]; simp [← rank_inj ha hb]; omega), rfl⟩
set_option maxHeartbeats 400000 in
theorem Less_any (a b : Nat) (ha : a < 18446744073709551616) (hb : b < 18446744073709551616) (w : World) :
    Calls Tryd.prog 30 #[.float .f64 a, .float .f64 b] w fun e w' => e = .returned (.bool (less a b)) ∧ w = w' := by
  go_enter Tryd.func30, Tryd.ntmps30
  go_wp2_with (first | (go_at_call 46; refine (rank_any _ (by assumption) _).mono ?_; rintro e w' ⟨rfl, rfl⟩))
  go_ret
  exact ⟨ret_bool (by unfold less; exact decide_eq_decide.2 (by omega)), rfl⟩
set_option maxHeartbeats 400000 in
theorem refLess_any (a b : Nat) (ha : a < 18446744073709551616) (hb : b < 18446744073709551616) (w : World) :
    Calls Tryd.prog 32 #[.float .f64 a, .float .f64 b] w fun e w' => e = .returned (.bool (less a b)) ∧ w = w' := by
  go_enter Tryd.func32, Tryd.ntmps32
  go_wp2_with (first | (go_at_call 47; refine (refrank_any _ (by assumption) _).mono ?_; rintro e w' ⟨rfl, rfl⟩))
  go_ret
  exact ⟨ret_bool (by unfold less; exact decide_eq_decide.2 (by omega)), rfl⟩

/-- the sum of two floats, before it is made one NaN -/
def addF (a b : Nat) : Option Nat := FloatKind.f64.format.add a b
def sumC (a b : Nat) : Nat := match addF a b with | some r => canon r | none => nanBits
def nanAt (w : World) (a b : Nat) : Nat := Question.cut (.nanBits .f64 a b) (w.tape w.drawn (.nanBits .f64 a b))
theorem run_add_some {a b r : Nat} (h : addF a b = some r) (t : TypeId) (w : World) : (binOp .add t (.float .f64 a) (.float .f64 b)).run Tryd.prog w = .ok (.float .f64 r) w :=
  run_float_arith w .add t .f64 a b r h
theorem run_add_none {a b : Nat} (h : addF a b = none) (t : TypeId) (w : World) : (binOp .add t (.float .f64 a) (.float .f64 b)).run Tryd.prog w = .ok (.float .f64 (nanAt w a b)) w.drew := by
  unfold addF at h
  simp [binOp, Op.floatArith, h, nanAt, Question.forced]
theorem nanAt_nan (w : World) (a b : Nat) : isNaN (nanAt w a b) = true ∧ nanAt w a b < 18446744073709551616 := by
  unfold nanAt
  generalize w.tape w.drawn (Question.nanBits FloatKind.f64 a b) = t
  rw [isNaN_iff, decide_eq_true_eq]
  constructor
  · show 9218868437227405312 < ((t % 2) * 9223372036854775808 + 9218868437227405312 + 1 + (t / 2) % 4503599627370495) % 9223372036854775808
    have h1 : (t / 2) % 4503599627370495 < 4503599627370495 := Nat.mod_lt _ (by omega)
    have h2 : t % 2 < 2 := Nat.mod_lt _ (by omega)
    generalize (t / 2) % 4503599627370495 = u at *
    generalize t % 2 = v at *
    have e : v * 9223372036854775808 + 9218868437227405312 + 1 + u = (9218868437227405312 + 1 + u) + v * 9223372036854775808 := by omega
    rw [e, Nat.add_mul_mod_self_right, Nat.mod_eq_of_lt (by omega)]
    omega
  · show (t % 2) * 9223372036854775808 + 9218868437227405312 + 1 + (t / 2) % 4503599627370495 < 18446744073709551616
    omega
set_option maxHeartbeats 400000 in
theorem Add_any (a b : Nat) (w : World) :
    Calls Tryd.prog 34 #[.float .f64 a, .float .f64 b] w fun e w' => e = .returned (.float .f64 (sumC a b)) ∧ ∃ n, w' = w.drewN n := by
  cases h : addF a b
  · have hr := fun t w => run_add_none h t w
    go_enter Tryd.func34, Tryd.ntmps34
    go_wp2_with (first | (go_at_call 44; refine (Canon_any _ _).mono ?_; rintro e w' ⟨rfl, rfl⟩))
    go_ret
    exact ⟨ret_float (by unfold sumC; rw [h]; exact canon_nan (nanAt_nan _ _ _).1), 1, rfl⟩
  · have hr := fun t w => run_add_some h t w
    go_enter Tryd.func34, Tryd.ntmps34
    go_wp2_with (first | (go_at_call 44; refine (Canon_any _ _).mono ?_; rintro e w' ⟨rfl, rfl⟩))
    go_ret
    exact ⟨ret_float (by unfold sumC; rw [h]), 0, rfl⟩


def maxF (a b : Nat) : Nat := if isNaN a = true then nanBits else if isNaN b = true then nanBits else if less a b = true then b else a
set_option maxHeartbeats 400000 in
theorem Max_any (a b : Nat) (ha : a < 18446744073709551616) (hb : b < 18446744073709551616) (w : World) :
    Calls Tryd.prog 36 #[.float .f64 a, .float .f64 b] w fun e w' => e = .returned (.float .f64 (maxF a b)) ∧ w = w' := by
  have hm : maxF a b = canon (if less a b = true then b else a) := by
    unfold maxF
    cases na : isNaN a
    · cases nb : isNaN b
      · cases h : less a b
        · simp [canon_num na]
        · simp [canon_num nb]
      · have : less a b = true := by
          unfold less; rw [decide_eq_true_eq, rank_nan nb]; exact rank_num_lt ha na
        simp [this, canon_nan nb]
    · have : less a b = false := by
        unfold less; rw [decide_eq_false_iff_not]; have := rank_le_nan hb na; omega
      simp [this, canon_nan na]
  have HM := Lib.hid hm
  clear hm
  cases h : less a b
  all_goals
    go_enter Tryd.func36, Tryd.ntmps36
    go_wp2_with (first | (go_at_call 44; refine (Canon_any _ _).mono ?_; rintro e w' ⟨rfl, rfl⟩) | (go_at_call 30; refine (Less_any _ _ (by assumption) (by assumption) _).mono ?_; rintro e w' ⟨rfl, rfl⟩))
    go_ret
    exact ⟨ret_float (by rw [HM.out, h]; rfl), rfl⟩
set_option maxHeartbeats 400000 in
theorem refMax_any (a b : Nat) (ha : a < 18446744073709551616) (hb : b < 18446744073709551616) (w : World) :
    Calls Tryd.prog 49 #[.float .f64 a, .float .f64 b] w fun e w' => e = .returned (.float .f64 (maxF a b)) ∧ w = w' := by
  cases h1 : isNaN a
  · have h1' : (FloatKind.f64.format.order a a != some .eq) = _ := h1
    cases h2 : isNaN b
    · have h2' : (FloatKind.f64.format.order b b != some .eq) = _ := h2
      cases h : less a b
      all_goals
        go_enter Tryd.func49, Tryd.ntmps49
        go_wp2_with (first | (go_at_call 27; refine (refNaN_any _).mono ?_; rintro e w' ⟨rfl, rfl⟩) | (go_at_call 32; refine (refLess_any _ _ (by assumption) (by assumption) _).mono ?_; rintro e w' ⟨rfl, rfl⟩))
        go_ret
        exact ⟨ret_float (by simp [maxF, h1, h2, h]), rfl⟩
    · have h2' : (FloatKind.f64.format.order b b != some .eq) = _ := h2
      go_enter Tryd.func49, Tryd.ntmps49
      go_wp2_with (first | (go_at_call 27; refine (refNaN_any _).mono ?_; rintro e w' ⟨rfl, rfl⟩))
      go_ret
      exact ⟨ret_float (by simp [maxF, h1, h2]), rfl⟩
  · have h1' : (FloatKind.f64.format.order a a != some .eq) = _ := h1
    go_enter Tryd.func49, Tryd.ntmps49
    go_wp2_with (first | (go_at_call 27; refine (refNaN_any _).mono ?_; rintro e w' ⟨rfl, rfl⟩))
    go_ret
    exact ⟨ret_float (by simp [maxF, h1]), rfl⟩
set_option maxHeartbeats 400000 in
theorem refAdd_any (a b : Nat) (w : World) :
    Calls Tryd.prog 48 #[.float .f64 a, .float .f64 b] w fun e w' => e = .returned (.float .f64 (sumC a b)) ∧ ∃ n, w' = w.drewN n := by
  cases h : addF a b
  · have hr := fun t w => run_add_none h t w
    go_enter Tryd.func48, Tryd.ntmps48
    go_wp2_with (first | (go_at_call 51; refine (refCanon_any _ _).mono ?_; rintro e w' ⟨rfl, rfl⟩))
    go_ret
    exact ⟨ret_float (by unfold sumC; rw [h]; exact canon_nan (nanAt_nan _ _ _).1), 1, rfl⟩
  · have hr := fun t w => run_add_some h t w
    go_enter Tryd.func48, Tryd.ntmps48
    go_wp2_with (first | (go_at_call 51; refine (refCanon_any _ _).mono ?_; rintro e w' ⟨rfl, rfl⟩))
    go_ret
    exact ⟨ret_float (by unfold sumC; rw [h]), 0, rfl⟩

def clampF (x lo hi : Nat) : Nat := if isNaN x = true then canon lo else if less x lo = true then canon lo else if less hi x = true then canon hi else x
end Go.Proofs.YtekbeicoeoajoaaDoor.Nm
