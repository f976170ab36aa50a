/- Walks of layer 1's functions. -/
import Derived.Test.YtlgmjkbaihpmmaaGreatNumMath
import Derived.WalkKit
import Derived.WalkSpells
import Derived.WalkLawsBesides
import Derived.Lib.Hide
import Derived.Deep.Draws
namespace Go.Proofs.YtlgmjkbaihpmmaaGreat.Nm
open Go Go.RowKit

theorem run_bits (a : Nat) (w : World) : (callFunc 50 #[.float .f64 a]).run Tryz.prog w = .ok (.value (.int .u64 a)) w := by
  rw [run_callFunc_extern (fn := Tryz.f50) (e := Extern.MathFloatBits.float64bits) Tryz.func50 (by kernel_rfl) (by kernel_rfl) (by kernel_rfl) (by kernel_rfl)]
  rfl
theorem run_frombits (n : Int) (w : World) : (callFunc 72 #[.int .u64 n]).run Tryz.prog w = .ok (.value (.float .f64 n.toNat)) w := by
  rw [run_callFunc_extern (fn := Tryz.f72) (e := Extern.MathFloatBits.float64frombits) Tryz.func72 (by kernel_rfl) (by kernel_rfl) (by kernel_rfl) (by kernel_rfl)]
  rfl
attribute [local go_sem] run_bits run_frombits

theorem toList_data (s : ByteArray) : s.toList = s.data.toList := ByteArray.toList_eq s
theorem ret_int {k : IntKind} {a b : Int} (h : a = b) : Ending.returned (.int k a) = .returned (.int k b) := by rw [h]
theorem ret_bool {a b : Bool} (h : a = b) : Ending.returned (.bool a) = .returned (.bool b) := by rw [h]
theorem ret_float {a b : Nat} (h : a = b) : Ending.returned (.float .f64 a) = .returned (.float .f64 b) := by rw [h]

set_option maxHeartbeats 400000 in
theorem IsNaN_any (a : Nat) (w : World) :
    Calls Tryz.prog 99 #[.float .f64 a] w fun e w' => e = .returned (.bool (isNaN a)) ∧ w = w' := by
  go_enter Tryz.func99, Tryz.ntmps99
  go_wp2
  go_ret
  exact ⟨rfl, rfl⟩

set_option maxHeartbeats 400000 in
theorem nan_any (w : World) :
    Calls Tryz.prog 100 #[] w fun e w' => e = .returned (.float .f64 nanBits) ∧ w = w' := by
  go_enter Tryz.func100, Tryz.ntmps100
  go_wp2
  go_ret
  exact ⟨rfl, rfl⟩

set_option maxHeartbeats 400000 in
theorem refNaN_any (w : World) :
    Calls Tryz.prog 51 #[] w fun e w' => e = .returned (.float .f64 nanBits) ∧ w = w' := by
  go_enter Tryz.func51, Tryz.ntmps51
  go_wp2
  go_ret
  exact ⟨rfl, rfl⟩

set_option maxHeartbeats 400000 in
theorem Canon_any (a : Nat) (w : World) :
    Calls Tryz.prog 71 #[.float .f64 a] w fun e w' => e = .returned (.float .f64 (canon a)) ∧ w = w' := by
  cases h : isNaN a
  all_goals
    have h2 : (FloatKind.f64.format.order a a != some .eq) = _ := h
    go_enter Tryz.func71, Tryz.ntmps71
    go_wp2_with (first | (go_at_call 99; refine (IsNaN_any _ _).mono ?_; rintro e w' ⟨rfl, rfl⟩) | (go_at_call 100; refine (nan_any _).mono ?_; rintro e w' ⟨rfl, rfl⟩))
    go_ret
    exact ⟨by simp [canon, h], rfl⟩

set_option maxHeartbeats 400000 in
theorem refCanon_any (a : Nat) (w : World) :
    Calls Tryz.prog 74 #[.float .f64 a] w fun e w' => e = .returned (.float .f64 (canon a)) ∧ w = w' := by
  cases h : isNaN a
  all_goals
    have h2 : (FloatKind.f64.format.order a a != some .eq) = _ := h
    go_enter Tryz.func74, Tryz.ntmps74
    go_wp2_with (first | (go_at_call 51; refine (refNaN_any _).mono ?_; rintro e w' ⟨rfl, rfl⟩))
    go_ret
    exact ⟨by simp [canon, h], rfl⟩

set_option maxHeartbeats 400000 in
theorem rank_any (a : Nat) (ha : a < 18446744073709551616) (w : World) :
    Calls Tryz.prog 128 #[.float .f64 a] w fun e w' => e = .returned (.int .u64 (rank a)) ∧ w = w' := by
  have H := Lib.hid (canon_lt ha)
  clear ha
  go_enter Tryz.func128, Tryz.ntmps128
  go_wp2_with (first | (go_at_call 71; refine (Canon_any _ _).mono ?_; rintro e w' ⟨rfl, rfl⟩))
  · go_ret
    exact ⟨ret_int (rank_hi _ H.out ‹_›), rfl⟩
  · go_ret
    exact ⟨ret_int (rank_lo _ H.out ‹_›), rfl⟩

theorem rank_hi2 (c : Nat) (hc : c < 18446744073709551616) (h : ((c : Int) / 9223372036854775808 == 1) = true) :
    bits .xor .u64 IntKind.u64.max (c : Int) = ((rankOf c : Nat) : Int) := by
  refine rank_hi c hc ?_
  rw [beq_iff_eq] at h
  rw [and_sign c hc, if_pos (by omega)]; rfl
theorem rank_lo2 (c : Nat) (hc : c < 18446744073709551616) (h : ((c : Int) / 9223372036854775808 == 1) = false) :
    bits .or .u64 (c : Int) 9223372036854775808 = ((rankOf c : Nat) : Int) := by
  refine rank_lo c hc ?_
  rw [beq_eq_false_iff_ne] at h
  rw [and_sign c hc, if_neg (by omega)]; rfl
set_option maxHeartbeats 400000 in
theorem refrank_any (a : Nat) (ha : a < 18446744073709551616) (w : World) :
    Calls Tryz.prog 127 #[.float .f64 a] w fun e w' => e = .returned (.int .u64 (rank a)) ∧ w = w' := by
  have H := Lib.hid (canon_lt ha)
  clear ha
  go_enter Tryz.func127, Tryz.ntmps127
  go_wp2_with (first | (go_at_call 74; refine (refCanon_any _ _).mono ?_; rintro e w' ⟨rfl, rfl⟩))
  · go_ret
    exact ⟨ret_int (rank_hi2 _ H.out ‹_›), rfl⟩
  · go_ret
    exact ⟨ret_int (rank_lo2 _ H.out ‹_›), rfl⟩

set_option maxHeartbeats 400000 in
theorem Same_any (a b : Nat) (w : World) :
    Calls Tryz.prog 116 #[.float .f64 a, .float .f64 b] w fun e w' => e = .returned (.bool (same a b)) ∧ w = w' := by
  go_enter Tryz.func116, Tryz.ntmps116
  go_wp2_with (first | (go_at_call 71; refine (Canon_any _ _).mono ?_; rintro e w' ⟨rfl, rfl⟩))
  go_ret
  exact ⟨ret_bool (by unfold same; rw [Bool.eq_iff_iff]; simp; omega), rfl⟩
set_option maxHeartbeats 400000 in
theorem Less_any (a b : Nat) (ha : a < 18446744073709551616) (hb : b < 18446744073709551616) (w : World) :
    Calls Tryz.prog 124 #[.float .f64 a, .float .f64 b] w fun e w' => e = .returned (.bool (less a b)) ∧ w = w' := by
  go_enter Tryz.func124, Tryz.ntmps124
  go_wp2_with (first | (go_at_call 128; refine (rank_any _ (by assumption) _).mono ?_; rintro e w' ⟨rfl, rfl⟩))
  go_ret
  exact ⟨ret_bool (by unfold less; exact decide_eq_decide.2 (by omega)), rfl⟩
set_option maxHeartbeats 400000 in
theorem refLess_any (a b : Nat) (ha : a < 18446744073709551616) (hb : b < 18446744073709551616) (w : World) :
    Calls Tryz.prog 123 #[.float .f64 a, .float .f64 b] w fun e w' => e = .returned (.bool (less a b)) ∧ w = w' := by
  go_enter Tryz.func123, Tryz.ntmps123
  go_wp2_with (first | (go_at_call 127; refine (refrank_any _ (by assumption) _).mono ?_; rintro e w' ⟨rfl, rfl⟩))
  go_ret
  exact ⟨ret_bool (by unfold less; exact decide_eq_decide.2 (by omega)), rfl⟩

/-- the sum of two floats, before it is made one NaN -/
def addF (a b : Nat) : Option Nat := FloatKind.f64.format.add a b
def sumC (a b : Nat) : Nat := match addF a b with | some r => canon r | none => nanBits
def nanAt (w : World) (a b : Nat) : Nat := Question.cut (.nanBits .f64 a b) (w.tape w.drawn (.nanBits .f64 a b))
theorem run_add_some {a b r : Nat} (h : addF a b = some r) (t : TypeId) (w : World) : (binOp .add t (.float .f64 a) (.float .f64 b)).run Tryz.prog w = .ok (.float .f64 r) w :=
  run_float_arith w .add t .f64 a b r h
theorem run_add_none {a b : Nat} (h : addF a b = none) (t : TypeId) (w : World) : (binOp .add t (.float .f64 a) (.float .f64 b)).run Tryz.prog w = .ok (.float .f64 (nanAt w a b)) w.drew := by
  unfold addF at h
  simp [binOp, Op.floatArith, h, nanAt, Question.forced]
theorem nanAt_nan (w : World) (a b : Nat) : isNaN (nanAt w a b) = true ∧ nanAt w a b < 18446744073709551616 := by
  unfold nanAt
  generalize w.tape w.drawn (Question.nanBits FloatKind.f64 a b) = t
  rw [isNaN_iff, decide_eq_true_eq]
  constructor
  · show 9218868437227405312 < ((t % 2) * 9223372036854775808 + 9218868437227405312 + 1 + (t / 2) % 4503599627370495) % 9223372036854775808
    have h1 : (t / 2) % 4503599627370495 < 4503599627370495 := Nat.mod_lt _ (by omega)
    have h2 : t % 2 < 2 := Nat.mod_lt _ (by omega)
    generalize (t / 2) % 4503599627370495 = u at *
    generalize t % 2 = v at *
    have e : v * 9223372036854775808 + 9218868437227405312 + 1 + u = (9218868437227405312 + 1 + u) + v * 9223372036854775808 := by omega
    rw [e, Nat.add_mul_mod_self_right, Nat.mod_eq_of_lt (by omega)]
    omega
  · show (t % 2) * 9223372036854775808 + 9218868437227405312 + 1 + (t / 2) % 4503599627370495 < 18446744073709551616
    omega
set_option maxHeartbeats 400000 in
theorem Add_any (a b : Nat) (w : World) :
    Calls Tryz.prog 118 #[.float .f64 a, .float .f64 b] w fun e w' => e = .returned (.float .f64 (sumC a b)) ∧ ∃ n, w' = w.drewN n := by
  cases h : addF a b
  · have hr := fun t w => run_add_none h t w
    go_enter Tryz.func118, Tryz.ntmps118
    go_wp2_with (first | (go_at_call 71; refine (Canon_any _ _).mono ?_; rintro e w' ⟨rfl, rfl⟩))
    go_ret
    exact ⟨ret_float (by unfold sumC; rw [h]; exact canon_nan (nanAt_nan _ _ _).1), 1, rfl⟩
  · have hr := fun t w => run_add_some h t w
    go_enter Tryz.func118, Tryz.ntmps118
    go_wp2_with (first | (go_at_call 71; refine (Canon_any _ _).mono ?_; rintro e w' ⟨rfl, rfl⟩))
    go_ret
    exact ⟨ret_float (by unfold sumC; rw [h]), 0, rfl⟩


def maxF (a b : Nat) : Nat := if isNaN a = true then nanBits else if isNaN b = true then nanBits else if less a b = true then b else a
set_option maxHeartbeats 400000 in
theorem Max_any (a b : Nat) (ha : a < 18446744073709551616) (hb : b < 18446744073709551616) (w : World) :
    Calls Tryz.prog 119 #[.float .f64 a, .float .f64 b] w fun e w' => e = .returned (.float .f64 (maxF a b)) ∧ w = w' := by
  have hm : maxF a b = canon (if less a b = true then b else a) := by
    unfold maxF
    cases na : isNaN a
    · cases nb : isNaN b
      · cases h : less a b
        · simp [canon_num na]
        · simp [canon_num nb]
      · have : less a b = true := by
          unfold less; rw [decide_eq_true_eq, rank_nan nb]; exact rank_num_lt ha na
        simp [this, canon_nan nb]
    · have : less a b = false := by
        unfold less; rw [decide_eq_false_iff_not]; have := rank_le_nan hb na; omega
      simp [this, canon_nan na]
  have HM := Lib.hid hm
  clear hm
  cases h : less a b
  all_goals
    go_enter Tryz.func119, Tryz.ntmps119
    go_wp2_with (first | (go_at_call 71; refine (Canon_any _ _).mono ?_; rintro e w' ⟨rfl, rfl⟩) | (go_at_call 124; refine (Less_any _ _ (by assumption) (by assumption) _).mono ?_; rintro e w' ⟨rfl, rfl⟩))
    go_ret
    exact ⟨ret_float (by rw [HM.out, h]; rfl), rfl⟩
set_option maxHeartbeats 400000 in
theorem refMax_any (a b : Nat) (ha : a < 18446744073709551616) (hb : b < 18446744073709551616) (w : World) :
    Calls Tryz.prog 115 #[.float .f64 a, .float .f64 b] w fun e w' => e = .returned (.float .f64 (maxF a b)) ∧ w = w' := by
  cases h1 : isNaN a
  · have h1' : (FloatKind.f64.format.order a a != some .eq) = _ := h1
    cases h2 : isNaN b
    · have h2' : (FloatKind.f64.format.order b b != some .eq) = _ := h2
      cases h : less a b
      all_goals
        go_enter Tryz.func115, Tryz.ntmps115
        go_wp2_with (first | (go_at_call 51; refine (refNaN_any _).mono ?_; rintro e w' ⟨rfl, rfl⟩) | (go_at_call 123; refine (refLess_any _ _ (by assumption) (by assumption) _).mono ?_; rintro e w' ⟨rfl, rfl⟩))
        go_ret
        exact ⟨ret_float (by simp [maxF, h1, h2, h]), rfl⟩
    · have h2' : (FloatKind.f64.format.order b b != some .eq) = _ := h2
      go_enter Tryz.func115, Tryz.ntmps115
      go_wp2_with (first | (go_at_call 51; refine (refNaN_any _).mono ?_; rintro e w' ⟨rfl, rfl⟩))
      go_ret
      exact ⟨ret_float (by simp [maxF, h1, h2]), rfl⟩
  · have h1' : (FloatKind.f64.format.order a a != some .eq) = _ := h1
    go_enter Tryz.func115, Tryz.ntmps115
    go_wp2_with (first | (go_at_call 51; refine (refNaN_any _).mono ?_; rintro e w' ⟨rfl, rfl⟩))
    go_ret
    exact ⟨ret_float (by simp [maxF, h1]), rfl⟩
set_option maxHeartbeats 400000 in
theorem refAdd_any (a b : Nat) (w : World) :
    Calls Tryz.prog 114 #[.float .f64 a, .float .f64 b] w fun e w' => e = .returned (.float .f64 (sumC a b)) ∧ ∃ n, w' = w.drewN n := by
  cases h : addF a b
  · have hr := fun t w => run_add_none h t w
    go_enter Tryz.func114, Tryz.ntmps114
    go_wp2_with (first | (go_at_call 74; refine (refCanon_any _ _).mono ?_; rintro e w' ⟨rfl, rfl⟩))
    go_ret
    exact ⟨ret_float (by unfold sumC; rw [h]; exact canon_nan (nanAt_nan _ _ _).1), 1, rfl⟩
  · have hr := fun t w => run_add_some h t w
    go_enter Tryz.func114, Tryz.ntmps114
    go_wp2_with (first | (go_at_call 74; refine (refCanon_any _ _).mono ?_; rintro e w' ⟨rfl, rfl⟩))
    go_ret
    exact ⟨ret_float (by unfold sumC; rw [h]), 0, rfl⟩

def clampF (x lo hi : Nat) : Nat := if isNaN x = true then canon lo else if less x lo = true then canon lo else if less hi x = true then canon hi else x
end Go.Proofs.YtlgmjkbaihpmmaaGreat.Nm
