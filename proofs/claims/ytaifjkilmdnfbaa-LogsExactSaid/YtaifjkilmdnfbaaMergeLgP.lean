import Derived.Test.YtaifjkilmdnfbaaRows
import Derived.WalkLawsBesides
import Derived.WalkKit
import Derived.WalkSpells
import Derived.Lib.Hide
import Derived.Deep.Draws
import Derived.Sort.Walk0
import Derived.Test.YtaifjkilmdnfbaaProg
import Derived.Laws.BitsAllLaws
import Derived.Laws.Bits128
import Derived.Below
section
/- Plain mathematics for layer 1: the bits of a float, the one NaN, the order's rank. No program. -/
namespace Go.Proofs.Ytaifjkilmdnfbaa.Nm
open Go

def nanBits : Nat := 9221120237041090561
def isNaN (a : Nat) : Bool := FloatKind.f64.format.order a a != some .eq
def canon (a : Nat) : Nat := if isNaN a = true then nanBits else a
def rankOf (c : Nat) : Nat := if 9223372036854775808 ≤ c then 18446744073709551615 - c else c + 9223372036854775808
def rank (a : Nat) : Nat := rankOf (canon a)
def less (a b : Nat) : Bool := decide (rank a < rank b)
def same (a b : Nat) : Bool := decide (canon a = canon b)

/-- a float's magnitude, in units of the least one; that of infinity is what stands behind the greatest -/
def mag (r : Nat) : Nat := if r < 4503599627370496 then r else (4503599627370496 + r % 4503599627370496) * 2 ^ (r / 4503599627370496 - 1)
def rung (a : Nat) : Nat := a % 9223372036854775808
def neg (a : Nat) : Bool := a / 9223372036854775808 % 2 == 1
def val (a : Nat) : Int := if neg a = true then -(mag (rung a) : Int) else (mag (rung a) : Int)

theorem mag_lt {r s : Nat} (h : r < s) : mag r < mag s := by
  unfold mag
  by_cases h1 : r < 4503599627370496
  · rw [if_pos h1]
    by_cases h2 : s < 4503599627370496
    · rw [if_pos h2]; exact h
    · rw [if_neg h2]
      have : 1 ≤ 2 ^ (s / 4503599627370496 - 1) := Nat.one_le_two_pow
      have := Nat.mul_le_mul_left (4503599627370496 + s % 4503599627370496) this
      omega
  · have h2 : ¬ s < 4503599627370496 := by omega
    rw [if_neg h1, if_neg h2]
    by_cases hq : r / 4503599627370496 = s / 4503599627370496
    · rw [hq]
      exact Nat.mul_lt_mul_of_pos_right (by omega) (Nat.two_pow_pos _)
    · have hq2 : r / 4503599627370496 < s / 4503599627370496 := by omega
      have e : 2 ^ (s / 4503599627370496 - 1) = 2 ^ (s / 4503599627370496 - 1 - (r / 4503599627370496 - 1) - 1) * 2 * 2 ^ (r / 4503599627370496 - 1) := by
        rw [← Nat.pow_succ, ← Nat.pow_add]; congr 1; omega
      rw [e, ← Nat.mul_assoc]
      refine Nat.mul_lt_mul_of_pos_right ?_ (Nat.two_pow_pos _)
      have : 1 ≤ 2 ^ (s / 4503599627370496 - 1 - (r / 4503599627370496 - 1) - 1) := Nat.one_le_two_pow
      have h3 := Nat.mul_le_mul_left (4503599627370496 + s % 4503599627370496) (Nat.mul_le_mul_right 2 this)
      omega
theorem mag_le {r s : Nat} (h : r ≤ s) : mag r ≤ mag s := by
  rcases Nat.lt_or_eq_of_le h with h | h
  · exact Nat.le_of_lt (mag_lt h)
  · rw [h]; exact Nat.le_refl _
theorem mag_zero : mag 0 = 0 := rfl
theorem mag_pos {r : Nat} (h : 0 < r) : 0 < mag r := mag_lt h

theorem read_eq (a : Nat) : FloatKind.f64.format.read a =
    if rung a < 4503599627370496 then .number (neg a) (rung a) (-1074)
    else if rung a < 9218868437227405312 then .number (neg a) (4503599627370496 + rung a % 4503599627370496) (-1074 + (rung a / 4503599627370496 - 1 : Nat))
    else if rung a = 9218868437227405312 then .infinity (neg a)
    else .nan (neg a) (rung a - 9218868437227405312) := rfl

/-- a number as it is read stands for its magnitude -/
theorem scaled (s : Bool) (m k : Nat) (i : Int) (hi : i = -1074 + (k : Int)) (b : Int) (hb : -1074 ≤ b) (hb2 : b ≤ i) :
    Ieee.signed s m (i - b).toNat * 2 ^ (b + 1074).toNat = if s = true then -((m * 2 ^ k : Nat) : Int) else ((m * 2 ^ k : Nat) : Int) := by
  have e : m <<< (i - b).toNat * 2 ^ (b + 1074).toNat = m * 2 ^ k := by
    rw [Nat.shiftLeft_eq, Nat.mul_assoc, ← Nat.pow_add]; congr 2; omega
  unfold Ieee.signed
  cases s
  · simp only [Bool.false_eq_true, if_false]
    rw [← e, Int.natCast_mul, Int.natCast_pow]; rfl
  · simp only [if_true]
    rw [← e, Int.natCast_mul, Int.natCast_pow, Int.neg_mul]; rfl

theorem compare_mul (x y c : Int) (hc : 0 < c) : compare (x * c) (y * c) = compare x y := by
  have h1 : x * c < y * c ↔ x < y := Int.mul_lt_mul_right hc
  have h2 : x * c = y * c ↔ x = y := ⟨fun h => Int.eq_of_mul_eq_mul_right (by omega) h, fun h => by rw [h]⟩
  unfold compare instOrdInt compareOfLessAndEq
  simp only [h1, h2]

theorem read_num (a : Nat) (h : rung a < 9218868437227405312) :
    ∃ m k : Nat, FloatKind.f64.format.read a = .number (neg a) m (-1074 + (k : Int)) ∧ m * 2 ^ k = mag (rung a) := by
  rw [read_eq]
  unfold mag
  by_cases h1 : rung a < 4503599627370496
  · rw [if_pos h1, if_pos h1]
    exact ⟨rung a, 0, rfl, by simp⟩
  · rw [if_neg h1, if_neg h1, if_pos h]
    exact ⟨_, _, rfl, rfl⟩
theorem read_inf (a : Nat) (h : rung a = 9218868437227405312) : FloatKind.f64.format.read a = .infinity (neg a) := by
  rw [read_eq, if_neg (by omega), if_neg (by omega), if_pos h]
theorem read_nan (a : Nat) (h : 9218868437227405312 < rung a) : ∃ t, FloatKind.f64.format.read a = .nan (neg a) t := by
  rw [read_eq, if_neg (by omega), if_neg (by omega), if_neg (by omega)]
  exact ⟨_, rfl⟩

theorem order_val (a b : Nat) (ha : rung a ≤ 9218868437227405312) (hb : rung b ≤ 9218868437227405312) :
    FloatKind.f64.format.order a b = some (compare (val a) (val b)) := by
  unfold Ieee.Format.order
  have hpos : 0 < mag 9218868437227405312 := mag_pos (by omega)
  rcases Nat.lt_or_eq_of_le ha with ha | ha
  · obtain ⟨m, k, em, hm⟩ := read_num a ha
    have la := mag_lt ha
    rcases Nat.lt_or_eq_of_le hb with hb | hb
    · obtain ⟨n, j, en, hn⟩ := read_num b hb
      rw [em, en]
      unfold Ieee.Datum.order val
      simp only [Option.some.injEq]
      rw [← compare_mul _ _ (2 ^ ((min (-1074 + (k : Int)) (-1074 + (j : Int))) + 1074).toNat) (Int.pow_pos (by omega)),
        scaled _ _ _ _ rfl _ (by omega) (by omega), scaled _ _ _ _ rfl _ (by omega) (by omega), hm, hn]
    · rw [em, read_inf b hb]
      unfold Ieee.Datum.order val
      rw [hb]
      simp only [Option.some.injEq]
      cases neg b <;> cases neg a <;> simp only [Bool.false_eq_true, if_false, if_true] <;> symm <;>
        first | (rw [Int.compare_eq_lt]; omega) | (rw [Int.compare_eq_gt]; omega)
  · rcases Nat.lt_or_eq_of_le hb with hb | hb
    · obtain ⟨n, j, en, hn⟩ := read_num b hb
      have lb := mag_lt hb
      rw [en, read_inf a ha]
      unfold Ieee.Datum.order val
      rw [ha]
      simp only [Option.some.injEq]
      cases neg b <;> cases neg a <;> simp only [Bool.false_eq_true, if_false, if_true] <;> symm <;>
        first | (rw [Int.compare_eq_lt]; omega) | (rw [Int.compare_eq_gt]; omega)
    · rw [read_inf a ha, read_inf b hb]
      unfold Ieee.Datum.order val
      rw [ha, hb]
      simp only [Option.some.injEq]
      cases neg b <;> cases neg a <;> simp only [Bool.false_eq_true, if_false, if_true] <;> symm <;>
        first | (refine (Int.compare_eq_lt.2 ?_).trans rfl; omega) | (refine (Int.compare_eq_gt.2 ?_).trans rfl; omega) | (refine (Int.compare_eq_eq.2 ?_).trans rfl; omega)
theorem order_nan_left (a b : Nat) (ha : 9218868437227405312 < rung a) : FloatKind.f64.format.order a b = none := by
  unfold Ieee.Format.order
  obtain ⟨t, e⟩ := read_nan a ha
  rw [e]
  cases FloatKind.f64.format.read b <;> rfl
theorem order_nan_right (a b : Nat) (ha : 9218868437227405312 < rung b) : FloatKind.f64.format.order a b = none := by
  unfold Ieee.Format.order
  obtain ⟨t, e⟩ := read_nan b ha
  rw [e]
  cases FloatKind.f64.format.read a <;> rfl

theorem isNaN_iff (a : Nat) : isNaN a = decide (9218868437227405312 < rung a) := by
  unfold isNaN
  by_cases h : 9218868437227405312 < rung a
  · rw [order_nan_left a a h]; simp [h]
  · rw [order_val a a (by omega) (by omega)]; simp [h]
theorem isNaN_false {a : Nat} (h : isNaN a = false) : rung a ≤ 9218868437227405312 := by
  rw [isNaN_iff] at h; simpa using h
theorem isNaN_true {a : Nat} (h : isNaN a = true) : 9218868437227405312 < rung a := by
  rw [isNaN_iff] at h; simpa using h
theorem canon_nan {a : Nat} (h : isNaN a = true) : canon a = nanBits := by simp [canon, h]
theorem canon_num {a : Nat} (h : isNaN a = false) : canon a = a := by simp [canon, h]
theorem canon_lt {a : Nat} (ha : a < 18446744073709551616) : canon a < 18446744073709551616 := by
  unfold canon nanBits; split <;> omega
theorem isNaN_canon (a : Nat) : isNaN (canon a) = isNaN a := by
  cases h : isNaN a
  · rw [canon_num h, h]
  · rw [canon_nan h]; rfl
theorem canon_canon (a : Nat) : canon (canon a) = canon a := by
  cases h : isNaN a
  · rw [canon_num h, canon_num h]
  · rw [canon_nan h]; rfl
theorem rank_nan {a : Nat} (h : isNaN a = true) : rank a = 18444492273895866369 := by
  unfold rank; rw [canon_nan h]; rfl
theorem rank_num {a : Nat} (h : isNaN a = false) : rank a = rankOf a := by
  unfold rank; rw [canon_num h]
theorem rank_canon (a : Nat) : rank (canon a) = rank a := by unfold rank; rw [canon_canon]

theorem rankOf_inj {a b : Nat} (ha : a < 18446744073709551616) (hb : b < 18446744073709551616) (h : rankOf a = rankOf b) : a = b := by
  unfold rankOf at h; split at h <;> split at h <;> omega
theorem rank_inj {a b : Nat} (ha : a < 18446744073709551616) (hb : b < 18446744073709551616) : rank a = rank b ↔ canon a = canon b :=
  ⟨fun h => rankOf_inj (canon_lt ha) (canon_lt hb) h, fun h => by unfold rank; rw [h]⟩
theorem rank_num_lt {a : Nat} (ha : a < 18446744073709551616) (h : isNaN a = false) : rank a < 18444492273895866369 := by
  have := isNaN_false h
  rw [rank_num h]; unfold rankOf rung at *; split <;> omega
theorem rank_le_nan {a b : Nat} (ha : a < 18446744073709551616) (h : isNaN b = true) : rank a ≤ rank b := by
  rw [rank_nan h]
  cases h1 : isNaN a
  · exact Nat.le_of_lt (rank_num_lt ha h1)
  · rw [rank_nan h1]; exact Nat.le_refl _

theorem neg_iff (a : Nat) (ha : a < 18446744073709551616) : neg a = decide (9223372036854775808 ≤ a) := by
  unfold neg
  by_cases h : 9223372036854775808 ≤ a
  · have : a / 9223372036854775808 = 1 := by omega
    rw [this]; simp [h]
  · have : a / 9223372036854775808 = 0 := by omega
    rw [this]; simp [h]
/-- the order of the bits is that of the numbers -/
theorem val_lt {a b : Nat} (ha : a < 18446744073709551616) (hb : b < 18446744073709551616) (na : isNaN a = false) (nb : isNaN b = false)
    (h : val a < val b) : rank a < rank b := by
  rw [rank_num na, rank_num nb]
  unfold val at h
  rw [neg_iff a ha, neg_iff b hb] at h
  unfold rankOf
  simp only [decide_eq_true_eq] at h
  have key : ∀ r s : Nat, mag r < mag s → r < s := fun r s hrs => by
    rcases Nat.lt_or_ge r s with h | h
    · exact h
    · have := mag_le h; omega
  split at h <;> split at h
  · have := key (rung b) (rung a) (by omega)
    unfold rung at this
    rw [if_pos ‹_›, if_pos ‹_›]; omega
  · rw [if_pos ‹_›, if_neg ‹_›]; omega
  · omega
  · have := key (rung a) (rung b) (by omega)
    unfold rung at this
    rw [if_neg ‹_›, if_neg ‹_›]; omega
theorem rank_lt {a b : Nat} (ha : a < 18446744073709551616) (hb : b < 18446744073709551616) (na : isNaN a = false) (nb : isNaN b = false)
    (h : rank a ≤ rank b) : val a ≤ val b := by
  rcases Int.lt_or_le (val b) (val a) with h1 | h1
  · have := val_lt hb ha nb na h1; omega
  · exact h1

/-- what '<' and '>' say of two floats -/
theorem order_lt {a b : Nat} (ha : a < 18446744073709551616) (hb : b < 18446744073709551616) (h : FloatKind.f64.format.order a b = some .lt) :
    isNaN a = false ∧ isNaN b = false ∧ rank a < rank b := by
  cases na : isNaN a
  · cases nb : isNaN b
    · rw [order_val a b (isNaN_false na) (isNaN_false nb)] at h
      simp only [Option.some.injEq, Int.compare_eq_lt] at h
      exact ⟨rfl, rfl, val_lt ha hb na nb h⟩
    · rw [order_nan_right a b (isNaN_true nb)] at h; cases h
  · rw [order_nan_left a b (isNaN_true na)] at h; cases h
theorem order_gt {a b : Nat} (ha : a < 18446744073709551616) (hb : b < 18446744073709551616) (h : FloatKind.f64.format.order a b = some .gt) :
    isNaN a = false ∧ isNaN b = false ∧ rank b < rank a := by
  cases na : isNaN a
  · cases nb : isNaN b
    · rw [order_val a b (isNaN_false na) (isNaN_false nb)] at h
      simp only [Option.some.injEq, Int.compare_eq_gt] at h
      exact ⟨rfl, rfl, val_lt hb ha nb na h⟩
    · rw [order_nan_right a b (isNaN_true nb)] at h; cases h
  · rw [order_nan_left a b (isNaN_true na)] at h; cases h

/-- the bits of the model's operations on words, at the sign -/
theorem and_sign (c : Nat) (hc : c < 18446744073709551616) : bits .and .u64 (c : Int) 9223372036854775808 = if 9223372036854775808 ≤ c then 9223372036854775808 else 0 := by
  have := u64_and_nat c 9223372036854775808 hc (by omega)
  rw [show (9223372036854775808 : Int) = ((9223372036854775808 : Nat) : Int) from rfl, this]
  have t : ∀ i, (9223372036854775808 : Nat).testBit i = decide (63 = i) := fun i => by
    rw [show (9223372036854775808 : Nat) = 2 ^ 63 from rfl, Nat.testBit_two_pow]
  by_cases h : 9223372036854775808 ≤ c
  · rw [if_pos h]
    congr 1
    refine Nat.eq_of_testBit_eq fun i => ?_
    rw [Nat.testBit_and, t]
    by_cases hi : 63 = i
    · subst hi
      have : c / 2 ^ 63 = 1 := by omega
      rw [Nat.testBit_eq_decide_div_mod_eq, this]; rfl
    · simp [hi]
  · rw [if_neg h]
    show (((c &&& 9223372036854775808 : Nat)) : Int) = ((0 : Nat) : Int)
    congr 1
    refine Nat.eq_of_testBit_eq fun i => ?_
    rw [Nat.testBit_and, t]
    by_cases hi : 63 = i
    · subst hi
      have : c / 2 ^ 63 = 0 := by omega
      rw [Nat.testBit_eq_decide_div_mod_eq, this]; rfl
    · simp [hi]
theorem xor_all (c : Nat) (hc : c < 18446744073709551616) : bits .xor .u64 IntKind.u64.max (c : Int) = ((18446744073709551615 - c : Nat) : Int) := by
  have := bits_xor_u64_nat 18446744073709551615 c (by omega) hc
  rw [show IntKind.u64.max = ((18446744073709551615 : Nat) : Int) from rfl, this]
  congr 1
  have h2 : (18446744073709551615 ^^^ c) = (BitVec.allOnes 64 ^^^ BitVec.ofNat 64 c).toNat := by
    rw [BitVec.toNat_xor, BitVec.toNat_allOnes, BitVec.toNat_ofNat, Nat.mod_eq_of_lt hc]
  rw [h2, BitVec.allOnes_xor, BitVec.toNat_not, BitVec.toNat_ofNat, Nat.mod_eq_of_lt hc]
theorem or_sign (c : Nat) (hc : c < 9223372036854775808) : bits .or .u64 (c : Int) 9223372036854775808 = ((c + 9223372036854775808 : Nat) : Int) := by
  have := u64_or_nat c 9223372036854775808 (by omega) (by omega)
  rw [show (9223372036854775808 : Int) = ((9223372036854775808 : Nat) : Int) from rfl, this]
  congr 1
  have h2 : 9223372036854775808 * 1 + c = 9223372036854775808 * 1 ||| c := Nat.two_pow_add_eq_or_of_lt (i := 63) (b := c) hc 1
  rw [Nat.or_comm, ← Nat.mul_one 9223372036854775808, ← h2]; omega
theorem rank_hi (c : Nat) (hc : c < 18446744073709551616) (h : (bits .and .u64 (c : Int) 9223372036854775808 != 0) = true) :
    bits .xor .u64 IntKind.u64.max (c : Int) = ((rankOf c : Nat) : Int) := by
  rw [and_sign c hc] at h
  rw [xor_all c hc]
  unfold rankOf
  split at h
  · rw [if_pos ‹_›]
  · simp at h
theorem rank_lo (c : Nat) (hc : c < 18446744073709551616) (h : (bits .and .u64 (c : Int) 9223372036854775808 != 0) = false) :
    bits .or .u64 (c : Int) 9223372036854775808 = ((rankOf c : Nat) : Int) := by
  rw [and_sign c hc] at h
  unfold rankOf
  split at h
  · simp at h
  · rw [if_neg ‹_›, or_sign c (by omega)]

theorem less_trans {a b c : Nat} (h : less a b = true) (h2 : less b c = true) : less a c = true := by
  unfold less at *; rw [decide_eq_true_eq] at *; omega
theorem same_trans {a b c : Nat} (h : same a b = true) (h2 : same b c = true) : same a c = true := by
  unfold same at *; rw [decide_eq_true_eq] at *; rw [h, h2]
theorem same_refl (a : Nat) : same a a = true := by unfold same; simp
theorem same_comm (a b : Nat) : same a b = same b a := by unfold same; rw [decide_eq_decide]; exact ⟨Eq.symm, Eq.symm⟩
/-- two floats stand in one of three ways -/
theorem three (a b : Nat) (ha : a < 18446744073709551616) (hb : b < 18446744073709551616) :
    (less a b = true ∧ less b a = false ∧ same a b = false ∧ isNaN a = false ∧ (FloatKind.f64.format.order a b == some .gt) = false) ∨
    (less a b = false ∧ less b a = true ∧ same a b = false ∧ (FloatKind.f64.format.order a b == some .lt) = false) ∨
    (less a b = false ∧ less b a = false ∧ same a b = true ∧ (FloatKind.f64.format.order a b == some .lt) = false) := by
  have hs := rank_inj ha hb
  have hlt : (FloatKind.f64.format.order a b == some .lt) = true → rank a < rank b := fun h => (order_lt ha hb (beq_iff_eq.1 h)).2.2
  have hgt : (FloatKind.f64.format.order a b == some .gt) = true → rank b < rank a := fun h => (order_gt ha hb (beq_iff_eq.1 h)).2.2
  have hn : isNaN a = true → rank b ≤ rank a := fun h => rank_le_nan hb h
  unfold less same
  rcases Nat.lt_trichotomy (rank a) (rank b) with h | h | h
  · refine .inl ⟨by simpa using h, by simp; omega, by simp; intro e; have := hs.2 e; omega, ?_, ?_⟩
    · cases e : isNaN a
      · rfl
      · have := hn e; omega
    · cases e : (FloatKind.f64.format.order a b == some .gt)
      · rfl
      · have := hgt e; omega
  · refine .inr (.inr ⟨by simp; omega, by simp; omega, by simpa using hs.1 h, ?_⟩)
    cases e : (FloatKind.f64.format.order a b == some .lt)
    · rfl
    · have := hlt e; omega
  · refine .inr (.inl ⟨by simp; omega, by simpa using h, by simp; intro e; have := hs.2 e; omega, ?_⟩)
    cases e : (FloatKind.f64.format.order a b == some .lt)
    · rfl
    · have := hlt e; omega
end Go.Proofs.Ytaifjkilmdnfbaa.Nm
end
section
/- Walks of a few of layer 1's functions. -/
namespace Go.Proofs.Ytaifjkilmdnfbaa.Nm
open Go Go.RowKit
theorem run_bits (a : Nat) (w : World) : (callFunc 85 #[.float .f64 a]).run Try.prog w = .ok (.value (.int .u64 a)) w := by
  rw [run_callFunc_extern (fn := Try.f85) (e := Extern.MathFloatBits.float64bits) Try.func85 (by kernel_rfl) (by kernel_rfl) (by kernel_rfl) (by kernel_rfl)]
  rfl
theorem run_frombits (n : Int) (w : World) : (callFunc 93 #[.int .u64 n]).run Try.prog w = .ok (.value (.float .f64 n.toNat)) w := by
  rw [run_callFunc_extern (fn := Try.f93) (e := Extern.MathFloatBits.float64frombits) Try.func93 (by kernel_rfl) (by kernel_rfl) (by kernel_rfl) (by kernel_rfl)]
  rfl
attribute [local go_sem] run_bits run_frombits
theorem toList_data (s : ByteArray) : s.toList = s.data.toList := ByteArray.toList_eq s
theorem ret_int {k : IntKind} {a b : Int} (h : a = b) : Ending.returned (.int k a) = .returned (.int k b) := by rw [h]
theorem ret_bool {a b : Bool} (h : a = b) : Ending.returned (.bool a) = .returned (.bool b) := by rw [h]
theorem ret_float {a b : Nat} (h : a = b) : Ending.returned (.float .f64 a) = .returned (.float .f64 b) := by rw [h]

set_option maxHeartbeats 400000 in
theorem IsNaN_any (a : Nat) (w : World) :
    Calls Try.prog 90 #[.float .f64 a] w fun e w' => e = .returned (.bool (isNaN a)) ∧ w = w' := by
  go_enter Try.func90, Try.ntmps90
  go_wp2
  go_ret
  exact ⟨rfl, rfl⟩

set_option maxHeartbeats 400000 in
theorem nan_any (w : World) :
    Calls Try.prog 91 #[] w fun e w' => e = .returned (.float .f64 nanBits) ∧ w = w' := by
  go_enter Try.func91, Try.ntmps91
  go_wp2
  go_ret
  exact ⟨rfl, rfl⟩

set_option maxHeartbeats 400000 in
theorem refNaN_any (w : World) :
    Calls Try.prog 89 #[] w fun e w' => e = .returned (.float .f64 nanBits) ∧ w = w' := by
  go_enter Try.func89, Try.ntmps89
  go_wp2
  go_ret
  exact ⟨rfl, rfl⟩

set_option maxHeartbeats 400000 in
theorem Canon_any (a : Nat) (w : World) :
    Calls Try.prog 86 #[.float .f64 a] w fun e w' => e = .returned (.float .f64 (canon a)) ∧ w = w' := by
  cases h : isNaN a
  all_goals
    have h2 : (FloatKind.f64.format.order a a != some .eq) = _ := h
    go_enter Try.func86, Try.ntmps86
    go_wp2_with (first | (go_at_call 90; refine (IsNaN_any _ _).mono ?_; rintro e w' ⟨rfl, rfl⟩) | (go_at_call 91; refine (nan_any _).mono ?_; rintro e w' ⟨rfl, rfl⟩))
    go_ret
    exact ⟨by simp [canon, h], rfl⟩

set_option maxHeartbeats 400000 in
theorem Same_any (a b : Nat) (w : World) :
    Calls Try.prog 81 #[.float .f64 a, .float .f64 b] w fun e w' => e = .returned (.bool (same a b)) ∧ w = w' := by
  go_enter Try.func81, Try.ntmps81
  go_wp2_with (first | (go_at_call 86; refine (Canon_any _ _).mono ?_; rintro e w' ⟨rfl, rfl⟩))
  go_ret
  exact ⟨ret_bool (by unfold same; rw [Bool.eq_iff_iff]; simp; omega), rfl⟩
end Go.Proofs.Ytaifjkilmdnfbaa.Nm
end
section
/- Plain mathematics of values: right, the same. No program. -/
namespace Go.Proofs.Ytaifjkilmdnfbaa.Vl
open Go Go.RowKit Go.Proofs.Ytaifjkilmdnfbaa.Nm
structure V where
  kind : Int
  num : Nat
  text : ByteArray
@[reducible] def V.val (v : V) : Value := .agg #[.int .i64 v.kind, .float .f64 v.num, .string v.text]
@[reducible] def V.zero : V := ⟨0, 0, (⟨#[]⟩ : ByteArray)⟩
/-- what is known of any value -/
structure V.In (v : V) : Prop where
  lo : -9223372036854775808 ≤ v.kind
  hi : v.kind ≤ 9223372036854775807
  num : v.num < 18446744073709551616
  text : v.text.size ≤ 2000
def V.check (v : V) : Int :=
  if v.kind < 0 ∨ 2 < v.kind then 15
  else if v.kind = 2 ∧ 32 < v.text.size then 2
  else if v.kind ≠ 2 ∧ v.text.size ≠ 0 ∨ v.kind ≠ 1 ∧ v.num ≠ 0 then 8
  else if canon v.num ≠ v.num then 8 else 0
def V.same (a b : V) : Bool := decide (a.kind = b.kind) && Nm.same a.num b.num && decide (a.text = b.text)
theorem canon_zero : canon 0 = 0 := by kernel_rfl
theorem zero_In : V.zero.In := ⟨by decide, by decide, by decide, by decide⟩
theorem V.ext {a b : V} (h1 : a.kind = b.kind) (h2 : a.num = b.num) (h3 : a.text = b.text) : a = b := by cases a; cases b; simp_all
theorem check_zero {v : V} (h : v.check = 0) : (v.kind = 0 ∨ v.kind = 1 ∨ v.kind = 2) ∧ (v.kind = 2 → v.text.size ≤ 32) ∧ (v.kind ≠ 2 → v.text.size = 0) ∧ (v.kind ≠ 1 → v.num = 0) ∧ canon v.num = v.num := by
  unfold V.check at h
  split at h
  · cases h
  · split at h
    · cases h
    · split at h
      · cases h
      · split at h
        · cases h
        · refine ⟨by omega, by omega, by omega, by omega, Decidable.not_not.1 (by assumption)⟩
theorem empty_of {b : ByteArray} (h : b.size = 0) : b = (⟨#[]⟩ : ByteArray) := by
  cases b with | mk d => 
  have : d = #[] := Array.eq_empty_of_size_eq_zero h
  subst this; rfl
end Go.Proofs.Ytaifjkilmdnfbaa.Vl
end
section
/- Plain mathematics of commands. No program. -/
namespace Go.Proofs.Ytaifjkilmdnfbaa.Kv
open Go Go.RowKit Vl Nm
structure Pr where
  key : ByteArray
  val : V
structure Cm where
  kind : Int
  key : ByteArray
  old : V
  val : V
def Pr.zero : Pr := ⟨⟨#[]⟩, V.zero⟩
instance : Inhabited Pr := ⟨Pr.zero⟩
def Cm.vals (c : Cm) : Bool :=
  decide (c.old.check = 0) && decide (c.val.check = 0) &&
  (if c.kind = 2 then decide (c.old.kind = 0) && decide (c.val.kind ≠ 0) else if c.kind = 4 then true
   else if c.kind = 5 ∨ c.kind = 6 then decide (c.old.kind = 0) && decide (c.val.kind = 1) else decide (c.old.kind = 0) && decide (c.val.kind = 0))
def Cm.right (c : Cm) : Int := if c.kind < 1 ∨ 6 < c.kind then 15 else if 8 < c.key.size then 2 else if c.key.size = 0 ∨ c.vals = false then 8 else 0
theorem right_zero {c : Cm} (h : c.right = 0) : 1 ≤ c.kind ∧ c.kind ≤ 6 ∧ c.key.size ≠ 0 ∧ c.key.size ≤ 8 ∧ c.vals = true := by
  unfold Cm.right at h
  split at h
  · cases h
  · split at h
    · cases h
    · split at h
      · cases h
      · rename_i h1 h2 h3
        refine ⟨by omega, by omega, fun e => h3 (.inl e), by omega, ?_⟩
        cases hv : c.vals
        · exact absurd (.inr hv) h3
        · rfl
theorem vals_true {c : Cm} (h : c.vals = true) : c.old.check = 0 ∧ c.val.check = 0 ∧ (c.kind = 5 ∨ c.kind = 6 → c.val.kind = 1) ∧ (c.kind = 2 → c.val.kind ≠ 0) ∧ (c.kind ≠ 4 → c.old.kind = 0) ∧ (c.kind ≠ 2 → c.kind ≠ 4 → c.kind ≠ 5 → c.kind ≠ 6 → c.val.kind = 0) := by
  unfold Cm.vals at h
  rw [Bool.and_eq_true, Bool.and_eq_true, decide_eq_true_eq, decide_eq_true_eq] at h
  obtain ⟨⟨h1, h2⟩, h3⟩ := h
  refine ⟨h1, h2, ?_⟩
  split at h3
  · rename_i e
    rw [Bool.and_eq_true, decide_eq_true_eq, decide_eq_true_eq] at h3
    exact ⟨by omega, fun _ => h3.2, fun _ => h3.1, by omega⟩
  · split at h3
    · exact ⟨by omega, by omega, by omega, by omega⟩
    · split at h3
      · rw [Bool.and_eq_true, decide_eq_true_eq, decide_eq_true_eq] at h3
        exact ⟨fun _ => h3.2, by omega, fun _ => h3.1, by omega⟩
      · rw [Bool.and_eq_true, decide_eq_true_eq, decide_eq_true_eq] at h3
        exact ⟨by omega, by omega, fun _ => h3.1, fun _ _ _ _ => h3.2⟩
theorem zero_check : V.zero.check = 0 := by kernel_rfl
theorem zero_fit : V.zero.num < 18446744073709551616 := by decide
/-- a right value below 2^64 -/
def V.Fit (v : V) : Prop := v.num < 18446744073709551616
end Go.Proofs.Ytaifjkilmdnfbaa.Kv
end
section
/- Plain mathematics of calls. No program. -/
namespace Go.Proofs.Ytaifjkilmdnfbaa.Ss
open Go Go.RowKit Vl Kv
structure Cl where
  client : Int
  seq : Int
  cmd : Cm
def Cl.zero : Cl := ⟨0, 0, ⟨0, ⟨#[]⟩, V.zero, V.zero⟩⟩
instance : Inhabited Cl := ⟨Cl.zero⟩
def mayBe (c s : Int) : Bool := decide (1 ≤ c) && decide (c ≤ 4) && decide (1 ≤ s) && decide (s ≤ 1099511627776)
theorem mayBe_iff {c s : Int} : mayBe c s = true ↔ 1 ≤ c ∧ c ≤ 4 ∧ 1 ≤ s ∧ s ≤ 1099511627776 := by
  unfold mayBe; simp only [Bool.and_eq_true, decide_eq_true_eq, and_assoc]
end Go.Proofs.Ytaifjkilmdnfbaa.Ss
end
section
/- Plain mathematics of layer 8: numbers as bits of nodes, configurations, steps. No program. -/
namespace Go.Proofs.Ytaifjkilmdnfbaa.Cn
open Go Go.RowKit

/-- bit i of a whole number -/
def tb (x : Int) (i : Nat) : Bool := (BitVec.ofInt 64 x).getLsbD i
theorem wrap_i64 (n : Int) : IntKind.i64.wrap n = (n + 9223372036854775808) % 18446744073709551616 - 9223372036854775808 := by
  have e : IntKind.i64.wrap n = if n % 18446744073709551616 ≥ 9223372036854775808 then n % 18446744073709551616 - 18446744073709551616 else n % 18446744073709551616 := by
    simp [IntKind.wrap, IntKind.bits, IntKind.signed]
  rw [e]
  split <;> omega
theorem ofInt_wrap (r : BitVec 64) : BitVec.ofInt 64 (IntKind.i64.wrap (r.toNat : Int)) = r := by
  apply BitVec.eq_of_toNat_eq
  have := r.isLt
  rw [BitVec.toNat_ofInt, wrap_i64]
  omega
theorem tb_and (x y : Int) (i : Nat) : tb (bits .and .i64 x y) i = (tb x i && tb y i) := by
  unfold tb bits
  show (BitVec.ofInt 64 (IntKind.i64.wrap ((BitVec.ofInt 64 x &&& BitVec.ofInt 64 y).toNat : Int))).getLsbD i = _
  rw [ofInt_wrap, BitVec.getLsbD_and]
theorem tb_or (x y : Int) (i : Nat) : tb (bits .or .i64 x y) i = (tb x i || tb y i) := by
  unfold tb bits
  show (BitVec.ofInt 64 (IntKind.i64.wrap ((BitVec.ofInt 64 x ||| BitVec.ofInt 64 y).toNat : Int))).getLsbD i = _
  rw [ofInt_wrap, BitVec.getLsbD_or]
theorem tb_xor (x y : Int) (i : Nat) : tb (bits .xor .i64 x y) i = (tb x i ^^ tb y i) := by
  unfold tb bits
  show (BitVec.ofInt 64 (IntKind.i64.wrap ((BitVec.ofInt 64 x ^^^ BitVec.ofInt 64 y).toNat : Int))).getLsbD i = _
  rw [ofInt_wrap, BitVec.getLsbD_xor]
theorem tb_andNot (x y : Int) (i : Nat) (hi : i < 64) : tb (bits .andNot .i64 x y) i = (tb x i && !tb y i) := by
  unfold tb bits
  show (BitVec.ofInt 64 (IntKind.i64.wrap ((BitVec.ofInt 64 x &&& ~~~ BitVec.ofInt 64 y).toNat : Int))).getLsbD i = _
  rw [ofInt_wrap, BitVec.getLsbD_and, BitVec.getLsbD_not]
  simp [hi]
/-- the number whose one bit is i -/
def pw (i : Nat) : Int := 2 ^ i
theorem tb_pw : ∀ i j : Fin 7, tb (pw i.val) j.val = decide (i = j) := by decide +kernel
theorem tb_m1 : ∀ i : Fin 7, tb (-1) i.val = true := by decide +kernel
theorem tb_0 (i : Nat) : tb 0 i = false := by unfold tb; simp
theorem tb_127 : ∀ i : Fin 7, tb 127 i.val = true := by decide +kernel

/-! ### numbers that are bits of nodes alone -/
def In7 (x : Int) : Prop := 0 ≤ x ∧ x ≤ 127
def sum7 (b : Nat → Bool) : Int := (b 0).toNat + 2 * (b 1).toNat + 4 * (b 2).toNat + 8 * (b 3).toNat + 16 * (b 4).toNat + 32 * (b 5).toNat + 64 * (b 6).toNat
theorem val7_all : ∀ n : Fin 128, ((n.val : Nat) : Int) = sum7 (tb ((n.val : Nat) : Int)) := by decide +kernel
theorem In7.fin {x : Int} (h : In7 x) : ∃ n : Fin 128, x = ((n.val : Nat) : Int) := ⟨⟨x.toNat, by have := h.1; have := h.2; omega⟩, by have := h.1; show x = (x.toNat : Int); omega⟩
theorem val7 {x : Int} (h : In7 x) : x = sum7 (tb x) := by
  obtain ⟨n, rfl⟩ := h.fin
  exact val7_all n
theorem ext7 {x y : Int} (hx : In7 x) (hy : In7 y) (h : ∀ i, i < 7 → tb x i = tb y i) : x = y := by
  rw [val7 hx, val7 hy]
  unfold sum7
  rw [h 0 (by omega), h 1 (by omega), h 2 (by omega), h 3 (by omega), h 4 (by omega), h 5 (by omega), h 6 (by omega)]
theorem In7.pw {i : Nat} (h : i < 7) : In7 (pw i) := by
  have : ∀ i : Fin 7, 0 ≤ Cn.pw i.val ∧ Cn.pw i.val ≤ 127 := by decide +kernel
  exact this ⟨i, h⟩
theorem and_nat (a b : Nat) (ha : a < 128) (hb : b < 128) : bits .and .i64 (a : Int) (b : Int) = ((a &&& b : Nat) : Int) := by
  have h1 : a &&& b ≤ a := Nat.and_le_left
  unfold bits
  show IntKind.i64.wrap ((BitVec.ofInt 64 a &&& BitVec.ofInt 64 b).toNat : Int) = _
  rw [BitVec.toNat_and, BitVec.toNat_ofInt, BitVec.toNat_ofInt, show ((a : Int) % (2 ^ 64 : Nat)).toNat = a by omega, show ((b : Int) % (2 ^ 64 : Nat)).toNat = b by omega, wrap_i64]
  omega
theorem or_nat (a b : Nat) (ha : a < 128) (hb : b < 128) : bits .or .i64 (a : Int) (b : Int) = ((a ||| b : Nat) : Int) := by
  have h1 : a ||| b < 2 ^ 7 := Nat.or_lt_two_pow (by omega) (by omega)
  unfold bits
  show IntKind.i64.wrap ((BitVec.ofInt 64 a ||| BitVec.ofInt 64 b).toNat : Int) = _
  rw [BitVec.toNat_or, BitVec.toNat_ofInt, BitVec.toNat_ofInt, show ((a : Int) % (2 ^ 64 : Nat)).toNat = a by omega, show ((b : Int) % (2 ^ 64 : Nat)).toNat = b by omega, wrap_i64]
  omega
theorem In7.and {x y : Int} (hx : In7 x) (hy : In7 y) : In7 (bits .and .i64 x y) := by
  obtain ⟨a, rfl⟩ := hx.fin
  obtain ⟨b, rfl⟩ := hy.fin
  rw [and_nat _ _ a.isLt b.isLt]
  have h1 : a.val &&& b.val ≤ a.val := Nat.and_le_left
  have := a.isLt
  exact ⟨by omega, by omega⟩
theorem In7.or {x y : Int} (hx : In7 x) (hy : In7 y) : In7 (bits .or .i64 x y) := by
  obtain ⟨a, rfl⟩ := hx.fin
  obtain ⟨b, rfl⟩ := hy.fin
  rw [or_nat _ _ a.isLt b.isLt]
  have h1 : a.val ||| b.val < 2 ^ 7 := Nat.or_lt_two_pow (by have := a.isLt; omega) (by have := b.isLt; omega)
  exact ⟨by omega, by omega⟩
theorem In7.andNot_pw {x : Int} (hx : In7 x) {i : Nat} (hi : i < 7) : In7 (bits .andNot .i64 x (Cn.pw i)) := by
  have : ∀ n : Fin 128, ∀ i : Fin 7, 0 ≤ bits .andNot .i64 ((n.val : Nat) : Int) (Cn.pw i.val) ∧ bits .andNot .i64 ((n.val : Nat) : Int) (Cn.pw i.val) ≤ 127 := by decide +kernel
  obtain ⟨a, rfl⟩ := hx.fin
  exact this a ⟨i, hi⟩
theorem In7.zero : In7 0 := ⟨by omega, by omega⟩
theorem and_zero {x y : Int} (hx : In7 x) (hy : In7 y) : bits .and .i64 x y = 0 ↔ ∀ i, i < 7 → (tb x i && tb y i) = false := by
  constructor
  · intro h i _
    rw [← tb_and, h, tb_0]
  · intro h
    exact ext7 (hx.and hy) In7.zero (fun i hi => by rw [tb_and, h i hi, tb_0])
theorem ne_zero {x : Int} (hx : In7 x) : x ≠ 0 ↔ ∃ i, i < 7 ∧ tb x i = true := by
  constructor
  · intro h
    by_cases hn : ∃ i, i < 7 ∧ tb x i = true
    · exact hn
    · exact absurd (ext7 hx In7.zero (fun i hi => by
        rw [tb_0]
        cases hb : tb x i
        · rfl
        · exact absurd ⟨i, hi, hb⟩ hn)) h
  · rintro ⟨i, _, hb⟩ rfl
    rw [tb_0] at hb
    cases hb
/-- taken away, added: the reference's sums -/
theorem sub_pw {x : Int} (hx : In7 x) {i : Nat} (hi : i < 7) (h : tb x i = true) : x - pw i = bits .andNot .i64 x (pw i) := by
  have : ∀ n : Fin 128, ∀ i : Fin 7, tb ((n.val : Nat) : Int) i.val = true → ((n.val : Nat) : Int) - pw i.val = bits .andNot .i64 ((n.val : Nat) : Int) (pw i.val) := by decide +kernel
  obtain ⟨a, rfl⟩ := hx.fin
  exact this a ⟨i, hi⟩ h
theorem add_pw {x : Int} (hx : In7 x) {i : Nat} (hi : i < 7) (h : tb x i = false) : x + pw i = bits .or .i64 (bits .andNot .i64 x (pw i)) (pw i) := by
  have : ∀ n : Fin 128, ∀ i : Fin 7, tb ((n.val : Nat) : Int) i.val = false → ((n.val : Nat) : Int) + pw i.val = bits .or .i64 (bits .andNot .i64 ((n.val : Nat) : Int) (pw i.val)) (pw i.val) := by decide +kernel
  obtain ⟨a, rfl⟩ := hx.fin
  exact this a ⟨i, hi⟩ h
theorem clear_pw {x : Int} (hx : In7 x) {i : Nat} (hi : i < 7) (h : tb x i = false) : bits .andNot .i64 x (pw i) = x := by
  have : ∀ n : Fin 128, ∀ i : Fin 7, tb ((n.val : Nat) : Int) i.val = false → bits .andNot .i64 ((n.val : Nat) : Int) (pw i.val) = ((n.val : Nat) : Int) := by decide +kernel
  obtain ⟨a, rfl⟩ := hx.fin
  exact this a ⟨i, hi⟩ h

/-! ### how a program asks for a bit -/
theorem has_pw (x : Int) {i : Nat} (hi : i < 7) : (bits .and .i64 x (pw i) != 0) = tb x i := by
  have h1 : ∀ i : Fin 7, BitVec.ofInt 64 (pw i.val) = BitVec.twoPow 64 i.val := by decide +kernel
  have h2 : ∀ i : Fin 7, (IntKind.i64.wrap ((BitVec.twoPow 64 i.val).toNat : Int) != 0) = true := by decide +kernel
  unfold bits tb
  show (IntKind.i64.wrap ((BitVec.ofInt 64 x &&& BitVec.ofInt 64 (pw i)).toNat : Int) != 0) = _
  rw [h1 ⟨i, hi⟩, BitVec.and_twoPow]
  cases hb : (BitVec.ofInt 64 x).getLsbD i
  · rw [if_neg (by simp)]; rfl
  · rw [if_pos rfl]; exact h2 ⟨i, hi⟩

/-! ### how many -/
def cnt (x : Int) : Nat := (tb x 0).toNat + (tb x 1).toNat + (tb x 2).toNat + (tb x 3).toNat + (tb x 4).toNat + (tb x 5).toNat + (tb x 6).toNat
def cntTo (x : Int) : Nat → Nat
  | 0 => 0
  | k + 1 => cntTo x k + (tb x k).toNat
theorem cntTo_7 (x : Int) : cntTo x 7 = cnt x := by simp only [cntTo, cnt]; omega
theorem cntTo_le (x : Int) (k : Nat) : cntTo x k ≤ k := by
  induction k with
  | zero => exact Nat.le_refl _
  | succ k ih => have := Bool.toNat_le (tb x k); simp only [cntTo]; omega

theorem cnt_le (x : Int) : cnt x ≤ 7 := by rw [← cntTo_7]; exact cntTo_le x 7
/-! ### configurations -/
structure C where
  f : Int
  w : Int
  l : Int
  x : Int
deriving DecidableEq
def C.zero : C := ⟨0, 0, 0, 0⟩
@[reducible] def C.val (c : C) : Value := .agg #[.int .i64 c.f, .int .i64 c.w, .int .i64 c.l, .int .i64 c.x]
def C.vot (c : C) : Int := bits .or .i64 c.f c.w
def C.all (c : C) : Int := bits .or .i64 (bits .or .i64 (bits .or .i64 c.f c.w) c.l) c.x
def quo (c : C) (b : Int) : Bool := decide (cnt c.vot < 2 * cnt (bits .and .i64 c.vot b))
/-- the kind of node i: 0 none, 1 full, 2 wit, 3 learn, 4 learnwit -/
def C.kd (c : C) (i : Nat) : Nat := if tb c.f i then 1 else if tb c.w i then 2 else if tb c.l i then 3 else if tb c.x i then 4 else 0
def C.kind (c : C) (i : Int) : Nat := if 0 ≤ i ∧ i ≤ 6 then c.kd i.toNat else 0
def kname (k : Nat) : ByteArray := if k = 1 then ⟨#[102, 117, 108, 108]⟩ else if k = 2 then ⟨#[119, 105, 116]⟩ else if k = 3 then ⟨#[108, 101, 97, 114, 110]⟩ else if k = 4 then ⟨#[108, 101, 97, 114, 110, 119, 105, 116]⟩ else ⟨#[]⟩
/-- no two of four -/
def apart (a b c d : Bool) : Bool := !(a && b) && !((a || b) && c) && !((a || b || c) && d)
def C.apt (c : C) (i : Nat) : Bool := apart (tb c.f i) (tb c.w i) (tb c.l i) (tb c.x i)
structure C.Ok (c : C) : Prop where
  f : In7 c.f
  w : In7 c.w
  l : In7 c.l
  x : In7 c.x
  ne : c.f ≠ 0
  apt : ∀ i, i < 7 → c.apt i = true
end Go.Proofs.Ytaifjkilmdnfbaa.Cn
end
