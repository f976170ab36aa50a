import Derived.Test.YtaengjgmchpabaaGreatRows
import Derived.WalkLawsBesides
import Derived.WalkKit
import Derived.WalkSpells
import Derived.Lib.Hide
import Derived.Deep.Draws
import Derived.Sort.Walk0
import Derived.Below
section
/- Plain mathematics for layer 1: the bits of a float, the one NaN, the order's rank. No program. -/
namespace Go.Proofs.YtaengjgmchpabaaGreat.Nm
open Go

def nanBits : Nat := 9221120237041090561
def isNaN (a : Nat) : Bool := FloatKind.f64.format.order a a != some .eq
def canon (a : Nat) : Nat := if isNaN a = true then nanBits else a
def rankOf (c : Nat) : Nat := if 9223372036854775808 ≤ c then 18446744073709551615 - c else c + 9223372036854775808
def rank (a : Nat) : Nat := rankOf (canon a)
def less (a b : Nat) : Bool := decide (rank a < rank b)
def same (a b : Nat) : Bool := decide (canon a = canon b)

/-- a float's magnitude, in units of the least one; that of infinity is what stands behind the greatest -/
def mag (r : Nat) : Nat := if r < 4503599627370496 then r else (4503599627370496 + r % 4503599627370496) * 2 ^ (r / 4503599627370496 - 1)
def rung (a : Nat) : Nat := a % 9223372036854775808
def neg (a : Nat) : Bool := a / 9223372036854775808 % 2 == 1
def val (a : Nat) : Int := if neg a = true then -(mag (rung a) : Int) else (mag (rung a) : Int)

theorem mag_lt {r s : Nat} (h : r < s) : mag r < mag s := by
  unfold mag
  by_cases h1 : r < 4503599627370496
  · rw [if_pos h1]
    by_cases h2 : s < 4503599627370496
    · rw [if_pos h2]; exact h
    · rw [if_neg h2]
      have : 1 ≤ 2 ^ (s / 4503599627370496 - 1) := Nat.one_le_two_pow
      have := Nat.mul_le_mul_left (4503599627370496 + s % 4503599627370496) this
      omega
  · have h2 : ¬ s < 4503599627370496 := by omega
    rw [if_neg h1, if_neg h2]
    by_cases hq : r / 4503599627370496 = s / 4503599627370496
    · rw [hq]
      exact Nat.mul_lt_mul_of_pos_right (by omega) (Nat.two_pow_pos _)
    · have hq2 : r / 4503599627370496 < s / 4503599627370496 := by omega
      have e : 2 ^ (s / 4503599627370496 - 1) = 2 ^ (s / 4503599627370496 - 1 - (r / 4503599627370496 - 1) - 1) * 2 * 2 ^ (r / 4503599627370496 - 1) := by
        rw [← Nat.pow_succ, ← Nat.pow_add]; congr 1; omega
      rw [e, ← Nat.mul_assoc]
      refine Nat.mul_lt_mul_of_pos_right ?_ (Nat.two_pow_pos _)
      have : 1 ≤ 2 ^ (s / 4503599627370496 - 1 - (r / 4503599627370496 - 1) - 1) := Nat.one_le_two_pow
      have h3 := Nat.mul_le_mul_left (4503599627370496 + s % 4503599627370496) (Nat.mul_le_mul_right 2 this)
      omega
theorem mag_le {r s : Nat} (h : r ≤ s) : mag r ≤ mag s := by
  rcases Nat.lt_or_eq_of_le h with h | h
  · exact Nat.le_of_lt (mag_lt h)
  · rw [h]; exact Nat.le_refl _
theorem mag_zero : mag 0 = 0 := rfl
theorem mag_pos {r : Nat} (h : 0 < r) : 0 < mag r := mag_lt h

theorem read_eq (a : Nat) : FloatKind.f64.format.read a =
    if rung a < 4503599627370496 then .number (neg a) (rung a) (-1074)
    else if rung a < 9218868437227405312 then .number (neg a) (4503599627370496 + rung a % 4503599627370496) (-1074 + (rung a / 4503599627370496 - 1 : Nat))
    else if rung a = 9218868437227405312 then .infinity (neg a)
    else .nan (neg a) (rung a - 9218868437227405312) := rfl

/-- a number as it is read stands for its magnitude -/
theorem scaled (s : Bool) (m k : Nat) (i : Int) (hi : i = -1074 + (k : Int)) (b : Int) (hb : -1074 ≤ b) (hb2 : b ≤ i) :
    Ieee.signed s m (i - b).toNat * 2 ^ (b + 1074).toNat = if s = true then -((m * 2 ^ k : Nat) : Int) else ((m * 2 ^ k : Nat) : Int) := by
  have e : m <<< (i - b).toNat * 2 ^ (b + 1074).toNat = m * 2 ^ k := by
    rw [Nat.shiftLeft_eq, Nat.mul_assoc, ← Nat.pow_add]; congr 2; omega
  unfold Ieee.signed
  cases s
  · simp only [Bool.false_eq_true, if_false]
    rw [← e, Int.natCast_mul, Int.natCast_pow]; rfl
  · simp only [if_true]
    rw [← e, Int.natCast_mul, Int.natCast_pow, Int.neg_mul]; rfl

theorem compare_mul (x y c : Int) (hc : 0 < c) : compare (x * c) (y * c) = compare x y := by
  have h1 : x * c < y * c ↔ x < y := Int.mul_lt_mul_right hc
  have h2 : x * c = y * c ↔ x = y := ⟨fun h => Int.eq_of_mul_eq_mul_right (by omega) h, fun h => by rw [h]⟩
  unfold compare instOrdInt compareOfLessAndEq
  simp only [h1, h2]

theorem read_num (a : Nat) (h : rung a < 9218868437227405312) :
    ∃ m k : Nat, FloatKind.f64.format.read a = .number (neg a) m (-1074 + (k : Int)) ∧ m * 2 ^ k = mag (rung a) := by
  rw [read_eq]
  unfold mag
  by_cases h1 : rung a < 4503599627370496
  · rw [if_pos h1, if_pos h1]
    exact ⟨rung a, 0, rfl, by simp⟩
  · rw [if_neg h1, if_neg h1, if_pos h]
    exact ⟨_, _, rfl, rfl⟩
theorem read_inf (a : Nat) (h : rung a = 9218868437227405312) : FloatKind.f64.format.read a = .infinity (neg a) := by
  rw [read_eq, if_neg (by omega), if_neg (by omega), if_pos h]
theorem read_nan (a : Nat) (h : 9218868437227405312 < rung a) : ∃ t, FloatKind.f64.format.read a = .nan (neg a) t := by
  rw [read_eq, if_neg (by omega), if_neg (by omega), if_neg (by omega)]
  exact ⟨_, rfl⟩

theorem order_val (a b : Nat) (ha : rung a ≤ 9218868437227405312) (hb : rung b ≤ 9218868437227405312) :
    FloatKind.f64.format.order a b = some (compare (val a) (val b)) := by
  unfold Ieee.Format.order
  have hpos : 0 < mag 9218868437227405312 := mag_pos (by omega)
  rcases Nat.lt_or_eq_of_le ha with ha | ha
  · obtain ⟨m, k, em, hm⟩ := read_num a ha
    have la := mag_lt ha
    rcases Nat.lt_or_eq_of_le hb with hb | hb
    · obtain ⟨n, j, en, hn⟩ := read_num b hb
      rw [em, en]
      unfold Ieee.Datum.order val
      simp only [Option.some.injEq]
      rw [← compare_mul _ _ (2 ^ ((min (-1074 + (k : Int)) (-1074 + (j : Int))) + 1074).toNat) (Int.pow_pos (by omega)),
        scaled _ _ _ _ rfl _ (by omega) (by omega), scaled _ _ _ _ rfl _ (by omega) (by omega), hm, hn]
    · rw [em, read_inf b hb]
      unfold Ieee.Datum.order val
      rw [hb]
      simp only [Option.some.injEq]
      cases neg b <;> cases neg a <;> simp only [Bool.false_eq_true, if_false, if_true] <;> symm <;>
        first | (rw [Int.compare_eq_lt]; omega) | (rw [Int.compare_eq_gt]; omega)
  · rcases Nat.lt_or_eq_of_le hb with hb | hb
    · obtain ⟨n, j, en, hn⟩ := read_num b hb
      have lb := mag_lt hb
      rw [en, read_inf a ha]
      unfold Ieee.Datum.order val
      rw [ha]
      simp only [Option.some.injEq]
      cases neg b <;> cases neg a <;> simp only [Bool.false_eq_true, if_false, if_true] <;> symm <;>
        first | (rw [Int.compare_eq_lt]; omega) | (rw [Int.compare_eq_gt]; omega)
    · rw [read_inf a ha, read_inf b hb]
      unfold Ieee.Datum.order val
      rw [ha, hb]
      simp only [Option.some.injEq]
      cases neg b <;> cases neg a <;> simp only [Bool.false_eq_true, if_false, if_true] <;> symm <;>
        first | (refine (Int.compare_eq_lt.2 ?_).trans rfl; omega) | (refine (Int.compare_eq_gt.2 ?_).trans rfl; omega) | (refine (Int.compare_eq_eq.2 ?_).trans rfl; omega)
theorem order_nan_left (a b : Nat) (ha : 9218868437227405312 < rung a) : FloatKind.f64.format.order a b = none := by
  unfold Ieee.Format.order
  obtain ⟨t, e⟩ := read_nan a ha
  rw [e]
  cases FloatKind.f64.format.read b <;> rfl
theorem order_nan_right (a b : Nat) (ha : 9218868437227405312 < rung b) : FloatKind.f64.format.order a b = none := by
  unfold Ieee.Format.order
  obtain ⟨t, e⟩ := read_nan b ha
  rw [e]
  cases FloatKind.f64.format.read a <;> rfl

theorem isNaN_iff (a : Nat) : isNaN a = decide (9218868437227405312 < rung a) := by
  unfold isNaN
  by_cases h : 9218868437227405312 < rung a
  · rw [order_nan_left a a h]; simp [h]
  · rw [order_val a a (by omega) (by omega)]; simp [h]
theorem isNaN_false {a : Nat} (h : isNaN a = false) : rung a ≤ 9218868437227405312 := by
  rw [isNaN_iff] at h; simpa using h
theorem isNaN_true {a : Nat} (h : isNaN a = true) : 9218868437227405312 < rung a := by
  rw [isNaN_iff] at h; simpa using h
theorem canon_nan {a : Nat} (h : isNaN a = true) : canon a = nanBits := by simp [canon, h]
theorem canon_num {a : Nat} (h : isNaN a = false) : canon a = a := by simp [canon, h]
theorem canon_lt {a : Nat} (ha : a < 18446744073709551616) : canon a < 18446744073709551616 := by
  unfold canon nanBits; split <;> omega
theorem isNaN_canon (a : Nat) : isNaN (canon a) = isNaN a := by
  cases h : isNaN a
  · rw [canon_num h, h]
  · rw [canon_nan h]; rfl
theorem canon_canon (a : Nat) : canon (canon a) = canon a := by
  cases h : isNaN a
  · rw [canon_num h, canon_num h]
  · rw [canon_nan h]; rfl
theorem rank_nan {a : Nat} (h : isNaN a = true) : rank a = 18444492273895866369 := by
  unfold rank; rw [canon_nan h]; rfl
theorem rank_num {a : Nat} (h : isNaN a = false) : rank a = rankOf a := by
  unfold rank; rw [canon_num h]
theorem rank_canon (a : Nat) : rank (canon a) = rank a := by unfold rank; rw [canon_canon]

theorem rankOf_inj {a b : Nat} (ha : a < 18446744073709551616) (hb : b < 18446744073709551616) (h : rankOf a = rankOf b) : a = b := by
  unfold rankOf at h; split at h <;> split at h <;> omega
theorem rank_inj {a b : Nat} (ha : a < 18446744073709551616) (hb : b < 18446744073709551616) : rank a = rank b ↔ canon a = canon b :=
  ⟨fun h => rankOf_inj (canon_lt ha) (canon_lt hb) h, fun h => by unfold rank; rw [h]⟩
theorem rank_num_lt {a : Nat} (ha : a < 18446744073709551616) (h : isNaN a = false) : rank a < 18444492273895866369 := by
  have := isNaN_false h
  rw [rank_num h]; unfold rankOf rung at *; split <;> omega
theorem rank_le_nan {a b : Nat} (ha : a < 18446744073709551616) (h : isNaN b = true) : rank a ≤ rank b := by
  rw [rank_nan h]
  cases h1 : isNaN a
  · exact Nat.le_of_lt (rank_num_lt ha h1)
  · rw [rank_nan h1]; exact Nat.le_refl _

theorem neg_iff (a : Nat) (ha : a < 18446744073709551616) : neg a = decide (9223372036854775808 ≤ a) := by
  unfold neg
  by_cases h : 9223372036854775808 ≤ a
  · have : a / 9223372036854775808 = 1 := by omega
    rw [this]; simp [h]
  · have : a / 9223372036854775808 = 0 := by omega
    rw [this]; simp [h]
/-- the order of the bits is that of the numbers -/
theorem val_lt {a b : Nat} (ha : a < 18446744073709551616) (hb : b < 18446744073709551616) (na : isNaN a = false) (nb : isNaN b = false)
    (h : val a < val b) : rank a < rank b := by
  rw [rank_num na, rank_num nb]
  unfold val at h
  rw [neg_iff a ha, neg_iff b hb] at h
  unfold rankOf
  simp only [decide_eq_true_eq] at h
  have key : ∀ r s : Nat, mag r < mag s → r < s := fun r s hrs => by
    rcases Nat.lt_or_ge r s with h | h
    · exact h
    · have := mag_le h; omega
  split at h <;> split at h
  · have := key (rung b) (rung a) (by omega)
    unfold rung at this
    rw [if_pos ‹_›, if_pos ‹_›]; omega
  · rw [if_pos ‹_›, if_neg ‹_›]; omega
  · omega
  · have := key (rung a) (rung b) (by omega)
    unfold rung at this
    rw [if_neg ‹_›, if_neg ‹_›]; omega
theorem rank_lt {a b : Nat} (ha : a < 18446744073709551616) (hb : b < 18446744073709551616) (na : isNaN a = false) (nb : isNaN b = false)
    (h : rank a ≤ rank b) : val a ≤ val b := by
  rcases Int.lt_or_le (val b) (val a) with h1 | h1
  · have := val_lt hb ha nb na h1; omega
  · exact h1

/-- what '<' and '>' say of two floats -/
theorem order_lt {a b : Nat} (ha : a < 18446744073709551616) (hb : b < 18446744073709551616) (h : FloatKind.f64.format.order a b = some .lt) :
    isNaN a = false ∧ isNaN b = false ∧ rank a < rank b := by
  cases na : isNaN a
  · cases nb : isNaN b
    · rw [order_val a b (isNaN_false na) (isNaN_false nb)] at h
      simp only [Option.some.injEq, Int.compare_eq_lt] at h
      exact ⟨rfl, rfl, val_lt ha hb na nb h⟩
    · rw [order_nan_right a b (isNaN_true nb)] at h; cases h
  · rw [order_nan_left a b (isNaN_true na)] at h; cases h
theorem order_gt {a b : Nat} (ha : a < 18446744073709551616) (hb : b < 18446744073709551616) (h : FloatKind.f64.format.order a b = some .gt) :
    isNaN a = false ∧ isNaN b = false ∧ rank b < rank a := by
  cases na : isNaN a
  · cases nb : isNaN b
    · rw [order_val a b (isNaN_false na) (isNaN_false nb)] at h
      simp only [Option.some.injEq, Int.compare_eq_gt] at h
      exact ⟨rfl, rfl, val_lt hb ha nb na h⟩
    · rw [order_nan_right a b (isNaN_true nb)] at h; cases h
  · rw [order_nan_left a b (isNaN_true na)] at h; cases h

/-- the bits of the model's operations on words, at the sign -/
theorem and_sign (c : Nat) (hc : c < 18446744073709551616) : bits .and .u64 (c : Int) 9223372036854775808 = if 9223372036854775808 ≤ c then 9223372036854775808 else 0 := by
  have := u64_and_nat c 9223372036854775808 hc (by omega)
  rw [show (9223372036854775808 : Int) = ((9223372036854775808 : Nat) : Int) from rfl, this]
  have t : ∀ i, (9223372036854775808 : Nat).testBit i = decide (63 = i) := fun i => by
    rw [show (9223372036854775808 : Nat) = 2 ^ 63 from rfl, Nat.testBit_two_pow]
  by_cases h : 9223372036854775808 ≤ c
  · rw [if_pos h]
    congr 1
    refine Nat.eq_of_testBit_eq fun i => ?_
    rw [Nat.testBit_and, t]
    by_cases hi : 63 = i
    · subst hi
      have : c / 2 ^ 63 = 1 := by omega
      rw [Nat.testBit_eq_decide_div_mod_eq, this]; rfl
    · simp [hi]
  · rw [if_neg h]
    show (((c &&& 9223372036854775808 : Nat)) : Int) = ((0 : Nat) : Int)
    congr 1
    refine Nat.eq_of_testBit_eq fun i => ?_
    rw [Nat.testBit_and, t]
    by_cases hi : 63 = i
    · subst hi
      have : c / 2 ^ 63 = 0 := by omega
      rw [Nat.testBit_eq_decide_div_mod_eq, this]; rfl
    · simp [hi]
theorem xor_all (c : Nat) (hc : c < 18446744073709551616) : bits .xor .u64 IntKind.u64.max (c : Int) = ((18446744073709551615 - c : Nat) : Int) := by
  have := bits_xor_u64_nat 18446744073709551615 c (by omega) hc
  rw [show IntKind.u64.max = ((18446744073709551615 : Nat) : Int) from rfl, this]
  congr 1
  have h2 : (18446744073709551615 ^^^ c) = (BitVec.allOnes 64 ^^^ BitVec.ofNat 64 c).toNat := by
    rw [BitVec.toNat_xor, BitVec.toNat_allOnes, BitVec.toNat_ofNat, Nat.mod_eq_of_lt hc]
  rw [h2, BitVec.allOnes_xor, BitVec.toNat_not, BitVec.toNat_ofNat, Nat.mod_eq_of_lt hc]
theorem or_sign (c : Nat) (hc : c < 9223372036854775808) : bits .or .u64 (c : Int) 9223372036854775808 = ((c + 9223372036854775808 : Nat) : Int) := by
  have := u64_or_nat c 9223372036854775808 (by omega) (by omega)
  rw [show (9223372036854775808 : Int) = ((9223372036854775808 : Nat) : Int) from rfl, this]
  congr 1
  have h2 : 9223372036854775808 * 1 + c = 9223372036854775808 * 1 ||| c := Nat.two_pow_add_eq_or_of_lt (i := 63) (b := c) hc 1
  rw [Nat.or_comm, ← Nat.mul_one 9223372036854775808, ← h2]; omega
theorem rank_hi (c : Nat) (hc : c < 18446744073709551616) (h : (bits .and .u64 (c : Int) 9223372036854775808 != 0) = true) :
    bits .xor .u64 IntKind.u64.max (c : Int) = ((rankOf c : Nat) : Int) := by
  rw [and_sign c hc] at h
  rw [xor_all c hc]
  unfold rankOf
  split at h
  · rw [if_pos ‹_›]
  · simp at h
theorem rank_lo (c : Nat) (hc : c < 18446744073709551616) (h : (bits .and .u64 (c : Int) 9223372036854775808 != 0) = false) :
    bits .or .u64 (c : Int) 9223372036854775808 = ((rankOf c : Nat) : Int) := by
  rw [and_sign c hc] at h
  unfold rankOf
  split at h
  · simp at h
  · rw [if_neg ‹_›, or_sign c (by omega)]

theorem less_trans {a b c : Nat} (h : less a b = true) (h2 : less b c = true) : less a c = true := by
  unfold less at *; rw [decide_eq_true_eq] at *; omega
theorem same_trans {a b c : Nat} (h : same a b = true) (h2 : same b c = true) : same a c = true := by
  unfold same at *; rw [decide_eq_true_eq] at *; rw [h, h2]
theorem same_refl (a : Nat) : same a a = true := by unfold same; simp
theorem same_comm (a b : Nat) : same a b = same b a := by unfold same; rw [decide_eq_decide]; exact ⟨Eq.symm, Eq.symm⟩
/-- two floats stand in one of three ways -/
theorem three (a b : Nat) (ha : a < 18446744073709551616) (hb : b < 18446744073709551616) :
    (less a b = true ∧ less b a = false ∧ same a b = false ∧ isNaN a = false ∧ (FloatKind.f64.format.order a b == some .gt) = false) ∨
    (less a b = false ∧ less b a = true ∧ same a b = false ∧ (FloatKind.f64.format.order a b == some .lt) = false) ∨
    (less a b = false ∧ less b a = false ∧ same a b = true ∧ (FloatKind.f64.format.order a b == some .lt) = false) := by
  have hs := rank_inj ha hb
  have hlt : (FloatKind.f64.format.order a b == some .lt) = true → rank a < rank b := fun h => (order_lt ha hb (beq_iff_eq.1 h)).2.2
  have hgt : (FloatKind.f64.format.order a b == some .gt) = true → rank b < rank a := fun h => (order_gt ha hb (beq_iff_eq.1 h)).2.2
  have hn : isNaN a = true → rank b ≤ rank a := fun h => rank_le_nan hb h
  unfold less same
  rcases Nat.lt_trichotomy (rank a) (rank b) with h | h | h
  · refine .inl ⟨by simpa using h, by simp; omega, by simp; intro e; have := hs.2 e; omega, ?_, ?_⟩
    · cases e : isNaN a
      · rfl
      · have := hn e; omega
    · cases e : (FloatKind.f64.format.order a b == some .gt)
      · rfl
      · have := hgt e; omega
  · refine .inr (.inr ⟨by simp; omega, by simp; omega, by simpa using hs.1 h, ?_⟩)
    cases e : (FloatKind.f64.format.order a b == some .lt)
    · rfl
    · have := hlt e; omega
  · refine .inr (.inl ⟨by simp; omega, by simpa using h, by simp; intro e; have := hs.2 e; omega, ?_⟩)
    cases e : (FloatKind.f64.format.order a b == some .lt)
    · rfl
    · have := hlt e; omega
end Go.Proofs.YtaengjgmchpabaaGreat.Nm
end
section
/- Walks of a few of layer 1's functions. -/
namespace Go.Proofs.YtaengjgmchpabaaGreat.Nm
open Go Go.RowKit
theorem run_bits (a : Nat) (w : World) : (callFunc 100 #[.float .f64 a]).run Tryz.prog w = .ok (.value (.int .u64 a)) w := by
  rw [run_callFunc_extern (fn := Tryz.f100) (e := Extern.MathFloatBits.float64bits) Tryz.func100 (by kernel_rfl) (by kernel_rfl) (by kernel_rfl) (by kernel_rfl)]
  rfl
theorem run_frombits (n : Int) (w : World) : (callFunc 106 #[.int .u64 n]).run Tryz.prog w = .ok (.value (.float .f64 n.toNat)) w := by
  rw [run_callFunc_extern (fn := Tryz.f106) (e := Extern.MathFloatBits.float64frombits) Tryz.func106 (by kernel_rfl) (by kernel_rfl) (by kernel_rfl) (by kernel_rfl)]
  rfl
attribute [local go_sem] run_bits run_frombits
theorem toList_data (s : ByteArray) : s.toList = s.data.toList := ByteArray.toList_eq s
theorem ret_int {k : IntKind} {a b : Int} (h : a = b) : Ending.returned (.int k a) = .returned (.int k b) := by rw [h]
theorem ret_bool {a b : Bool} (h : a = b) : Ending.returned (.bool a) = .returned (.bool b) := by rw [h]
theorem ret_float {a b : Nat} (h : a = b) : Ending.returned (.float .f64 a) = .returned (.float .f64 b) := by rw [h]

set_option maxHeartbeats 400000 in
theorem IsNaN_any (a : Nat) (w : World) :
    Calls Tryz.prog 113 #[.float .f64 a] w fun e w' => e = .returned (.bool (isNaN a)) ∧ w = w' := by
  go_enter Tryz.func113, Tryz.ntmps113
  go_wp2
  go_ret
  exact ⟨rfl, rfl⟩

set_option maxHeartbeats 400000 in
theorem nan_any (w : World) :
    Calls Tryz.prog 114 #[] w fun e w' => e = .returned (.float .f64 nanBits) ∧ w = w' := by
  go_enter Tryz.func114, Tryz.ntmps114
  go_wp2
  go_ret
  exact ⟨rfl, rfl⟩

set_option maxHeartbeats 400000 in
theorem refNaN_any (w : World) :
    Calls Tryz.prog 110 #[] w fun e w' => e = .returned (.float .f64 nanBits) ∧ w = w' := by
  go_enter Tryz.func110, Tryz.ntmps110
  go_wp2
  go_ret
  exact ⟨rfl, rfl⟩

set_option maxHeartbeats 400000 in
theorem Canon_any (a : Nat) (w : World) :
    Calls Tryz.prog 109 #[.float .f64 a] w fun e w' => e = .returned (.float .f64 (canon a)) ∧ w = w' := by
  cases h : isNaN a
  all_goals
    have h2 : (FloatKind.f64.format.order a a != some .eq) = _ := h
    go_enter Tryz.func109, Tryz.ntmps109
    go_wp2_with (first | (go_at_call 113; refine (IsNaN_any _ _).mono ?_; rintro e w' ⟨rfl, rfl⟩) | (go_at_call 114; refine (nan_any _).mono ?_; rintro e w' ⟨rfl, rfl⟩))
    go_ret
    exact ⟨by simp [canon, h], rfl⟩
end Go.Proofs.YtaengjgmchpabaaGreat.Nm
end
section
/- Plain mathematics of values: right, the same. No program. -/
namespace Go.Proofs.YtaengjgmchpabaaGreat.Vl
open Go Go.RowKit Go.Proofs.YtaengjgmchpabaaGreat.Nm
structure V where
  kind : Int
  num : Nat
  text : ByteArray
@[reducible] def V.val (v : V) : Value := .agg #[.int .i64 v.kind, .float .f64 v.num, .string v.text]
@[reducible] def V.zero : V := ⟨0, 0, (⟨#[]⟩ : ByteArray)⟩
/-- what is known of any value -/
structure V.In (v : V) : Prop where
  lo : -9223372036854775808 ≤ v.kind
  hi : v.kind ≤ 9223372036854775807
  num : v.num < 18446744073709551616
  text : v.text.size ≤ 2000
def V.check (v : V) : Int :=
  if v.kind < 0 ∨ 2 < v.kind then 15
  else if v.kind = 2 ∧ 32 < v.text.size then 2
  else if v.kind ≠ 2 ∧ v.text.size ≠ 0 ∨ v.kind ≠ 1 ∧ v.num ≠ 0 then 8
  else if canon v.num ≠ v.num then 8 else 0
def V.same (a b : V) : Bool := decide (a.kind = b.kind) && Nm.same a.num b.num && decide (a.text = b.text)
theorem canon_zero : canon 0 = 0 := by kernel_rfl
theorem zero_In : V.zero.In := ⟨by decide, by decide, by decide, by decide⟩
theorem V.ext {a b : V} (h1 : a.kind = b.kind) (h2 : a.num = b.num) (h3 : a.text = b.text) : a = b := by cases a; cases b; simp_all
theorem check_zero {v : V} (h : v.check = 0) : (v.kind = 0 ∨ v.kind = 1 ∨ v.kind = 2) ∧ (v.kind = 2 → v.text.size ≤ 32) ∧ (v.kind ≠ 2 → v.text.size = 0) ∧ (v.kind ≠ 1 → v.num = 0) ∧ canon v.num = v.num := by
  unfold V.check at h
  split at h
  · cases h
  · split at h
    · cases h
    · split at h
      · cases h
      · split at h
        · cases h
        · refine ⟨by omega, by omega, by omega, by omega, Decidable.not_not.1 (by assumption)⟩
theorem empty_of {b : ByteArray} (h : b.size = 0) : b = (⟨#[]⟩ : ByteArray) := by
  cases b with | mk d => 
  have : d = #[] := Array.eq_empty_of_size_eq_zero h
  subst this; rfl
end Go.Proofs.YtaengjgmchpabaaGreat.Vl
end
section
/- Plain mathematics of commands. No program. -/
namespace Go.Proofs.YtaengjgmchpabaaGreat.Kv
open Go Go.RowKit Vl Nm
structure Pr where
  key : ByteArray
  val : V
structure Cm where
  kind : Int
  key : ByteArray
  old : V
  val : V
def Pr.zero : Pr := ⟨⟨#[]⟩, V.zero⟩
instance : Inhabited Pr := ⟨Pr.zero⟩
def Cm.vals (c : Cm) : Bool :=
  decide (c.old.check = 0) && decide (c.val.check = 0) &&
  (if c.kind = 2 then decide (c.old.kind = 0) && decide (c.val.kind ≠ 0) else if c.kind = 4 then true
   else if c.kind = 5 ∨ c.kind = 6 then decide (c.old.kind = 0) && decide (c.val.kind = 1) else decide (c.old.kind = 0) && decide (c.val.kind = 0))
def Cm.right (c : Cm) : Int := if c.kind < 1 ∨ 6 < c.kind then 15 else if 8 < c.key.size then 2 else if c.key.size = 0 ∨ c.vals = false then 8 else 0
theorem right_zero {c : Cm} (h : c.right = 0) : 1 ≤ c.kind ∧ c.kind ≤ 6 ∧ c.key.size ≠ 0 ∧ c.key.size ≤ 8 ∧ c.vals = true := by
  unfold Cm.right at h
  split at h
  · cases h
  · split at h
    · cases h
    · split at h
      · cases h
      · rename_i h1 h2 h3
        refine ⟨by omega, by omega, fun e => h3 (.inl e), by omega, ?_⟩
        cases hv : c.vals
        · exact absurd (.inr hv) h3
        · rfl
theorem vals_true {c : Cm} (h : c.vals = true) : c.old.check = 0 ∧ c.val.check = 0 ∧ (c.kind = 5 ∨ c.kind = 6 → c.val.kind = 1) ∧ (c.kind = 2 → c.val.kind ≠ 0) ∧ (c.kind ≠ 4 → c.old.kind = 0) ∧ (c.kind ≠ 2 → c.kind ≠ 4 → c.kind ≠ 5 → c.kind ≠ 6 → c.val.kind = 0) := by
  unfold Cm.vals at h
  rw [Bool.and_eq_true, Bool.and_eq_true, decide_eq_true_eq, decide_eq_true_eq] at h
  obtain ⟨⟨h1, h2⟩, h3⟩ := h
  refine ⟨h1, h2, ?_⟩
  split at h3
  · rename_i e
    rw [Bool.and_eq_true, decide_eq_true_eq, decide_eq_true_eq] at h3
    exact ⟨by omega, fun _ => h3.2, fun _ => h3.1, by omega⟩
  · split at h3
    · exact ⟨by omega, by omega, by omega, by omega⟩
    · split at h3
      · rw [Bool.and_eq_true, decide_eq_true_eq, decide_eq_true_eq] at h3
        exact ⟨fun _ => h3.2, by omega, fun _ => h3.1, by omega⟩
      · rw [Bool.and_eq_true, decide_eq_true_eq, decide_eq_true_eq] at h3
        exact ⟨by omega, by omega, fun _ => h3.1, fun _ _ _ _ => h3.2⟩
theorem zero_check : V.zero.check = 0 := by kernel_rfl
theorem zero_fit : V.zero.num < 18446744073709551616 := by decide
/-- a right value below 2^64 -/
def V.Fit (v : V) : Prop := v.num < 18446744073709551616
end Go.Proofs.YtaengjgmchpabaaGreat.Kv
end
section
/- Plain mathematics of calls. No program. -/
namespace Go.Proofs.YtaengjgmchpabaaGreat.Ss
open Go Go.RowKit Vl Kv
structure Cl where
  client : Int
  seq : Int
  cmd : Cm
def Cl.zero : Cl := ⟨0, 0, ⟨0, ⟨#[]⟩, V.zero, V.zero⟩⟩
instance : Inhabited Cl := ⟨Cl.zero⟩
def mayBe (c s : Int) : Bool := decide (1 ≤ c) && decide (c ≤ 4) && decide (1 ≤ s) && decide (s ≤ 1099511627776)
theorem mayBe_iff {c s : Int} : mayBe c s = true ↔ 1 ≤ c ∧ c ≤ 4 ∧ 1 ≤ s ∧ s ≤ 1099511627776 := by
  unfold mayBe; simp only [Bool.and_eq_true, decide_eq_true_eq, and_assoc]
end Go.Proofs.YtaengjgmchpabaaGreat.Ss
end
section
/- Memory: what stays where only some blocks are written; bytes that a slice shows. No program. -/
namespace Go.Proofs.YtaengjgmchpabaaGreat.Mem
open Go Go.RowKit

/-- Of the blocks that there are only those of S may have turned. -/
structure Kept (S : Nat → Prop) (w w' : World) : Prop where
  os : w'.os = w.os
  tape : w'.tape = w.tape
  output : w'.output = w.output
  size : w.heap.size ≤ w'.heap.size
  block : ∀ k, k < w.heap.size → ¬ S k → w'.heap[k]? = w.heap[k]?

def None : Nat → Prop := fun _ => False
def Only (b : Nat) : Nat → Prop := fun k => k = b
theorem Only.self {b : Nat} : Only b b := rfl

theorem Kept.refl (S : Nat → Prop) (w : World) : Kept S w w := ⟨rfl, rfl, rfl, Nat.le_refl _, fun _ _ _ => rfl⟩
theorem Kept.trans' {S T : Nat → Prop} {a b c : World} (h : Kept S a b) (k : Kept T b c) (ht : ∀ x, T x → S x ∨ a.heap.size ≤ x) : Kept S a c :=
  ⟨k.os.trans h.os, k.tape.trans h.tape, k.output.trans h.output, Nat.le_trans h.size k.size, fun i hi hs =>
    (k.block i (Nat.lt_of_lt_of_le hi h.size) (fun e => (ht i e).elim hs (fun g => by omega))).trans (h.block i hi hs)⟩
theorem Kept.trans {S : Nat → Prop} {a b c : World} (h : Kept S a b) (k : Kept S b c) : Kept S a c := h.trans' k (fun _ h => .inl h)
theorem Kept.mono {S T : Nat → Prop} {a b : World} (h : Kept S a b) (hs : ∀ x, S x → T x) : Kept T a b :=
  ⟨h.os, h.tape, h.output, h.size, fun i hi ht => h.block i hi (fun e => ht (hs i e))⟩
theorem Kept.ofNone {S : Nat → Prop} {a b : World} (h : Kept None a b) : Kept S a b := h.mono (fun _ h => h.elim)
theorem Kept.alloc {S : Nat → Prop} {a w : World} (h : Kept S a w) (o : Obj) : Kept S a (w.alloc o) :=
  h.trans ⟨rfl, rfl, rfl, by simp, fun k hk _ => Below.heap_alloc _ _ _ hk⟩
theorem Kept.setCell {S : Nat → Prop} {a w : World} (h : Kept S a w) {p : Addr} (hp : S p.block ∨ a.heap.size ≤ p.block) (u : Value) : Kept S a (w.setCell p u) :=
  h.trans' (T := Only p.block) ⟨rfl, rfl, rfl, by simp, fun k _ hs => Below.heap_setCell _ _ _ _ hs⟩ (fun x hx => by cases hx; exact hp)
theorem Kept.setAt {S : Nat → Prop} {a w : World} (h : Kept S a w) {b : Nat} (hb : S b ∨ a.heap.size ≤ b) (i : Nat) (u : Value) : Kept S a (w.setCell ⟨b, i, none⟩ u) := h.setCell (p := ⟨b, i, none⟩) hb u
theorem Kept.drew {S : Nat → Prop} {a w : World} (h : Kept S a w) : Kept S a w.drew := ⟨h.os, h.tape, h.output, h.size, h.block⟩
theorem Kept.drewN {S : Nat → Prop} {a w : World} (h : Kept S a w) (n : Nat) : Kept S a (w.drewN n) := ⟨h.os, h.tape, h.output, h.size, h.block⟩
theorem Kept.grown {S : Nat → Prop} {a w w' : World} {row : Option Nat} (h : Kept S a w) (hg : w.grownBy w' row) (hr : ∀ k, row = some k → S k ∨ a.heap.size ≤ k) : Kept S a w' :=
  h.trans' (T := fun k => row = some k) ⟨hg.os, hg.tape, hg.output, hg.size, fun k hk hs => hg.block k hk (fun e => hs e.symm)⟩ (fun x hx => hr x hx)
theorem Kept.below {S : Nat → Prop} {B : Nat} {w w' : World} (h : Kept S w w') (hB : B ≤ w.heap.size) (hs : ∀ k, S k → B ≤ k) : Below B w w' :=
  ⟨h.os, h.tape, h.output, h.size, fun k hk => h.block k (by omega) (fun e => by have := hs k e; omega)⟩
theorem Kept.of_below {w w' : World} (h : Below w.heap.size w w') : Kept None w w' := ⟨h.os, h.tape, h.output, h.size, fun k hk _ => h.block k hk⟩
theorem Kept.cell {S : Nat → Prop} {w w' : World} (h : Kept S w w') {p : Addr} (hp : p.block < w.heap.size) (hs : ¬ S p.block) : w'.cell? p = w.cell? p := World.cell?_of_block (w := w) (h.block p.block hp hs)
theorem Kept.frozen {S : Nat → Prop} {w w' : World} (h : Kept S w w') {p : Addr} (hp : p.block < w.heap.size) (hs : ¬ S p.block) : w'.frozen? p = w.frozen? p := World.frozen?_of_block (w := w) (h.block p.block hp hs)
theorem lt_of_heap {w : World} {b : Nat} {o : Obj} (h : w.heap[b]? = some o) : b < w.heap.size := (Array.getElem?_eq_some_iff.1 h).1
theorem Kept.heap {S : Nat → Prop} {w w' : World} (h : Kept S w w') {b : Nat} {o : Obj} (hb : w.heap[b]? = some o) (hs : ¬ S b) : w'.heap[b]? = some o := (h.block b (lt_of_heap hb) hs).trans hb

/-- bytes -/
def B8 (l : List Nat) : Prop := ∀ x ∈ l, x < 256
theorem B8.nil : B8 [] := fun _ h => by cases h
theorem B8.append {a b : List Nat} (ha : B8 a) (hb : B8 b) : B8 (a ++ b) := fun x h => (List.mem_append.1 h).elim (ha x) (hb x)
theorem B8.drop {a : List Nat} (h : B8 a) (n : Nat) : B8 (a.drop n) := fun x hx => h x (List.mem_of_mem_drop hx)
theorem B8.take {a : List Nat} (h : B8 a) (n : Nat) : B8 (a.take n) := fun x hx => h x (List.mem_of_mem_take hx)
theorem B8.get {a : List Nat} (h : B8 a) (i : Nat) : a.getD i 0 < 256 := by
  by_cases hi : i < a.length
  · have : a.getD i 0 = a[i] := by simp [hi]
    rw [this]; exact h _ (List.getElem_mem hi)
  · simp [show a.length ≤ i by omega]

/-- The slice (a, its length, cap) shows the bytes l; where it has cells, they lie in block b. -/
def Shows (w : World) (b : Nat) (a : Option Addr) (cap : Nat) (l : List Nat) : Prop :=
  l.length ≤ cap ∧ cap ≤ 9223372036854775807 ∧ ((a = none ∧ l = [] ∧ cap = 0) ∨ ∃ off, a = some ⟨b, off, none⟩ ∧ ∀ i, i < l.length → w.cell? ⟨b, off + i, none⟩ = some (.int .u8 (l.getD i 0)))

theorem Shows.kept {S : Nat → Prop} {w w' : World} {b : Nat} {a : Option Addr} {cap : Nat} {l : List Nat} (h : Shows w b a cap l) (hk : Kept S w w') (hs : l ≠ [] → ¬ S b) : Shows w' b a cap l := by
  obtain ⟨h1, h2, h3⟩ := h
  refine ⟨h1, h2, ?_⟩
  rcases h3 with h3 | ⟨off, ha, hc⟩
  · exact .inl h3
  · refine .inr ⟨off, ha, fun i hi => ?_⟩
    have hlt := World.block_lt_of_cell? w _ (hc i hi)
    exact (hk.cell (p := ⟨b, off + i, none⟩) hlt (hs (by intro e; subst e; simp at hi))).trans (hc i hi)
theorem Shows.lt {w : World} {b : Nat} {a : Option Addr} {cap : Nat} {l : List Nat} (h : Shows w b a cap l) (hl : l ≠ []) : b < w.heap.size := by
  rcases h.2.2 with ⟨_, e, _⟩ | ⟨off, _, hc⟩
  · exact absurd e hl
  · exact World.block_lt_of_cell? w _ (hc 0 (List.length_pos_iff.2 hl))
/-- The same, or an empty slice of whatever address: as one may come in. -/
def Src (w : World) (b : Nat) (a : Option Addr) (cap : Nat) (l : List Nat) : Prop := Shows w b a cap l ∨ (l = [] ∧ a ≠ none)
theorem Shows.src {w : World} {b : Nat} {a : Option Addr} {cap : Nat} {l : List Nat} (h : Shows w b a cap l) : Src w b a cap l := .inl h
theorem Src.kept {S : Nat → Prop} {w w' : World} {b : Nat} {a : Option Addr} {cap : Nat} {l : List Nat} (h : Src w b a cap l) (hk : Kept S w w') (hs : l ≠ [] → ¬ S b) : Src w' b a cap l := by
  rcases h with h | h
  · exact .inl (h.kept hk hs)
  · exact .inr h
theorem Src.lt {w : World} {b : Nat} {a : Option Addr} {cap : Nat} {l : List Nat} (h : Src w b a cap l) (hl : l ≠ []) : b < w.heap.size := by
  rcases h with h | h
  · exact h.lt hl
  · exact absurd h.1 hl
theorem Src.bare {w : World} {b cap : Nat} {l : List Nat} (h : Src w b none cap l) : l = [] ∧ cap = 0 := by
  rcases h with ⟨_, _, ⟨_, h1, h2⟩ | ⟨_, h, _⟩⟩ | h
  · exact ⟨h1, h2⟩
  · cases h
  · exact absurd rfl h.2
theorem Src.at_ {w : World} {b : Nat} {a : Option Addr} {cap : Nat} {l : List Nat} (h : Src w b a cap l) (h0 : 0 < l.length) : ∃ off, a = some ⟨b, off, none⟩ ∧ ∀ i, i < l.length → w.cell? ⟨b, off + i, none⟩ = some (.int .u8 (l.getD i 0)) := by
  rcases h with ⟨_, _, ⟨_, rfl, _⟩ | h⟩ | ⟨rfl, _⟩
  · simp at h0
  · exact h
  · simp at h0
theorem Src.len {w : World} {b : Nat} {a : Option Addr} {cap : Nat} {l : List Nat} (h : Src w b a cap l) : l.length ≤ 9223372036854775807 := by
  rcases h with h | h
  · have := h.1; have := h.2.1; omega
  · rw [h.1]; decide
theorem Kept.heap_end {S : Nat → Prop} {w w' v' : World} (h : Kept S w w') (hw : v'.heap = w'.heap) (ho : v'.os = w'.os) (ht : v'.tape = w'.tape) (hu : v'.output = w'.output) : Kept S w v' :=
  ⟨ho.trans h.os, ht.trans h.tape, hu.trans h.output, by rw [hw]; exact h.size, fun k hk hs => by rw [hw]; exact h.block k hk hs⟩
end Go.Proofs.YtaengjgmchpabaaGreat.Mem
end
