/- Plain mathematics for layer 1: a float rounded up to a whole number is just that number. No program. -/
import Derived.Test.YtagofgadijeglaaDoorNumMath
namespace Go.Proofs.YtagofgadijeglaaDoor.Nm
open Go

/-- how many of the least units make 1 -/
def big : Nat := 1074
theorem big_eq : big = 1074 := rfl
attribute [irreducible] big
def U : Nat := 2 ^ big
theorem U_pos : 0 < U := Nat.two_pow_pos _
def ceilB (a : Nat) : Nat := FloatKind.f64.encode ((FloatKind.f64.decode a).integral .up)
/-- the whole number that stands at a or next above it, without its sign -/
def ceilN (a : Nat) : Nat := if neg a = true then mag (rung a) / U else mag (rung a) / U + (if mag (rung a) % U = 0 then 0 else 1)
def ceilI (a : Nat) : Int := if neg a = true then -(ceilN a : Int) else (ceilN a : Int)

theorem gap_eq (n drop : Nat) : n / (1 <<< min drop (n.log2 + 2)) = n / 2 ^ drop ∧ (n % (1 <<< min drop (n.log2 + 2)) = 0 ↔ n % 2 ^ drop = 0) := by
  rw [Nat.shiftLeft_eq, Nat.one_mul]
  by_cases h : drop ≤ n.log2 + 2
  · rw [Nat.min_eq_left h]; exact ⟨rfl, Iff.rfl⟩
  · rw [Nat.min_eq_right (by omega)]
    have h1 : n < 2 ^ (n.log2 + 1) := Nat.lt_log2_self
    have h2 : 2 ^ (n.log2 + 1) ≤ 2 ^ (n.log2 + 2) := Nat.pow_le_pow_right (by omega) (by omega)
    have h3 : 2 ^ (n.log2 + 1) ≤ 2 ^ drop := Nat.pow_le_pow_right (by omega) (by omega)
    rw [Nat.div_eq_of_lt (by omega), Nat.div_eq_of_lt (by omega), Nat.mod_eq_of_lt (by omega), Nat.mod_eq_of_lt (by omega)]
    exact ⟨rfl, Iff.rfl⟩

theorem cut_zero (s : Bool) (n drop : Nat) : Ieee.Toward.zero.cut s n drop = n / 2 ^ drop := by
  unfold Ieee.Toward.cut
  simp only [(gap_eq n drop).1, Bool.toNat_false, Nat.add_zero]
theorem cut_up (s : Bool) (n drop : Nat) : Ieee.Toward.up.cut s n drop = if s = true then n / 2 ^ drop else n / 2 ^ drop + (if n % 2 ^ drop = 0 then 0 else 1) := by
  unfold Ieee.Toward.cut
  simp only [(gap_eq n drop).1]
  have := (gap_eq n drop).2
  cases s
  · by_cases h : n % 2 ^ drop = 0
    · have h' := this.2 h; simp [h, h']
    · have h' : ¬ _ := fun x => h (this.1 x); simp [h, h']
  · simp

/-- both parts of a number at place k - 1074, in units -/
theorem parts (m k : Nat) : (m <<< (-1074 + (k : Int)).toNat) / 2 ^ (-(-1074 + (k : Int))).toNat = m * 2 ^ k / U ∧
    ((m <<< (-1074 + (k : Int)).toNat) % 2 ^ (-(-1074 + (k : Int))).toNat = 0 ↔ m * 2 ^ k % U = 0) := by
  unfold U
  have hb := big_eq
  rw [Nat.shiftLeft_eq]
  by_cases h : 1074 ≤ k
  · have e1 : (-1074 + (k : Int)).toNat = k - 1074 := by omega
    have e2 : (-(-1074 + (k : Int))).toNat = 0 := by omega
    have e3 : m * 2 ^ k = m * 2 ^ (k - 1074) * 2 ^ big := by
      rw [Nat.mul_assoc, ← Nat.pow_add]; congr 2; omega
    rw [e1, e2, e3, Nat.mul_div_cancel _ (Nat.two_pow_pos _), Nat.mul_mod_left, Nat.pow_zero, Nat.div_one, Nat.mod_one]
    exact ⟨rfl, Iff.rfl⟩
  · have e1 : (-1074 + (k : Int)).toNat = 0 := by omega
    have e2 : (-(-1074 + (k : Int))).toNat = 1074 - k := by omega
    have e3 : (2 : Nat) ^ big = 2 ^ (1074 - k) * 2 ^ k := by
      rw [← Nat.pow_add]; congr 1; omega
    rw [e1, e2, e3, Nat.mul_div_mul_right _ _ (Nat.two_pow_pos _), Nat.mul_mod_mul_right, Nat.pow_zero, Nat.mul_one]
    refine ⟨rfl, fun h => by rw [h, Nat.zero_mul], fun h => ?_⟩
    rcases Nat.mul_eq_zero.1 h with h | h
    · exact h
    · exact absurd h (Nat.ne_of_gt (Nat.two_pow_pos _))

/-- a number as it is read, its parts bounded -/
theorem read_num2 (a : Nat) (h : rung a < 9218868437227405312) :
    ∃ m k : Nat, FloatKind.f64.format.read a = .number (neg a) m (-1074 + (k : Int)) ∧ m * 2 ^ k = mag (rung a) ∧ m < 9007199254740992 ∧ k ≤ 2045 := by
  rw [read_eq]
  unfold mag
  by_cases h1 : rung a < 4503599627370496
  · rw [if_pos h1, if_pos h1]
    exact ⟨rung a, 0, rfl, by simp, by omega, by omega⟩
  · rw [if_neg h1, if_neg h1, if_pos h]
    exact ⟨_, _, rfl, rfl, by omega, by omega⟩

theorem integral_up (a : Nat) (h : rung a < 9218868437227405312) : (FloatKind.f64.decode a).integral .up = .number (neg a) (ceilN a) 0 := by
  obtain ⟨m, k, e, hm⟩ := read_num a h
  show (FloatKind.f64.format.read a).integral .up = _
  rw [e]
  show Ieee.Datum.number (neg a) (Ieee.Toward.up.cut (neg a) (m <<< (-1074 + (k : Int)).toNat) (-(-1074 + (k : Int))).toNat) 0 = _
  rw [cut_up, (parts m k).1]
  unfold ceilN
  rw [← hm]
  have := (parts m k).2
  by_cases h0 : m * 2 ^ k % U = 0
  · rw [if_pos (this.2 h0), if_pos h0]
  · rw [if_neg (fun x => h0 (this.1 x)), if_neg h0]
theorem toInt_zero (a : Nat) (h : rung a < 9218868437227405312) :
    (FloatKind.f64.decode a).toInt .zero = some (if neg a = true then -((mag (rung a) / U : Nat) : Int) else ((mag (rung a) / U : Nat) : Int)) := by
  obtain ⟨m, k, e, hm⟩ := read_num a h
  show (FloatKind.f64.format.read a).toInt .zero = _
  rw [e]
  show some (Ieee.signed (neg a) (Ieee.Toward.zero.cut (neg a) (m <<< (-1074 + (k : Int)).toNat) (-(-1074 + (k : Int))).toNat) 0) = _
  rw [cut_zero, (parts m k).1, hm]
  rfl

/-- what is rounded up has few digits -/
theorem ceilN_few (a : Nat) (h : rung a < 9218868437227405312) : ∃ m e : Nat, ceilN a = m * 2 ^ e ∧ m < 9007199254740992 ∧ e ≤ 971 := by
  obtain ⟨m, k, _, hm, hm2, hk⟩ := read_num2 a h
  unfold ceilN
  rw [← hm]
  by_cases hk2 : 1074 ≤ k
  · have e3 : m * 2 ^ k = m * 2 ^ (k - 1074) * U := by
      have hb := big_eq
      unfold U; rw [Nat.mul_assoc, ← Nat.pow_add]; congr 2; omega
    rw [e3, Nat.mul_div_cancel _ U_pos, Nat.mul_mod_left]
    refine ⟨m, k - 1074, ?_, hm2, by omega⟩
    split
    · exact Eq.refl _
    · rw [if_pos (Eq.refl 0), Nat.add_zero]
  · have e3 : U = 2 ^ (1074 - k) * 2 ^ k := by
      have hb := big_eq
      unfold U; rw [← Nat.pow_add]; congr 1; omega
    rw [e3, Nat.mul_div_mul_right _ _ (Nat.two_pow_pos _)]
    have h2 : m / 2 ^ (1074 - k) ≤ m / 2 := Nat.div_le_div_left (by
      calc 2 = 2 ^ 1 := rfl
        _ ≤ 2 ^ (1074 - k) := Nat.pow_le_pow_right (by omega) (by omega)) (by omega)
    refine ⟨_, 0, (Nat.mul_one _).symm, ?_, by omega⟩
    split
    · omega
    · split <;> omega

theorem even_whole (s : Bool) (q d : Nat) (n : Nat) (hn : n = q * 2 ^ d) (hd : d ≤ n.log2 + 2) : Ieee.Toward.even.cut s n d = q := by
  unfold Ieee.Toward.cut
  rw [Nat.min_eq_left hd, Nat.shiftLeft_eq, Nat.one_mul]
  have e : n / 2 ^ d = q := by rw [hn, Nat.mul_div_cancel _ (Nat.two_pow_pos _)]
  have e2 : n % 2 ^ d = 0 := by rw [hn, Nat.mul_mod_left]
  simp [e, e2]

/-- a whole number of few digits is written exactly -/
theorem nearest_whole (s : Bool) (m e : Nat) (hm : m < 9007199254740992) (he : e ≤ 971) :
    ∃ r, FloatKind.f64.format.nearest s (m * 2 ^ e) 0 = FloatKind.f64.format.word s r ∧ r < 9218868437227405312 ∧ mag r = m * 2 ^ e * U := by
  by_cases h0 : m = 0
  · subst h0
    refine ⟨0, ?_, by omega, by simp [mag_zero]⟩
    rw [Nat.zero_mul]; rfl
  · have hM : m * 2 ^ e ≠ 0 := fun h => by
      rcases Nat.mul_eq_zero.1 h with h | h
      · exact h0 h
      · exact absurd h (Nat.ne_of_gt (Nat.two_pow_pos _))
    have hL1 : 2 ^ (m * 2 ^ e).log2 ≤ m * 2 ^ e := Nat.log2_self_le hM
    have hL2 : m * 2 ^ e < 2 ^ ((m * 2 ^ e).log2 + 1) := Nat.lt_log2_self
    have hLe : (m * 2 ^ e).log2 < 53 + e := by
      rw [Nat.log2_lt hM, Nat.pow_add]
      exact Nat.mul_lt_mul_of_pos_right (by omega) (Nat.two_pow_pos _)
    have hLe2 : e ≤ (m * 2 ^ e).log2 := by
      rw [Nat.le_log2 hM]
      exact Nat.le_mul_of_pos_left _ (by omega)
    generalize hMM : m * 2 ^ e = M at *
    generalize hl : M.log2 = L at *
    have hb := big_eq
    -- the digits that are kept
    have hk : ∃ q, Ieee.Toward.even.cut s (M <<< ((0 : Int) - ((L : Int) - 52)).toNat) ((L : Int) - 52 - 0).toNat = q ∧ q * 2 ^ (L + 1022) = M * 2 ^ big ∧ 4503599627370496 ≤ q ∧ q < 9007199254740992 := by
      by_cases h : L ≤ 52
      · have e1 : ((0 : Int) - ((L : Int) - 52)).toNat = 52 - L := by omega
        have e2 : ((L : Int) - 52 - 0).toNat = 0 := by omega
        rw [e1, e2, Nat.shiftLeft_eq]
        refine ⟨M * 2 ^ (52 - L), even_whole _ _ _ _ (by simp) (by omega), ?_, ?_, ?_⟩
        · rw [Nat.mul_assoc, ← Nat.pow_add]; congr 2; omega
        · have := Nat.mul_le_mul_right (2 ^ (52 - L)) hL1
          rw [← Nat.pow_add, show L + (52 - L) = 52 by omega] at this
          exact this
        · have := Nat.mul_lt_mul_of_pos_right hL2 (Nat.two_pow_pos (52 - L))
          rw [← Nat.pow_add, show L + 1 + (52 - L) = 53 by omega] at this
          exact this
      · have e1 : ((0 : Int) - ((L : Int) - 52)).toNat = 0 := by omega
        have e2 : ((L : Int) - 52 - 0).toNat = L - 52 := by omega
        rw [e1, e2, Nat.shiftLeft_zero]
        have eM : M = m * 2 ^ (e - (L - 52)) * 2 ^ (L - 52) := by
          rw [← hMM, Nat.mul_assoc, ← Nat.pow_add]; congr 2; omega
        refine ⟨m * 2 ^ (e - (L - 52)), even_whole _ _ _ _ eM (by omega), ?_, ?_, ?_⟩
        · rw [eM, Nat.mul_assoc, Nat.mul_assoc, ← Nat.pow_add, ← Nat.pow_add, Nat.mul_assoc, ← Nat.pow_add]; congr 2; omega
        · have h1 : 4503599627370496 * 2 ^ (L - 52) ≤ m * 2 ^ (e - (L - 52)) * 2 ^ (L - 52) := by
            rw [← eM]
            refine Nat.le_trans (Nat.le_of_eq ?_) hL1
            rw [show (4503599627370496 : Nat) = 2 ^ 52 from rfl, ← Nat.pow_add]; congr 1; omega
          exact Nat.le_of_mul_le_mul_right h1 (Nat.two_pow_pos _)
        · have h1 : m * 2 ^ (e - (L - 52)) * 2 ^ (L - 52) < 9007199254740992 * 2 ^ (L - 52) := by
            rw [← eM]
            refine Nat.lt_of_lt_of_le hL2 (Nat.le_of_eq ?_)
            rw [show (9007199254740992 : Nat) = 2 ^ 53 from rfl, ← Nat.pow_add]; congr 1; omega
          exact Nat.lt_of_mul_lt_mul_right h1
    obtain ⟨q, hq, hq2, hq3, hq4⟩ := hk
    have hlast : max ((0 : Int) + (L : Int) - 52) (-1074) = (L : Int) - 52 := by omega
    refine ⟨(L + 1022) * 4503599627370496 + q, ?_, by omega, ?_⟩
    · unfold Ieee.Format.nearest
      rw [if_neg hM]
      show FloatKind.f64.format.word s (min ((max ((0 : Int) + ((M.log2 : Nat) : Int) - 52) (-1074) - -1074).toNat * 4503599627370496 + Ieee.Toward.even.cut s (M <<< (0 - max ((0 : Int) + ((M.log2 : Nat) : Int) - 52) (-1074)).toNat) (max ((0 : Int) + ((M.log2 : Nat) : Int) - 52) (-1074) - 0).toNat) 9218868437227405312) = _
      rw [hl, hlast, hq]
      have : ((L : Int) - 52 - -1074).toNat = L + 1022 := by omega
      rw [this, Nat.min_eq_left (by omega)]
    · unfold mag
      rw [if_neg (by omega)]
      have e1 : ((L + 1022) * 4503599627370496 + q) / 4503599627370496 = L + 1023 := by omega
      have e2 : 4503599627370496 + ((L + 1022) * 4503599627370496 + q) % 4503599627370496 = q := by omega
      rw [e1, e2, show L + 1023 - 1 = L + 1022 from by omega]
      unfold U
      exact hq2

theorem word_parts (s : Bool) (r : Nat) (hr : r ≤ 9218868437227405312) : FloatKind.f64.format.word s r < 18446744073709551616 ∧ rung (FloatKind.f64.format.word s r) = r ∧ neg (FloatKind.f64.format.word s r) = s := by
  have e : FloatKind.f64.format.word s r = if s = true then 9223372036854775808 + r else r := rfl
  rw [e]
  unfold rung neg
  cases s
  · simp only [Bool.false_eq_true, if_false]
    refine ⟨by omega, by omega, ?_⟩
    have : r / 9223372036854775808 = 0 := by omega
    rw [this]; rfl
  · simp only [if_true]
    refine ⟨by omega, by omega, ?_⟩
    have : (9223372036854775808 + r) / 9223372036854775808 = 1 := by omega
    rw [this]; rfl

/-- a number, rounded up, is just that whole number -/
theorem ceil_num (a : Nat) (h : rung a < 9218868437227405312) :
    ceilB a < 18446744073709551616 ∧ rung (ceilB a) < 9218868437227405312 ∧ neg (ceilB a) = neg a ∧ mag (rung (ceilB a)) = ceilN a * U := by
  obtain ⟨m, e, hc, hm, he⟩ := ceilN_few a h
  obtain ⟨r, hr, hr2, hr3⟩ := nearest_whole (neg a) m e hm he
  have e1 : ceilB a = FloatKind.f64.format.word (neg a) r := by
    unfold ceilB
    rw [integral_up a h, hc]
    exact hr
  have hw := word_parts (neg a) r (by omega)
  rw [e1, hw.2.1, hw.2.2, hc]
  exact ⟨hw.1, hr2, rfl, hr3⟩
theorem ceil_inf (a : Nat) (h : rung a = 9218868437227405312) :
    ceilB a < 18446744073709551616 ∧ rung (ceilB a) = 9218868437227405312 ∧ neg (ceilB a) = neg a := by
  have e1 : ceilB a = FloatKind.f64.format.word (neg a) 9218868437227405312 := by
    unfold ceilB
    show FloatKind.f64.encode ((FloatKind.f64.format.read a).integral .up) = _
    rw [read_inf a h]; rfl
  rw [e1]
  have hw := word_parts (neg a) 9218868437227405312 (by omega)
  exact hw

theorem val_ceil (a : Nat) (h : rung a < 9218868437227405312) : val (ceilB a) = ceilI a * (U : Int) := by
  obtain ⟨_, _, h3, h4⟩ := ceil_num a h
  unfold val ceilI
  rw [h3, h4]
  split
  · rw [Int.natCast_mul, Int.neg_mul]
  · rw [Int.natCast_mul]
theorem mag_pos63 : mag 4890909195324358656 = 9223372036854775808 * U := by
  unfold mag U
  have hb := big_eq
  rw [if_neg (by omega), show 4890909195324358656 / 4503599627370496 - 1 = big + 11 by omega, show 4503599627370496 + 4890909195324358656 % 4503599627370496 = 2 ^ 52 from rfl,
    show (9223372036854775808 : Nat) = 2 ^ 63 from rfl, ← Nat.pow_add, ← Nat.pow_add]
  congr 1; omega
theorem val_pos63 : val 4890909195324358656 = 9223372036854775808 * (U : Int) := by
  unfold val
  rw [show neg 4890909195324358656 = false from rfl, show rung 4890909195324358656 = 4890909195324358656 from rfl, mag_pos63, if_neg (by decide), Int.natCast_mul]; rfl
theorem val_neg63 : val 14114281232179134464 = -9223372036854775808 * (U : Int) := by
  unfold val
  rw [show neg 14114281232179134464 = true from rfl, show rung 14114281232179134464 = 4890909195324358656 from rfl, mag_pos63, if_pos rfl, Int.natCast_mul, Int.neg_mul]; rfl
theorem U_posI : (0 : Int) < (U : Int) := by have := U_pos; omega
theorem isNaN_of_le {a : Nat} (h : rung a ≤ 9218868437227405312) : isNaN a = false := by rw [isNaN_iff]; simp; omega
theorem order_ceil_neg (a : Nat) (h : rung a < 9218868437227405312) : FloatKind.f64.format.order (ceilB a) 14114281232179134464 = some (compare (ceilI a) (-9223372036854775808)) := by
  rw [order_val _ _ (Nat.le_of_lt (ceil_num a h).2.1) (by unfold rung; omega), val_ceil a h, val_neg63, compare_mul _ _ _ U_posI]
theorem order_ceil_pos (a : Nat) (h : rung a < 9218868437227405312) : FloatKind.f64.format.order (ceilB a) 4890909195324358656 = some (compare (ceilI a) 9223372036854775808) := by
  rw [order_val _ _ (Nat.le_of_lt (ceil_num a h).2.1) (by unfold rung; omega), val_ceil a h, val_pos63, compare_mul _ _ _ U_posI]
theorem toInt_ceil (a : Nat) (h : rung a < 9218868437227405312) (h1 : -9223372036854775808 ≤ ceilI a) (h2 : ceilI a < 9223372036854775808) :
    floatToIntVal .f64 (ceilB a) .i64 = some (ceilI a) := by
  obtain ⟨_, h0, h3, h4⟩ := ceil_num a h
  unfold floatToIntVal
  rw [toInt_zero _ h0, h3, h4, Nat.mul_div_cancel _ U_pos]
  show (if IntKind.i64.min ≤ ceilI a ∧ ceilI a ≤ IntKind.i64.max then some (ceilI a) else none) = some (ceilI a)
  rw [if_pos ⟨h1, by show ceilI a ≤ 9223372036854775807; omega⟩]
theorem isNaN_ceil {a : Nat} (h : isNaN a = false) : isNaN (ceilB a) = false := by
  refine isNaN_of_le ?_
  rcases Nat.lt_or_eq_of_le (isNaN_false h) with h1 | h1
  · exact Nat.le_of_lt (ceil_num a h1).2.1
  · exact Nat.le_of_eq (ceil_inf a h1).2.1
/-- infinities against both bounds -/
theorem inf_above {r : Nat} (h : r < 9218868437227405312) : mag r < mag 9218868437227405312 := mag_lt h
theorem order_inf_neg (a : Nat) (h : rung a = 9218868437227405312) : FloatKind.f64.format.order (ceilB a) 14114281232179134464 = some (if neg a = true then .lt else .gt) := by
  obtain ⟨_, h2, h3⟩ := ceil_inf a h
  rw [order_val _ _ (Nat.le_of_eq h2) (by unfold rung; omega)]
  unfold val
  have := mag_lt (show 4890909195324358656 < 9218868437227405312 by omega)
  rw [h2, h3, show neg 14114281232179134464 = true from rfl, show rung 14114281232179134464 = 4890909195324358656 from rfl, if_pos (Eq.refl true)]
  split
  · rw [Int.compare_eq_lt.2 (by omega)]
  · rw [Int.compare_eq_gt.2 (by omega)]
theorem order_inf_pos (a : Nat) (h : rung a = 9218868437227405312) : FloatKind.f64.format.order (ceilB a) 4890909195324358656 = some (if neg a = true then .lt else .gt) := by
  obtain ⟨_, h2, h3⟩ := ceil_inf a h
  rw [order_val _ _ (Nat.le_of_eq h2) (by unfold rung; omega)]
  unfold val
  have := mag_lt (show 4890909195324358656 < 9218868437227405312 by omega)
  rw [h2, h3, show neg 4890909195324358656 = false from rfl, show rung 4890909195324358656 = 4890909195324358656 from rfl, if_neg (show ¬ false = true by decide)]
  split
  · rw [Int.compare_eq_lt.2 (by omega)]
  · rw [Int.compare_eq_gt.2 (by omega)]

/-- what Ticks answers -/
def ticksF (x : Nat) (lo hi : Int) : Int :=
  if hi < lo then lo else if isNaN x = true then lo else if rung x = 9218868437227405312 then (if neg x = true then lo else hi) else max lo (min hi (ceilI x))
/-- the five ways of a float, as the walk asks for them -/
theorem ceil_ways (x : Nat) (hx : isNaN x = false) :
    (FloatKind.f64.format.order (ceilB x) 14114281232179134464 = some .lt ∧ ((FloatKind.f64.format.order (ceilB x) 4890909195324358656 == some .gt || FloatKind.f64.format.order (ceilB x) 4890909195324358656 == some .eq) = false) ∧ ∀ lo hi : Int, lo ≤ hi → -9223372036854775808 ≤ lo → ticksF x lo hi = lo) ∨
    (FloatKind.f64.format.order (ceilB x) 14114281232179134464 ≠ some .lt ∧ ((FloatKind.f64.format.order (ceilB x) 4890909195324358656 == some .gt || FloatKind.f64.format.order (ceilB x) 4890909195324358656 == some .eq) = true) ∧
      ∀ lo hi : Int, lo ≤ hi → hi ≤ 9223372036854775807 → ticksF x lo hi = hi) ∨
    (FloatKind.f64.format.order (ceilB x) 14114281232179134464 ≠ some .lt ∧ ((FloatKind.f64.format.order (ceilB x) 4890909195324358656 == some .gt || FloatKind.f64.format.order (ceilB x) 4890909195324358656 == some .eq) = false) ∧
      floatToIntVal .f64 (ceilB x) .i64 = some (ceilI x) ∧ ∀ lo hi : Int, lo ≤ hi → ticksF x lo hi = max lo (min hi (ceilI x))) := by
  unfold ticksF
  rcases Nat.lt_or_eq_of_le (isNaN_false hx) with h | h
  · rw [order_ceil_neg x h, order_ceil_pos x h]
    have h' : ¬ rung x = 9218868437227405312 := by omega
    simp only [if_neg h']
    rcases Int.lt_or_le (ceilI x) (-9223372036854775808) with h1 | h1
    · refine .inl ⟨by rw [Int.compare_eq_lt.2 h1], by rw [Int.compare_eq_lt.2 (by omega)]; decide, fun lo hi h2 h3 => ?_⟩
      rw [if_neg (by omega), if_neg (by rw [hx]; decide)]; omega
    · have n1 : compare (ceilI x) (-9223372036854775808) ≠ .lt := fun h => by have := Int.compare_eq_lt.1 h; omega
      rcases Int.lt_or_le (ceilI x) 9223372036854775808 with h2 | h2
      · refine .inr (.inr ⟨fun h => n1 (Option.some.inj h), ?_, toInt_ceil x h h1 h2, fun lo hi h3 => ?_⟩)
        · rw [Int.compare_eq_lt.2 h2]; decide
        · rw [if_neg (by omega), if_neg (by rw [hx]; decide)]
      · refine .inr (.inl ⟨fun h => n1 (Option.some.inj h), ?_, fun lo hi h3 h4 => ?_⟩)
        · rcases Int.lt_or_eq_of_le h2 with h2 | h2
          · rw [Int.compare_eq_gt.2 h2]; decide
          · rw [Int.compare_eq_eq.2 h2.symm]; decide
        · rw [if_neg (by omega), if_neg (by rw [hx]; decide)]; omega
  · rw [order_inf_neg x h, order_inf_pos x h]
    simp only [if_pos h]
    cases hn : neg x
    · refine .inr (.inl ⟨by decide, by decide, fun lo hi h3 h4 => ?_⟩)
      rw [if_neg (by omega), if_neg (by rw [hx]; decide)]; rfl
    · refine .inl ⟨by decide, by decide, fun lo hi h3 h4 => ?_⟩
      rw [if_neg (by omega), if_neg (by rw [hx]; decide)]; rfl
end Go.Proofs.YtagofgadijeglaaDoor.Nm
