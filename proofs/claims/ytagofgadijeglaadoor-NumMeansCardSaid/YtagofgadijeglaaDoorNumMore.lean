/- Plain mathematics for layer 1's laws: what is greater, what is cut, what rises. No program. -/
import Derived.Test.YtagofgadijeglaaDoorNumTicks
namespace Go.Proofs.YtagofgadijeglaaDoor.Nm
open Go Go.RowKit

theorem rank_nanBits : rank nanBits = 18444492273895866369 := by kernel_rfl
theorem rank_top {a : Nat} (ha : a < 18446744073709551616) : rank a ≤ 18444492273895866369 := by
  cases h : isNaN a
  · exact Nat.le_of_lt (rank_num_lt ha h)
  · exact Nat.le_of_eq (rank_nan h)
theorem rank_max {a b : Nat} (ha : a < 18446744073709551616) (hb : b < 18446744073709551616) : rank (maxF a b) = max (rank a) (rank b) ∧ maxF a b < 18446744073709551616 := by
  have ta := rank_top ha
  have tb := rank_top hb
  unfold maxF
  split
  · have := rank_nan (a := a) (by assumption)
    rw [rank_nanBits]; exact ⟨by omega, by unfold nanBits; omega⟩
  · split
    · have := rank_nan (a := b) (by assumption)
      rw [rank_nanBits]; exact ⟨by omega, by unfold nanBits; omega⟩
    · split
      · have h : less a b = true := by assumption
        unfold less at h; rw [decide_eq_true_eq] at h
        exact ⟨by omega, hb⟩
      · have h : ¬ less a b = true := by assumption
        unfold less at h; rw [decide_eq_true_eq] at h
        exact ⟨by omega, ha⟩
theorem same_rank {a b : Nat} (ha : a < 18446744073709551616) (hb : b < 18446744073709551616) : same a b = decide (rank a = rank b) := by
  unfold same; exact decide_eq_decide.2 (rank_inj ha hb).symm

/-- the greater one hangs on no order, is one of both, and no less than either -/
theorem max_facts {a b c : Nat} (ha : a < 18446744073709551616) (hb : b < 18446744073709551616) (hc : c < 18446744073709551616) :
    same (maxF a b) (maxF b a) = true ∧ same (maxF (maxF a b) c) (maxF a (maxF b c)) = true ∧ (same (maxF a b) a = true ∨ (same (maxF a b) a = false ∧ same (maxF a b) b = true)) ∧
    less (maxF a b) a = false ∧ less (maxF a b) b = false := by
  obtain ⟨r1, l1⟩ := rank_max ha hb
  obtain ⟨r2, l2⟩ := rank_max hb ha
  obtain ⟨r3, l3⟩ := rank_max l1 hc
  obtain ⟨r4, l4⟩ := rank_max hb hc
  obtain ⟨r5, l5⟩ := rank_max ha l4
  rw [same_rank l1 l2, same_rank l3 l5, same_rank l1 ha, same_rank l1 hb]
  unfold less
  simp only [decide_eq_true_eq, decide_eq_false_iff_not]
  refine ⟨by omega, by omega, by omega, by omega, by omega⟩

theorem sum_comm (x y : Ieee.Datum) : x.sum y = y.sum x := by
  cases x <;> cases y <;> simp only [Ieee.Datum.sum]
  · rename_i s m i t n j
    rw [Int.min_comm j i, Int.add_comm]
    congr 2
    split
    · rw [Bool.and_comm]
    · rfl
  · rename_i s t
    by_cases h : s = t
    · subst h; rfl
    · rw [if_neg h, if_neg (fun e => h e.symm)]
theorem addF_comm (a b : Nat) : addF a b = addF b a := by
  unfold addF Ieee.Format.add; rw [sum_comm]
theorem sumC_comm (a b : Nat) : sumC a b = sumC b a := by unfold sumC; rw [addF_comm]

/-- what is cut to a span that is one -/
theorem clamp_rank {x a b : Nat} (hx : x < 18446744073709551616) (ha : a < 18446744073709551616) (hb : b < 18446744073709551616) (na : isNaN a = false) (nb : isNaN b = false) (hab : rank a ≤ rank b) :
    clampF x a b < 18446744073709551616 ∧
    ((isNaN x = true → rank (clampF x a b) = rank a) ∧ (isNaN x = false → rank (clampF x a b) = max (rank a) (min (rank b) (rank x)))) ∧
    (isNaN x = false → less x a = false → less b x = false → clampF x a b = x) := by
  unfold clampF
  rw [canon_num na, canon_num nb]
  unfold less
  cases h : isNaN x
  · simp only [Bool.false_eq_true, if_false, decide_eq_true_eq, decide_eq_false_iff_not, false_implies, true_implies, true_and]
    split
    · exact ⟨ha, by omega, fun h1 => absurd (by assumption) h1⟩
    · split
      · exact ⟨hb, by omega, fun _ h1 => absurd (by assumption) h1⟩
      · exact ⟨hx, by omega, fun _ _ => rfl⟩
  · simp [ha]

theorem ceil_span (a : Nat) : (ceilI a - 1) * (U : Int) < val a ∧ val a ≤ ceilI a * (U : Int) := by
  unfold ceilI ceilN val
  have hU := U_pos
  generalize mag (rung a) = A
  have h1 := Nat.div_add_mod A U
  have h2 := Nat.mod_lt A hU
  generalize A / U = q at *
  generalize A % U = r at *
  generalize U = u at *
  have e : (A : Int) = (q : Int) * (u : Int) + (r : Int) := by rw [← h1, Int.natCast_add, Int.natCast_mul, Int.mul_comm]
  cases neg a
  · simp only [Bool.false_eq_true, if_false]
    by_cases h0 : r = 0
    · subst h0
      rw [if_pos rfl, e]
      simp only [Nat.add_zero, Int.sub_mul, Int.one_mul]
      generalize (q : Int) * (u : Int) = p
      omega
    · rw [if_neg h0, e]
      simp only [Int.natCast_add, Int.sub_mul, Int.add_mul, Int.one_mul, Int.natCast_one]
      generalize (q : Int) * (u : Int) = p
      omega
  · simp only [if_true]
    rw [e]
    simp only [Int.sub_mul, Int.neg_mul, Int.one_mul]
    generalize (q : Int) * (u : Int) = p
    omega
theorem ceil_mono {x y : Nat} (h : val x ≤ val y) : ceilI x ≤ ceilI y := by
  rcases Int.lt_or_le (ceilI y) (ceilI x) with h1 | h1
  · have a := (ceil_span x).1
    have b := (ceil_span y).2
    have c : ceilI y * (U : Int) ≤ (ceilI x - 1) * (U : Int) := Int.mul_le_mul_of_nonneg_right (by omega) (Int.natCast_nonneg _)
    omega
  · exact h1
theorem ticks_within (x : Nat) (lo hi : Int) (h : lo ≤ hi) : lo ≤ ticksF x lo hi ∧ ticksF x lo hi ≤ hi := by
  unfold ticksF
  rw [if_neg (by omega)]
  split
  · omega
  · split
    · split <;> omega
    · omega
theorem ticks_mono {x y : Nat} (hx : x < 18446744073709551616) (hy : y < 18446744073709551616) (ny : isNaN y = false) (h : rank x ≤ rank y) (lo hi : Int) : ticksF x lo hi ≤ ticksF y lo hi := by
  by_cases hlh : hi < lo
  · unfold ticksF; rw [if_pos hlh, if_pos hlh]; exact Int.le_refl _
  · have wx := ticks_within x lo hi (by omega)
    have wy := ticks_within y lo hi (by omega)
    have nx : isNaN x = false := by
      cases e : isNaN x
      · rfl
      · have := rank_nan e; have := rank_num_lt hy ny; omega
    have hv := rank_lt hx hy nx ny h
    have rx := isNaN_false nx
    have ry := isNaN_false ny
    have ex : ticksF x lo hi = if rung x = 9218868437227405312 then (if neg x = true then lo else hi) else max lo (min hi (ceilI x)) := by
      unfold ticksF; rw [if_neg hlh, if_neg (by rw [nx]; decide)]
    have ey : ticksF y lo hi = if rung y = 9218868437227405312 then (if neg y = true then lo else hi) else max lo (min hi (ceilI y)) := by
      unfold ticksF; rw [if_neg hlh, if_neg (by rw [ny]; decide)]
    by_cases ix : rung x = 9218868437227405312
    · cases sx : neg x
      · -- x is infinity: so is y
        have : rung y = 9218868437227405312 ∧ neg y = false := by
          unfold val at hv
          rw [sx, ix] at hv
          cases sy : neg y
          · rw [sy] at hv
            rcases Nat.lt_or_eq_of_le ry with h1 | h1
            · have := mag_lt h1; simp at hv; omega
            · exact ⟨h1, rfl⟩
          · rw [sy] at hv
            have : 0 < mag 9218868437227405312 := mag_pos (by omega)
            simp at hv; omega
        rw [ey, this.1, this.2, if_pos rfl, if_neg (by decide)]; exact wx.2
      · rw [ex, ix, sx, if_pos rfl, if_pos rfl]; exact wy.1
    · by_cases iy : rung y = 9218868437227405312
      · cases sy : neg y
        · rw [ey, iy, sy, if_pos rfl, if_neg (by decide)]; exact wx.2
        · exfalso
          unfold val at hv
          rw [sy, iy] at hv
          have h1 := mag_lt (show rung x < 9218868437227405312 by omega)
          cases sx : neg x
          · rw [sx] at hv; simp at hv; omega
          · rw [sx] at hv; simp at hv; omega
      · have := ceil_mono hv
        rw [ex, ey, if_neg ix, if_neg iy]
        omega
theorem clamp_mono {x y a b : Nat} (hx : x < 18446744073709551616) (hy : y < 18446744073709551616) (ha : a < 18446744073709551616) (hb : b < 18446744073709551616) (na : isNaN a = false) (nb : isNaN b = false) (ny : isNaN y = false)
    (hab : rank a ≤ rank b) (h : rank x ≤ rank y) : less (clampF y a b) (clampF x a b) = false := by
  have nx : isNaN x = false := by
    cases e : isNaN x
    · rfl
    · have := rank_nan e; have := rank_num_lt hy ny; omega
  have h1 := (clamp_rank hx ha hb na nb hab).2.1.2 nx
  have h2 := (clamp_rank hy ha hb na nb hab).2.1.2 ny
  unfold less
  rw [decide_eq_false_iff_not]
  omega
end Go.Proofs.YtagofgadijeglaaDoor.Nm
