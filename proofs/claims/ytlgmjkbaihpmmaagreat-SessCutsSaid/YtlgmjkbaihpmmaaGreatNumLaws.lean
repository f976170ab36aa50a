/- Plain mathematics for layer 1's laws: what is greater, what is added. No program. -/
import Derived.Test.YtlgmjkbaihpmmaaGreatNumWalks
namespace Go.Proofs.YtlgmjkbaihpmmaaGreat.Nm
open Go Go.RowKit

theorem rank_nanBits : rank nanBits = 18444492273895866369 := by kernel_rfl
theorem rank_top {a : Nat} (ha : a < 18446744073709551616) : rank a ≤ 18444492273895866369 := by
  cases h : isNaN a
  · exact Nat.le_of_lt (rank_num_lt ha h)
  · exact Nat.le_of_eq (rank_nan h)
theorem rank_max {a b : Nat} (ha : a < 18446744073709551616) (hb : b < 18446744073709551616) : rank (maxF a b) = max (rank a) (rank b) ∧ maxF a b < 18446744073709551616 := by
  have ta := rank_top ha
  have tb := rank_top hb
  unfold maxF
  split
  · have := rank_nan (a := a) (by assumption)
    rw [rank_nanBits]; exact ⟨by omega, by unfold nanBits; omega⟩
  · split
    · have := rank_nan (a := b) (by assumption)
      rw [rank_nanBits]; exact ⟨by omega, by unfold nanBits; omega⟩
    · split
      · have h : less a b = true := by assumption
        unfold less at h; rw [decide_eq_true_eq] at h
        exact ⟨by omega, hb⟩
      · have h : ¬ less a b = true := by assumption
        unfold less at h; rw [decide_eq_true_eq] at h
        exact ⟨by omega, ha⟩
theorem same_rank {a b : Nat} (ha : a < 18446744073709551616) (hb : b < 18446744073709551616) : same a b = decide (rank a = rank b) := by
  unfold same; exact decide_eq_decide.2 (rank_inj ha hb).symm

/-- the greater one hangs on no order, is one of both, and no less than either -/
theorem max_facts {a b c : Nat} (ha : a < 18446744073709551616) (hb : b < 18446744073709551616) (hc : c < 18446744073709551616) :
    same (maxF a b) (maxF b a) = true ∧ same (maxF (maxF a b) c) (maxF a (maxF b c)) = true ∧ (same (maxF a b) a = true ∨ (same (maxF a b) a = false ∧ same (maxF a b) b = true)) ∧
    less (maxF a b) a = false ∧ less (maxF a b) b = false := by
  obtain ⟨r1, l1⟩ := rank_max ha hb
  obtain ⟨r2, l2⟩ := rank_max hb ha
  obtain ⟨r3, l3⟩ := rank_max l1 hc
  obtain ⟨r4, l4⟩ := rank_max hb hc
  obtain ⟨r5, l5⟩ := rank_max ha l4
  rw [same_rank l1 l2, same_rank l3 l5, same_rank l1 ha, same_rank l1 hb]
  unfold less
  simp only [decide_eq_true_eq, decide_eq_false_iff_not]
  refine ⟨by omega, by omega, by omega, by omega, by omega⟩

theorem sum_comm (x y : Ieee.Datum) : x.sum y = y.sum x := by
  cases x <;> cases y <;> simp only [Ieee.Datum.sum]
  · rename_i s m i t n j
    rw [Int.min_comm j i, Int.add_comm]
    congr 2
    split
    · rw [Bool.and_comm]
    · rfl
  · rename_i s t
    by_cases h : s = t
    · subst h; rfl
    · rw [if_neg h, if_neg (fun e => h e.symm)]
theorem addF_comm (a b : Nat) : addF a b = addF b a := by
  unfold addF Ieee.Format.add; rw [sum_comm]
theorem sumC_comm (a b : Nat) : sumC a b = sumC b a := by unfold sumC; rw [addF_comm]
end Go.Proofs.YtlgmjkbaihpmmaaGreat.Nm
