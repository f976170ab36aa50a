import Derived.Test.YtbheofibdogabaaGreatMergeSb0
import Derived.WalkKit
import Derived.WalkSpells
import Derived.WalkLawsBesides
import Derived.Lib.Hide
import Derived.Deep.Draws
import Derived.Sort.Walk0
import Derived.Laws.FloatBits
section
/- Walks of layer 1's functions. -/
namespace Go.Proofs.YtbheofibdogabaaGreat.Nm
open Go Go.RowKit
attribute [local go_sem] run_bits run_frombits
set_option maxHeartbeats 400000 in
theorem refCanon_any (a : Nat) (w : World) :
    Calls Tryz.prog 74 #[.float .f64 a] w fun e w' => e = .returned (.float .f64 (canon a)) ∧ w = w' := by
  cases h : isNaN a
  all_goals
    have h2 : (FloatKind.f64.format.order a a != some .eq) = _ := h
    go_enter Tryz.func74, Tryz.ntmps74
    go_wp2_with (first | (go_at_call 51; refine (refNaN_any _).mono ?_; rintro e w' ⟨rfl, rfl⟩))
    go_ret
    exact ⟨by simp [canon, h], rfl⟩

set_option maxHeartbeats 400000 in
theorem rank_any (a : Nat) (ha : a < 18446744073709551616) (w : World) :
    Calls Tryz.prog 128 #[.float .f64 a] w fun e w' => e = .returned (.int .u64 (rank a)) ∧ w = w' := by
  have H := Lib.hid (canon_lt ha)
  clear ha
  go_enter Tryz.func128, Tryz.ntmps128
  go_wp2_with (first | (go_at_call 71; refine (Canon_any _ _).mono ?_; rintro e w' ⟨rfl, rfl⟩))
  · go_ret
    exact ⟨ret_int (rank_hi _ H.out ‹_›), rfl⟩
  · go_ret
    exact ⟨ret_int (rank_lo _ H.out ‹_›), rfl⟩

theorem rank_hi2 (c : Nat) (hc : c < 18446744073709551616) (h : ((c : Int) / 9223372036854775808 == 1) = true) :
    bits .xor .u64 IntKind.u64.max (c : Int) = ((rankOf c : Nat) : Int) := by
  refine rank_hi c hc ?_
  rw [beq_iff_eq] at h
  rw [and_sign c hc, if_pos (by omega)]; rfl
theorem rank_lo2 (c : Nat) (hc : c < 18446744073709551616) (h : ((c : Int) / 9223372036854775808 == 1) = false) :
    bits .or .u64 (c : Int) 9223372036854775808 = ((rankOf c : Nat) : Int) := by
  refine rank_lo c hc ?_
  rw [beq_eq_false_iff_ne] at h
  rw [and_sign c hc, if_neg (by omega)]; rfl
set_option maxHeartbeats 400000 in
theorem refrank_any (a : Nat) (ha : a < 18446744073709551616) (w : World) :
    Calls Tryz.prog 127 #[.float .f64 a] w fun e w' => e = .returned (.int .u64 (rank a)) ∧ w = w' := by
  have H := Lib.hid (canon_lt ha)
  clear ha
  go_enter Tryz.func127, Tryz.ntmps127
  go_wp2_with (first | (go_at_call 74; refine (refCanon_any _ _).mono ?_; rintro e w' ⟨rfl, rfl⟩))
  · go_ret
    exact ⟨ret_int (rank_hi2 _ H.out ‹_›), rfl⟩
  · go_ret
    exact ⟨ret_int (rank_lo2 _ H.out ‹_›), rfl⟩

set_option maxHeartbeats 400000 in
theorem Less_any (a b : Nat) (ha : a < 18446744073709551616) (hb : b < 18446744073709551616) (w : World) :
    Calls Tryz.prog 124 #[.float .f64 a, .float .f64 b] w fun e w' => e = .returned (.bool (less a b)) ∧ w = w' := by
  go_enter Tryz.func124, Tryz.ntmps124
  go_wp2_with (first | (go_at_call 128; refine (rank_any _ (by assumption) _).mono ?_; rintro e w' ⟨rfl, rfl⟩))
  go_ret
  exact ⟨ret_bool (by unfold less; exact decide_eq_decide.2 (by omega)), rfl⟩
set_option maxHeartbeats 400000 in
theorem refLess_any (a b : Nat) (ha : a < 18446744073709551616) (hb : b < 18446744073709551616) (w : World) :
    Calls Tryz.prog 123 #[.float .f64 a, .float .f64 b] w fun e w' => e = .returned (.bool (less a b)) ∧ w = w' := by
  go_enter Tryz.func123, Tryz.ntmps123
  go_wp2_with (first | (go_at_call 127; refine (refrank_any _ (by assumption) _).mono ?_; rintro e w' ⟨rfl, rfl⟩))
  go_ret
  exact ⟨ret_bool (by unfold less; exact decide_eq_decide.2 (by omega)), rfl⟩

/-- the sum of two floats, before it is made one NaN -/
def addF (a b : Nat) : Option Nat := FloatKind.f64.format.add a b
def sumC (a b : Nat) : Nat := match addF a b with | some r => canon r | none => nanBits
def nanAt (w : World) (a b : Nat) : Nat := Question.cut (.nanBits .f64 a b) (w.tape w.drawn (.nanBits .f64 a b))
theorem run_add_some {a b r : Nat} (h : addF a b = some r) (t : TypeId) (w : World) : (binOp .add t (.float .f64 a) (.float .f64 b)).run Tryz.prog w = .ok (.float .f64 r) w :=
  run_float_arith w .add t .f64 a b r h
theorem run_add_none {a b : Nat} (h : addF a b = none) (t : TypeId) (w : World) : (binOp .add t (.float .f64 a) (.float .f64 b)).run Tryz.prog w = .ok (.float .f64 (nanAt w a b)) w.drew := by
  unfold addF at h
  simp [binOp, Op.floatArith, h, nanAt, Question.forced]
theorem nanAt_nan (w : World) (a b : Nat) : isNaN (nanAt w a b) = true ∧ nanAt w a b < 18446744073709551616 := by
  unfold nanAt
  generalize w.tape w.drawn (Question.nanBits FloatKind.f64 a b) = t
  rw [isNaN_iff, decide_eq_true_eq]
  constructor
  · show 9218868437227405312 < ((t % 2) * 9223372036854775808 + 9218868437227405312 + 1 + (t / 2) % 4503599627370495) % 9223372036854775808
    have h1 : (t / 2) % 4503599627370495 < 4503599627370495 := Nat.mod_lt _ (by omega)
    have h2 : t % 2 < 2 := Nat.mod_lt _ (by omega)
    generalize (t / 2) % 4503599627370495 = u at *
    generalize t % 2 = v at *
    have e : v * 9223372036854775808 + 9218868437227405312 + 1 + u = (9218868437227405312 + 1 + u) + v * 9223372036854775808 := by omega
    rw [e, Nat.add_mul_mod_self_right, Nat.mod_eq_of_lt (by omega)]
    omega
  · show (t % 2) * 9223372036854775808 + 9218868437227405312 + 1 + (t / 2) % 4503599627370495 < 18446744073709551616
    omega
set_option maxHeartbeats 400000 in
theorem Add_any (a b : Nat) (w : World) :
    Calls Tryz.prog 118 #[.float .f64 a, .float .f64 b] w fun e w' => e = .returned (.float .f64 (sumC a b)) ∧ ∃ n, w' = w.drewN n := by
  cases h : addF a b
  · have hr := fun t w => run_add_none h t w
    go_enter Tryz.func118, Tryz.ntmps118
    go_wp2_with (first | (go_at_call 71; refine (Canon_any _ _).mono ?_; rintro e w' ⟨rfl, rfl⟩))
    go_ret
    exact ⟨ret_float (by unfold sumC; rw [h]; exact canon_nan (nanAt_nan _ _ _).1), 1, rfl⟩
  · have hr := fun t w => run_add_some h t w
    go_enter Tryz.func118, Tryz.ntmps118
    go_wp2_with (first | (go_at_call 71; refine (Canon_any _ _).mono ?_; rintro e w' ⟨rfl, rfl⟩))
    go_ret
    exact ⟨ret_float (by unfold sumC; rw [h]), 0, rfl⟩


def maxF (a b : Nat) : Nat := if isNaN a = true then nanBits else if isNaN b = true then nanBits else if less a b = true then b else a
set_option maxHeartbeats 400000 in
theorem Max_any (a b : Nat) (ha : a < 18446744073709551616) (hb : b < 18446744073709551616) (w : World) :
    Calls Tryz.prog 119 #[.float .f64 a, .float .f64 b] w fun e w' => e = .returned (.float .f64 (maxF a b)) ∧ w = w' := by
  have hm : maxF a b = canon (if less a b = true then b else a) := by
    unfold maxF
    cases na : isNaN a
    · cases nb : isNaN b
      · cases h : less a b
        · simp [canon_num na]
        · simp [canon_num nb]
      · have : less a b = true := by
          unfold less; rw [decide_eq_true_eq, rank_nan nb]; exact rank_num_lt ha na
        simp [this, canon_nan nb]
    · have : less a b = false := by
        unfold less; rw [decide_eq_false_iff_not]; have := rank_le_nan hb na; omega
      simp [this, canon_nan na]
  have HM := Lib.hid hm
  clear hm
  cases h : less a b
  all_goals
    go_enter Tryz.func119, Tryz.ntmps119
    go_wp2_with (first | (go_at_call 71; refine (Canon_any _ _).mono ?_; rintro e w' ⟨rfl, rfl⟩) | (go_at_call 124; refine (Less_any _ _ (by assumption) (by assumption) _).mono ?_; rintro e w' ⟨rfl, rfl⟩))
    go_ret
    exact ⟨ret_float (by rw [HM.out, h]; rfl), rfl⟩
set_option maxHeartbeats 400000 in
theorem refMax_any (a b : Nat) (ha : a < 18446744073709551616) (hb : b < 18446744073709551616) (w : World) :
    Calls Tryz.prog 115 #[.float .f64 a, .float .f64 b] w fun e w' => e = .returned (.float .f64 (maxF a b)) ∧ w = w' := by
  cases h1 : isNaN a
  · have h1' : (FloatKind.f64.format.order a a != some .eq) = _ := h1
    cases h2 : isNaN b
    · have h2' : (FloatKind.f64.format.order b b != some .eq) = _ := h2
      cases h : less a b
      all_goals
        go_enter Tryz.func115, Tryz.ntmps115
        go_wp2_with (first | (go_at_call 51; refine (refNaN_any _).mono ?_; rintro e w' ⟨rfl, rfl⟩) | (go_at_call 123; refine (refLess_any _ _ (by assumption) (by assumption) _).mono ?_; rintro e w' ⟨rfl, rfl⟩))
        go_ret
        exact ⟨ret_float (by simp [maxF, h1, h2, h]), rfl⟩
    · have h2' : (FloatKind.f64.format.order b b != some .eq) = _ := h2
      go_enter Tryz.func115, Tryz.ntmps115
      go_wp2_with (first | (go_at_call 51; refine (refNaN_any _).mono ?_; rintro e w' ⟨rfl, rfl⟩))
      go_ret
      exact ⟨ret_float (by simp [maxF, h1, h2]), rfl⟩
  · have h1' : (FloatKind.f64.format.order a a != some .eq) = _ := h1
    go_enter Tryz.func115, Tryz.ntmps115
    go_wp2_with (first | (go_at_call 51; refine (refNaN_any _).mono ?_; rintro e w' ⟨rfl, rfl⟩))
    go_ret
    exact ⟨ret_float (by simp [maxF, h1]), rfl⟩
set_option maxHeartbeats 400000 in
theorem refAdd_any (a b : Nat) (w : World) :
    Calls Tryz.prog 114 #[.float .f64 a, .float .f64 b] w fun e w' => e = .returned (.float .f64 (sumC a b)) ∧ ∃ n, w' = w.drewN n := by
  cases h : addF a b
  · have hr := fun t w => run_add_none h t w
    go_enter Tryz.func114, Tryz.ntmps114
    go_wp2_with (first | (go_at_call 74; refine (refCanon_any _ _).mono ?_; rintro e w' ⟨rfl, rfl⟩))
    go_ret
    exact ⟨ret_float (by unfold sumC; rw [h]; exact canon_nan (nanAt_nan _ _ _).1), 1, rfl⟩
  · have hr := fun t w => run_add_some h t w
    go_enter Tryz.func114, Tryz.ntmps114
    go_wp2_with (first | (go_at_call 74; refine (refCanon_any _ _).mono ?_; rintro e w' ⟨rfl, rfl⟩))
    go_ret
    exact ⟨ret_float (by unfold sumC; rw [h]), 0, rfl⟩

def clampF (x lo hi : Nat) : Nat := if isNaN x = true then canon lo else if less x lo = true then canon lo else if less hi x = true then canon hi else x
end Go.Proofs.YtbheofibdogabaaGreat.Nm
end
section
/- Plain mathematics for layer 1's laws: what is greater, what is added. No program. -/
namespace Go.Proofs.YtbheofibdogabaaGreat.Nm
open Go Go.RowKit

theorem rank_nanBits : rank nanBits = 18444492273895866369 := by kernel_rfl
theorem rank_top {a : Nat} (ha : a < 18446744073709551616) : rank a ≤ 18444492273895866369 := by
  cases h : isNaN a
  · exact Nat.le_of_lt (rank_num_lt ha h)
  · exact Nat.le_of_eq (rank_nan h)
theorem rank_max {a b : Nat} (ha : a < 18446744073709551616) (hb : b < 18446744073709551616) : rank (maxF a b) = max (rank a) (rank b) ∧ maxF a b < 18446744073709551616 := by
  have ta := rank_top ha
  have tb := rank_top hb
  unfold maxF
  split
  · have := rank_nan (a := a) (by assumption)
    rw [rank_nanBits]; exact ⟨by omega, by unfold nanBits; omega⟩
  · split
    · have := rank_nan (a := b) (by assumption)
      rw [rank_nanBits]; exact ⟨by omega, by unfold nanBits; omega⟩
    · split
      · have h : less a b = true := by assumption
        unfold less at h; rw [decide_eq_true_eq] at h
        exact ⟨by omega, hb⟩
      · have h : ¬ less a b = true := by assumption
        unfold less at h; rw [decide_eq_true_eq] at h
        exact ⟨by omega, ha⟩
theorem same_rank {a b : Nat} (ha : a < 18446744073709551616) (hb : b < 18446744073709551616) : same a b = decide (rank a = rank b) := by
  unfold same; exact decide_eq_decide.2 (rank_inj ha hb).symm

/-- the greater one hangs on no order, is one of both, and no less than either -/
theorem max_facts {a b c : Nat} (ha : a < 18446744073709551616) (hb : b < 18446744073709551616) (hc : c < 18446744073709551616) :
    same (maxF a b) (maxF b a) = true ∧ same (maxF (maxF a b) c) (maxF a (maxF b c)) = true ∧ (same (maxF a b) a = true ∨ (same (maxF a b) a = false ∧ same (maxF a b) b = true)) ∧
    less (maxF a b) a = false ∧ less (maxF a b) b = false := by
  obtain ⟨r1, l1⟩ := rank_max ha hb
  obtain ⟨r2, l2⟩ := rank_max hb ha
  obtain ⟨r3, l3⟩ := rank_max l1 hc
  obtain ⟨r4, l4⟩ := rank_max hb hc
  obtain ⟨r5, l5⟩ := rank_max ha l4
  rw [same_rank l1 l2, same_rank l3 l5, same_rank l1 ha, same_rank l1 hb]
  unfold less
  simp only [decide_eq_true_eq, decide_eq_false_iff_not]
  refine ⟨by omega, by omega, by omega, by omega, by omega⟩

theorem sum_comm (x y : Ieee.Datum) : x.sum y = y.sum x := by
  cases x <;> cases y <;> simp only [Ieee.Datum.sum]
  · rename_i s m i t n j
    rw [Int.min_comm j i, Int.add_comm]
    congr 2
    split
    · rw [Bool.and_comm]
    · rfl
  · rename_i s t
    by_cases h : s = t
    · subst h; rfl
    · rw [if_neg h, if_neg (fun e => h e.symm)]
theorem addF_comm (a b : Nat) : addF a b = addF b a := by
  unfold addF Ieee.Format.add; rw [sum_comm]
theorem sumC_comm (a b : Nat) : sumC a b = sumC b a := by unfold sumC; rw [addF_comm]
end Go.Proofs.YtbheofibdogabaaGreat.Nm
end
section
/- Plain mathematics of layer 5: values, what is right, the same, ahead, their sums. No program. -/
namespace Go.Proofs.YtbheofibdogabaaGreat.Vl
open Go Go.RowKit Go.Proofs.YtbheofibdogabaaGreat.Nm
def V.less (a b : V) : Bool :=
  if a.kind ≠ b.kind then decide (a.kind < b.kind)
  else if Nm.same a.num b.num = true then decide (a.text.data.toList < b.text.data.toList)
  else Nm.less a.num b.num
/-- two values joined, and the error -/
def joined (f : Nat → Nat → Nat) (a b : V) : V × Int :=
  if a.check ≠ 0 then (V.zero, a.check) else if b.check ≠ 0 then (V.zero, b.check)
  else if a.kind = 0 then (b, 0) else if a.kind ≠ 1 ∨ b.kind ≠ 1 then (V.zero, 8)
  else (⟨1, f a.num b.num, (⟨#[]⟩ : ByteArray)⟩, 0)
theorem same_refl (x : Nat) : Nm.same x x = true := by unfold Nm.same; simp
theorem V.same_refl (v : V) : v.same v = true := by simp [V.same, Vl.same_refl]
/-- right values that are the same are one -/
theorem same_right {a b : V} (ha : a.check = 0) (hb : b.check = 0) : a.same b = true ↔ a = b := by
  constructor
  · intro h
    simp only [V.same, Bool.and_eq_true, decide_eq_true_eq] at h
    have h2 := h.1.2
    unfold Nm.same at h2
    rw [decide_eq_true_eq, (check_zero ha).2.2.2.2, (check_zero hb).2.2.2.2] at h2
    exact V.ext h.1.1 h2 h.2
  · rintro rfl; exact V.same_refl _
end Go.Proofs.YtbheofibdogabaaGreat.Vl
end
section
/- Plain mathematics: the order of texts; sums are canonical. No program. -/
namespace Go.Proofs.YtbheofibdogabaaGreat.Vl
open Go Go.RowKit Go.Proofs.YtbheofibdogabaaGreat.Nm
theorem bytes_irrefl : ∀ s : List UInt8, ¬ s < s
  | [], h => by cases h
  | a :: r, h => by
    rcases List.cons_lt_cons_iff.1 h with h | ⟨_, h⟩
    · exact absurd h (UInt8.lt_irrefl a)
    · exact bytes_irrefl r h
theorem bytes_trans : ∀ s t u : List UInt8, s < t → t < u → s < u
  | [], _, [], _, h => by cases h
  | [], _, _ :: _, _, _ => List.nil_lt_cons ..
  | _ :: _, [], _, h, _ => by cases h
  | _ :: _, _ :: _, [], _, h => by cases h
  | a :: r, b :: q, c :: p, h, k => by
    rw [List.cons_lt_cons_iff] at h k ⊢
    rcases h with h | ⟨rfl, h⟩
    · rcases k with k | ⟨rfl, k⟩
      · exact .inl (UInt8.lt_trans h k)
      · exact .inl h
    · rcases k with k | ⟨rfl, k⟩
      · exact .inl k
      · exact .inr ⟨rfl, bytes_trans r q p h k⟩
theorem bytes_three : ∀ s t : List UInt8, s < t ∨ s = t ∨ t < s
  | [], [] => .inr (.inl rfl)
  | [], _ :: _ => .inl (List.nil_lt_cons ..)
  | _ :: _, [] => .inr (.inr (List.nil_lt_cons ..))
  | a :: r, b :: q => by
    rw [List.cons_lt_cons_iff, List.cons_lt_cons_iff]
    by_cases h : a < b
    · exact .inl (.inl h)
    · by_cases k : b < a
      · exact .inr (.inr (.inl k))
      · have e : a = b := UInt8.le_antisymm (UInt8.not_lt.1 k) (UInt8.not_lt.1 h)
        subst e
        rcases bytes_three r q with h | rfl | h
        · exact .inl (.inr ⟨rfl, h⟩)
        · exact .inr (.inl rfl)
        · exact .inr (.inr (.inr ⟨rfl, h⟩))
theorem canon_sumC (a b : Nat) : canon (sumC a b) = sumC a b := by
  unfold sumC
  split
  · exact canon_canon _
  · kernel_rfl
theorem canon_maxF {a b : Nat} (ca : canon a = a) (cb : canon b = b) : canon (maxF a b) = maxF a b := by
  unfold maxF
  split
  · kernel_rfl
  · split
    · kernel_rfl
    · split
      · exact cb
      · exact ca
theorem num_check {n : Nat} (h : canon n = n) : (V.mk 1 n (⟨#[]⟩ : ByteArray)).check = 0 := by
  simp [V.check, h]
  rfl
theorem sumC_lt (a b : Nat) : sumC a b < 18446744073709551616 := by
  unfold sumC
  split
  · rename_i r h
    have : r < 2 ^ 64 := Ieee.Format.add_lt _ h
    unfold canon
    split
    · decide
    · simpa using this
  · decide
end Go.Proofs.YtbheofibdogabaaGreat.Vl
end
