/- Plain mathematics for layer 5's laws: the order of values, what is joined. No program. -/
import Derived.Test.YtekbeicoeoajoaaDoorValText
namespace Go.Proofs.YtekbeicoeoajoaaDoor.Vl
open Go Go.RowKit Go.Proofs.YtekbeicoeoajoaaDoor.Nm

theorem bytes_irrefl : ∀ s : List UInt8, ¬ s < s
  | [], h => by cases h
  | a :: r, h => by
    rcases List.cons_lt_cons_iff.1 h with h | ⟨_, h⟩
    · exact absurd h (UInt8.lt_irrefl a)
    · exact bytes_irrefl r h
theorem bytes_trans : ∀ s t u : List UInt8, s < t → t < u → s < u
  | [], _, [], _, h => by cases h
  | [], _, _ :: _, _, _ => List.nil_lt_cons ..
  | _ :: _, [], _, h, _ => by cases h
  | _ :: _, _ :: _, [], _, h => by cases h
  | a :: r, b :: q, c :: p, h, k => by
    rw [List.cons_lt_cons_iff] at h k ⊢
    rcases h with h | ⟨rfl, h⟩
    · rcases k with k | ⟨rfl, k⟩
      · exact .inl (UInt8.lt_trans h k)
      · exact .inl h
    · rcases k with k | ⟨rfl, k⟩
      · exact .inl k
      · exact .inr ⟨rfl, bytes_trans r q p h k⟩
theorem bytes_three : ∀ s t : List UInt8, s < t ∨ s = t ∨ t < s
  | [], [] => .inr (.inl rfl)
  | [], _ :: _ => .inl (List.nil_lt_cons ..)
  | _ :: _, [] => .inr (.inr (List.nil_lt_cons ..))
  | a :: r, b :: q => by
    rw [List.cons_lt_cons_iff, List.cons_lt_cons_iff]
    by_cases h : a < b
    · exact .inl (.inl h)
    · by_cases k : b < a
      · exact .inr (.inr (.inl k))
      · have e : a = b := UInt8.le_antisymm (UInt8.not_lt.1 k) (UInt8.not_lt.1 h)
        subst e
        rcases bytes_three r q with h | rfl | h
        · exact .inl (.inr ⟨rfl, h⟩)
        · exact .inr (.inl rfl)
        · exact .inr (.inr (.inr ⟨rfl, h⟩))
theorem text_iff {s t : ByteArray} : s = t ↔ s.data.toList = t.data.toList :=
  ⟨fun h => by rw [h], fun h => (of_list rfl).trans ((congrArg (fun l : List UInt8 => (⟨l.toArray⟩ : ByteArray)) h).trans (of_list rfl).symm)⟩
/-- the order, spelled out -/
theorem less_iff {a b : V} (ha : a.num < 18446744073709551616) (hb : b.num < 18446744073709551616) :
    a.less b = true ↔ a.kind < b.kind ∨ a.kind = b.kind ∧ (rank a.num < rank b.num ∨ rank a.num = rank b.num ∧ a.text.data.toList < b.text.data.toList) := by
  unfold V.less
  by_cases h : a.kind = b.kind
  · rw [if_neg (by simpa using h)]
    rw [same_rank ha hb]
    by_cases k : rank a.num = rank b.num
    · rw [if_pos (by simpa using k), decide_eq_true_eq]
      constructor
      · exact fun e => .inr ⟨h, .inr ⟨k, e⟩⟩
      · rintro (e | ⟨_, e | ⟨_, e⟩⟩)
        · omega
        · omega
        · exact e
    · rw [if_neg (by simpa using k)]
      unfold Nm.less
      rw [decide_eq_true_eq]
      constructor
      · exact fun e => .inr ⟨h, .inl e⟩
      · rintro (e | ⟨_, e | ⟨e, _⟩⟩)
        · omega
        · exact e
        · exact absurd e k
  · rw [if_pos h, decide_eq_true_eq]
    constructor
    · exact .inl
    · rintro (e | ⟨e, _⟩)
      · exact e
      · exact absurd e h
theorem same_iff {a b : V} (ha : a.num < 18446744073709551616) (hb : b.num < 18446744073709551616) :
    a.same b = true ↔ a.kind = b.kind ∧ rank a.num = rank b.num ∧ a.text.data.toList = b.text.data.toList := by
  unfold V.same
  rw [same_rank ha hb, Bool.and_eq_true, Bool.and_eq_true, decide_eq_true_eq, decide_eq_true_eq, decide_eq_true_eq, text_iff, and_assoc]
theorem bool_false {b : Bool} (h : ¬ b = true) : b = false := by cases b <;> simp_all
/-- of two values one stands ahead, or they are the same -/
theorem order_three {a b : V} (ha : a.num < 18446744073709551616) (hb : b.num < 18446744073709551616) :
    (a.less b = true ∧ b.less a = false ∧ a.same b = false) ∨ (a.less b = false ∧ b.less a = true ∧ a.same b = false) ∨ (a.less b = false ∧ b.less a = false ∧ a.same b = true) := by
  have l1 := less_iff ha hb
  have l2 := less_iff hb ha
  have l3 := same_iff ha hb
  have i1 := bytes_irrefl a.text.data.toList
  rcases Int.lt_trichotomy a.kind b.kind with hk | hk | hk
  · exact .inl ⟨l1.2 (.inl hk), bool_false fun h => by rcases l2.1 h with h | ⟨h, _⟩ <;> omega, bool_false fun h => by have := (l3.1 h).1; omega⟩
  · rcases Nat.lt_trichotomy (rank a.num) (rank b.num) with hr | hr | hr
    · exact .inl ⟨l1.2 (.inr ⟨hk, .inl hr⟩), bool_false fun h => by rcases l2.1 h with h | ⟨_, h | ⟨h, _⟩⟩ <;> omega, bool_false fun h => by have := (l3.1 h).2.1; omega⟩
    · rcases bytes_three a.text.data.toList b.text.data.toList with ht | ht | ht
      · refine .inl ⟨l1.2 (.inr ⟨hk, .inr ⟨hr, ht⟩⟩), bool_false fun h => ?_, bool_false fun h => ?_⟩
        · rcases l2.1 h with h | ⟨_, h | ⟨_, h⟩⟩
          · omega
          · omega
          · exact i1 (bytes_trans _ _ _ ht h)
        · rw [← (l3.1 h).2.2] at ht
          exact i1 ht
      · refine .inr (.inr ⟨bool_false fun h => ?_, bool_false fun h => ?_, l3.2 ⟨hk, hr, ht⟩⟩)
        · rcases l1.1 h with h | ⟨_, h | ⟨_, h⟩⟩
          · omega
          · omega
          · rw [← ht] at h; exact i1 h
        · rcases l2.1 h with h | ⟨_, h | ⟨_, h⟩⟩
          · omega
          · omega
          · rw [← ht] at h; exact i1 h
      · refine .inr (.inl ⟨bool_false fun h => ?_, l2.2 (.inr ⟨hk.symm, .inr ⟨hr.symm, ht⟩⟩), bool_false fun h => ?_⟩)
        · rcases l1.1 h with h | ⟨_, h | ⟨_, h⟩⟩
          · omega
          · omega
          · exact i1 (bytes_trans _ _ _ h ht)
        · rw [← (l3.1 h).2.2] at ht
          exact i1 ht
    · exact .inr (.inl ⟨bool_false fun h => by rcases l1.1 h with h | ⟨_, h | ⟨h, _⟩⟩ <;> omega, l2.2 (.inr ⟨hk.symm, .inl hr⟩), bool_false fun h => by have := (l3.1 h).2.1; omega⟩)
  · exact .inr (.inl ⟨bool_false fun h => by rcases l1.1 h with h | ⟨h, _⟩ <;> omega, l2.2 (.inl hk), bool_false fun h => by have := (l3.1 h).1; omega⟩)
theorem order_trans {a b c : V} (ha : a.num < 18446744073709551616) (hb : b.num < 18446744073709551616) (hc : c.num < 18446744073709551616) (h : a.less b = true) (k : b.less c = true) : a.less c = true := by
  rw [less_iff ha hb] at h
  rw [less_iff hb hc] at k
  rw [less_iff ha hc]
  rcases h with h | ⟨h, h2⟩
  · rcases k with k | ⟨k, _⟩
    · exact .inl (by omega)
    · exact .inl (by omega)
  · rcases k with k | ⟨k, k2⟩
    · exact .inl (by omega)
    · refine .inr ⟨h.trans k, ?_⟩
      rcases h2 with h2 | ⟨h2, h3⟩
      · rcases k2 with k2 | ⟨k2, _⟩
        · exact .inl (by omega)
        · exact .inl (by omega)
      · rcases k2 with k2 | ⟨k2, k3⟩
        · exact .inl (by omega)
        · exact .inr ⟨by omega, bytes_trans _ _ _ h3 k3⟩
/-- what is joined is right, or an error of the wrong type -/
theorem canon_sumC (a b : Nat) : canon (sumC a b) = sumC a b := by
  unfold sumC
  split
  · exact canon_canon _
  · kernel_rfl
theorem canon_maxF {a b : Nat} (ca : canon a = a) (cb : canon b = b) : canon (maxF a b) = maxF a b := by
  unfold maxF
  split
  · kernel_rfl
  · split
    · kernel_rfl
    · split
      · exact cb
      · exact ca
theorem num_check {n : Nat} (h : canon n = n) : (V.mk 1 n (⟨#[]⟩ : ByteArray)).check = 0 := by
  simp [V.check, h]
  rfl
/-- the five facts of a join: the sum is right where there is no error, one's error is the wrong type, nothing leaves the other one, what is joined hangs on no order -/
structure Joins (f : Nat → Nat → Nat) (a b : V) : Prop where
  right : (joined f a b).2 = 0 → (joined f a b).1.check = 0
  err : (joined f a b).2 ≠ 0 → (joined f a b).2 = 8
  none : a.kind = 0 → (joined f a b).2 = 0 ∧ (joined f a b).1.same b = true
  comm : (joined f a b).2 = 0 → (joined f b a).2 = 0 → a.kind = b.kind → (joined f a b).1.same (joined f b a).1 = true
theorem joins_of {f : Nat → Nat → Nat} {a b : V} (ha : a.check = 0) (hb : b.check = 0) (hf : canon (f a.num b.num) = f a.num b.num) (hc : Nm.same (f a.num b.num) (f b.num a.num) = true) : Joins f a b := by
  have ea : joined f a b = if a.kind = 0 then (b, 0) else if a.kind ≠ 1 ∨ b.kind ≠ 1 then (V.zero, 8) else (⟨1, f a.num b.num, (⟨#[]⟩ : ByteArray)⟩, 0) := by
    unfold joined; rw [if_neg (by omega), if_neg (by omega)]
  have eb : joined f b a = if b.kind = 0 then (a, 0) else if b.kind ≠ 1 ∨ a.kind ≠ 1 then (V.zero, 8) else (⟨1, f b.num a.num, (⟨#[]⟩ : ByteArray)⟩, 0) := by
    unfold joined; rw [if_neg (by omega), if_neg (by omega)]
  constructor
  · rw [ea]
    split
    · exact fun _ => hb
    · split
      · intro h; cases h
      · exact fun _ => num_check hf
  · rw [ea]
    split
    · exact fun h => absurd rfl h
    · split
      · exact fun _ => rfl
      · exact fun h => absurd rfl h
  · intro h
    rw [ea, if_pos h]
    exact ⟨rfl, V.same_refl b⟩
  · rw [ea, eb]
    intro h1 h2 hk
    by_cases k0 : a.kind = 0
    · rw [if_pos k0, if_pos (by omega)]
      have oa := check_zero ha
      have ob := check_zero hb
      have e : a = b := V.ext hk (by rw [oa.2.2.2.1 (by omega), ob.2.2.2.1 (by omega)]) ((empty_of (oa.2.2.1 (by omega))).trans (empty_of (ob.2.2.1 (by omega))).symm)
      rw [e]; exact V.same_refl b
    · rw [if_neg k0] at h1 ⊢
      have kb : b.kind ≠ 0 := by omega
      rw [if_neg kb] at h2 ⊢
      by_cases k1 : a.kind = 1
      · have l1 : b.kind = 1 := by omega
        simp [V.same, hc, k1, l1]
      · rw [if_pos (.inl k1)] at h1
        cases h1
theorem joins_sum {a b : V} (ha : a.check = 0) (hb : b.check = 0) : Joins sumC a b := joins_of ha hb (canon_sumC _ _) (by rw [sumC_comm]; exact Nm.same_refl _)
theorem joins_max {a b : V} (na : a.num < 18446744073709551616) (nb : b.num < 18446744073709551616) (ha : a.check = 0) (hb : b.check = 0) : Joins maxF a b :=
  joins_of ha hb (canon_maxF (check_zero ha).2.2.2.2 (check_zero hb).2.2.2.2) (max_facts na nb nb).1
end Go.Proofs.YtekbeicoeoajoaaDoor.Vl
