/- Plain mathematics: the order of texts; sums are canonical. No program. -/
import Derived.Test.YtlgmjkbaihpmmaaGreatValMath
import Derived.Laws.FloatBits
namespace Go.Proofs.YtlgmjkbaihpmmaaGreat.Vl
open Go Go.RowKit Go.Proofs.YtlgmjkbaihpmmaaGreat.Nm
theorem bytes_irrefl : ∀ s : List UInt8, ¬ s < s
  | [], h => by cases h
  | a :: r, h => by
    rcases List.cons_lt_cons_iff.1 h with h | ⟨_, h⟩
    · exact absurd h (UInt8.lt_irrefl a)
    · exact bytes_irrefl r h
theorem bytes_trans : ∀ s t u : List UInt8, s < t → t < u → s < u
  | [], _, [], _, h => by cases h
  | [], _, _ :: _, _, _ => List.nil_lt_cons ..
  | _ :: _, [], _, h, _ => by cases h
  | _ :: _, _ :: _, [], _, h => by cases h
  | a :: r, b :: q, c :: p, h, k => by
    rw [List.cons_lt_cons_iff] at h k ⊢
    rcases h with h | ⟨rfl, h⟩
    · rcases k with k | ⟨rfl, k⟩
      · exact .inl (UInt8.lt_trans h k)
      · exact .inl h
    · rcases k with k | ⟨rfl, k⟩
      · exact .inl k
      · exact .inr ⟨rfl, bytes_trans r q p h k⟩
theorem bytes_three : ∀ s t : List UInt8, s < t ∨ s = t ∨ t < s
  | [], [] => .inr (.inl rfl)
  | [], _ :: _ => .inl (List.nil_lt_cons ..)
  | _ :: _, [] => .inr (.inr (List.nil_lt_cons ..))
  | a :: r, b :: q => by
    rw [List.cons_lt_cons_iff, List.cons_lt_cons_iff]
    by_cases h : a < b
    · exact .inl (.inl h)
    · by_cases k : b < a
      · exact .inr (.inr (.inl k))
      · have e : a = b := UInt8.le_antisymm (UInt8.not_lt.1 k) (UInt8.not_lt.1 h)
        subst e
        rcases bytes_three r q with h | rfl | h
        · exact .inl (.inr ⟨rfl, h⟩)
        · exact .inr (.inl rfl)
        · exact .inr (.inr (.inr ⟨rfl, h⟩))
theorem canon_sumC (a b : Nat) : canon (sumC a b) = sumC a b := by
  unfold sumC
  split
  · exact canon_canon _
  · kernel_rfl
theorem canon_maxF {a b : Nat} (ca : canon a = a) (cb : canon b = b) : canon (maxF a b) = maxF a b := by
  unfold maxF
  split
  · kernel_rfl
  · split
    · kernel_rfl
    · split
      · exact cb
      · exact ca
theorem num_check {n : Nat} (h : canon n = n) : (V.mk 1 n (⟨#[]⟩ : ByteArray)).check = 0 := by
  simp [V.check, h]
  rfl
theorem sumC_lt (a b : Nat) : sumC a b < 18446744073709551616 := by
  unfold sumC
  split
  · rename_i r h
    have : r < 2 ^ 64 := Ieee.Format.add_lt _ h
    unfold canon
    split
    · decide
    · simpa using this
  · decide
end Go.Proofs.YtlgmjkbaihpmmaaGreat.Vl
