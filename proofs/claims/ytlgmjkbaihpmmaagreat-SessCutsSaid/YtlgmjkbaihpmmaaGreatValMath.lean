/- Plain mathematics of layer 5: values, what is right, the same, ahead, their sums. No program. -/
import Derived.Test.YtlgmjkbaihpmmaaGreatNumLaws
import Derived.Sort.Walk0
namespace Go.Proofs.YtlgmjkbaihpmmaaGreat.Vl
open Go Go.RowKit Go.Proofs.YtlgmjkbaihpmmaaGreat.Nm

structure V where
  kind : Int
  num : Nat
  text : ByteArray
@[reducible] def V.val (v : V) : Value := .agg #[.int .i64 v.kind, .float .f64 v.num, .string v.text]
@[reducible] def V.zero : V := ⟨0, 0, (⟨#[]⟩ : ByteArray)⟩
/-- what is known of any value -/
structure V.In (v : V) : Prop where
  lo : -9223372036854775808 ≤ v.kind
  hi : v.kind ≤ 9223372036854775807
  num : v.num < 18446744073709551616
  text : v.text.size ≤ 2000
def V.check (v : V) : Int :=
  if v.kind < 0 ∨ 2 < v.kind then 15
  else if v.kind = 2 ∧ 32 < v.text.size then 2
  else if v.kind ≠ 2 ∧ v.text.size ≠ 0 ∨ v.kind ≠ 1 ∧ v.num ≠ 0 then 8
  else if canon v.num ≠ v.num then 8 else 0
def V.same (a b : V) : Bool := decide (a.kind = b.kind) && Nm.same a.num b.num && decide (a.text = b.text)
def V.less (a b : V) : Bool :=
  if a.kind ≠ b.kind then decide (a.kind < b.kind)
  else if Nm.same a.num b.num = true then decide (a.text.data.toList < b.text.data.toList)
  else Nm.less a.num b.num
/-- two values joined, and the error -/
def joined (f : Nat → Nat → Nat) (a b : V) : V × Int :=
  if a.check ≠ 0 then (V.zero, a.check) else if b.check ≠ 0 then (V.zero, b.check)
  else if a.kind = 0 then (b, 0) else if a.kind ≠ 1 ∨ b.kind ≠ 1 then (V.zero, 8)
  else (⟨1, f a.num b.num, (⟨#[]⟩ : ByteArray)⟩, 0)
theorem canon_zero : canon 0 = 0 := by kernel_rfl
theorem zero_In : V.zero.In := ⟨by decide, by decide, by decide, by decide⟩
theorem V.ext {a b : V} (h1 : a.kind = b.kind) (h2 : a.num = b.num) (h3 : a.text = b.text) : a = b := by cases a; cases b; simp_all
theorem check_zero {v : V} (h : v.check = 0) : (v.kind = 0 ∨ v.kind = 1 ∨ v.kind = 2) ∧ (v.kind = 2 → v.text.size ≤ 32) ∧ (v.kind ≠ 2 → v.text.size = 0) ∧ (v.kind ≠ 1 → v.num = 0) ∧ canon v.num = v.num := by
  unfold V.check at h
  split at h
  · cases h
  · split at h
    · cases h
    · split at h
      · cases h
      · split at h
        · cases h
        · refine ⟨by omega, by omega, by omega, by omega, Decidable.not_not.1 (by assumption)⟩
theorem empty_of {b : ByteArray} (h : b.size = 0) : b = (⟨#[]⟩ : ByteArray) := by
  cases b with | mk d => 
  have : d = #[] := Array.eq_empty_of_size_eq_zero h
  subst this; rfl
theorem same_refl (x : Nat) : Nm.same x x = true := by unfold Nm.same; simp
theorem V.same_refl (v : V) : v.same v = true := by simp [V.same, Vl.same_refl]
/-- right values that are the same are one -/
theorem same_right {a b : V} (ha : a.check = 0) (hb : b.check = 0) : a.same b = true ↔ a = b := by
  constructor
  · intro h
    simp only [V.same, Bool.and_eq_true, decide_eq_true_eq] at h
    have h2 := h.1.2
    unfold Nm.same at h2
    rw [decide_eq_true_eq, (check_zero ha).2.2.2.2, (check_zero hb).2.2.2.2] at h2
    exact V.ext h.1.1 h2 h.2
  · rintro rfl; exact V.same_refl _
end Go.Proofs.YtlgmjkbaihpmmaaGreat.Vl
