import Derived.Test.YtaifjkilmdnfbaaMergeLgP
import Derived.Test.YtaifjkilmdnfbaaBehG
/- What Check tells of a configuration. No program. -/
namespace Go.Proofs.Ytaifjkilmdnfbaa.Cn
open Go Go.RowKit Bh
attribute [local irreducible] wpQuiet
def fld (c : C) (k : Nat) : Int := if k = 0 then c.f else if k = 1 then c.w else if k = 2 then c.l else c.x
def seen (c : C) : Nat → Int
  | 0 => 0
  | k + 1 => bits .or .i64 (seen c k) (fld c k)
structure At (c : C) (k : Nat) : Prop where
  lo : 0 ≤ fld c k
  hi : fld c k ≤ 127
  no : bits .and .i64 (fld c k) (seen c k) = 0
def C.right (c : C) : Bool := decide (0 ≤ c.f ∧ c.f ≤ 127 ∧ 0 ≤ c.w ∧ c.w ≤ 127 ∧ 0 ≤ c.l ∧ c.l ≤ 127 ∧ 0 ≤ c.x ∧ c.x ≤ 127 ∧ c.f ≠ 0) && (List.range 7).all c.apt
theorem right_iff {c : C} : c.right = true ↔ c.Ok := by
  unfold C.right
  rw [Bool.and_eq_true, decide_eq_true_eq, List.all_eq_true]
  constructor
  · rintro ⟨⟨a, b, d, e, f, g, h, i, j⟩, k⟩
    exact ⟨⟨a, b⟩, ⟨d, e⟩, ⟨f, g⟩, ⟨h, i⟩, j, fun i hi => k i (List.mem_range.2 hi)⟩
  · rintro ⟨⟨a, b⟩, ⟨d, e⟩, ⟨f, g⟩, ⟨h, i⟩, j, k⟩
    exact ⟨⟨a, b, d, e, f, g, h, i, j⟩, fun i hi => k i (List.mem_range.1 hi)⟩
theorem seen_in {c : C} {k : Nat} (h : ∀ j, j < k → At c j) : In7 (seen c k) := by
  induction k with
  | zero => exact In7.zero
  | succ k ih => exact (ih (fun j hj => h j (by omega))).or ⟨(h k (by omega)).lo, (h k (by omega)).hi⟩
theorem ok_iff (c : C) : c.Ok ↔ c.f ≠ 0 ∧ ∀ k, k < 4 → At c k := by
  have s1 : ∀ i, tb (seen c 1) i = tb c.f i := fun i => by show tb (bits .or .i64 0 c.f) i = _; rw [tb_or, tb_0, Bool.false_or]
  have s2 : ∀ i, tb (seen c 2) i = (tb c.f i || tb c.w i) := fun i => by show tb (bits .or .i64 (seen c 1) c.w) i = _; rw [tb_or, s1]
  have s3 : ∀ i, tb (seen c 3) i = (tb c.f i || tb c.w i || tb c.l i) := fun i => by show tb (bits .or .i64 (seen c 2) c.l) i = _; rw [tb_or, s2]
  constructor
  · intro h
    have i1 : In7 (seen c 1) := In7.or In7.zero h.f
    have i2 : In7 (seen c 2) := i1.or h.w
    have i3 : In7 (seen c 3) := i2.or h.l
    have hp : ∀ i, i < 7 → apart (tb c.f i) (tb c.w i) (tb c.l i) (tb c.x i) = true := h.apt
    refine ⟨h.ne, fun k hk => ?_⟩
    obtain rfl | rfl | rfl | rfl : k = 0 ∨ k = 1 ∨ k = 2 ∨ k = 3 := by omega
    · exact ⟨h.f.1, h.f.2, by show bits .and .i64 c.f 0 = 0; rw [and_zero h.f In7.zero]; intro i _; rw [tb_0, Bool.and_false]⟩
    · refine ⟨h.w.1, h.w.2, ?_⟩
      show bits .and .i64 c.w (seen c 1) = 0
      rw [and_zero h.w i1]
      intro i hi
      have := hp i hi
      rw [s1]
      revert this
      cases tb c.f i <;> cases tb c.w i <;> cases tb c.l i <;> cases tb c.x i <;> decide
    · refine ⟨h.l.1, h.l.2, ?_⟩
      show bits .and .i64 c.l (seen c 2) = 0
      rw [and_zero h.l i2]
      intro i hi
      have := hp i hi
      rw [s2]
      revert this
      cases tb c.f i <;> cases tb c.w i <;> cases tb c.l i <;> cases tb c.x i <;> decide
    · refine ⟨h.x.1, h.x.2, ?_⟩
      show bits .and .i64 c.x (seen c 3) = 0
      rw [and_zero h.x i3]
      intro i hi
      have := hp i hi
      rw [s3]
      revert this
      cases tb c.f i <;> cases tb c.w i <;> cases tb c.l i <;> cases tb c.x i <;> decide
  · rintro ⟨hne, h⟩
    have i1 : In7 (seen c 1) := seen_in (fun j hj => h j (by omega))
    have i2 : In7 (seen c 2) := seen_in (fun j hj => h j (by omega))
    have i3 : In7 (seen c 3) := seen_in (fun j hj => h j (by omega))
    have f0 : In7 c.f := ⟨(h 0 (by omega)).lo, (h 0 (by omega)).hi⟩
    have f1 : In7 c.w := ⟨(h 1 (by omega)).lo, (h 1 (by omega)).hi⟩
    have f2 : In7 c.l := ⟨(h 2 (by omega)).lo, (h 2 (by omega)).hi⟩
    have f3 : In7 c.x := ⟨(h 3 (by omega)).lo, (h 3 (by omega)).hi⟩
    have n1 := (and_zero f1 i1).1 (h 1 (by omega)).no
    have n2 := (and_zero f2 i2).1 (h 2 (by omega)).no
    have n3 := (and_zero f3 i3).1 (h 3 (by omega)).no
    refine ⟨f0, f1, f2, f3, hne, fun i hi => ?_⟩
    have a1 := n1 i hi
    have a2 := n2 i hi
    have a3 := n3 i hi
    rw [s1] at a1
    rw [s2] at a2
    rw [s3] at a3
    show apart (tb c.f i) (tb c.w i) (tb c.l i) (tb c.x i) = true
    revert a1 a2 a3
    cases tb c.f i <;> cases tb c.w i <;> cases tb c.l i <;> cases tb c.x i <;> decide
end Go.Proofs.Ytaifjkilmdnfbaa.Cn
