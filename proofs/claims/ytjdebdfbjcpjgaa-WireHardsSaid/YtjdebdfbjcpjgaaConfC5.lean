import Derived.Test.YtjdebdfbjcpjgaaMergeWr9
/- Two configurations, compared by ==. -/
namespace Go.Proofs.Ytjdebdfbjcpjgaa.Cn
open Go Go.RowKit Bh
attribute [local irreducible] wpQuiet
theorem C.eq_iff (a b : C) : (a = b) ↔ (a.f = b.f ∧ a.w = b.w ∧ a.l = b.l ∧ a.x = b.x) := by
  obtain ⟨f, w, l, x⟩ := a
  obtain ⟨f', w', l', x'⟩ := b
  simp
set_option maxHeartbeats 400000 in
theorem conf_eq (f wt l x f' wt' l' x' : Int) (w : World) :
    (binOp .eql 30 (.agg #[.int .i64 f, .int .i64 wt, .int .i64 l, .int .i64 x]) (.agg #[.int .i64 f', .int .i64 wt', .int .i64 l', .int .i64 x'])).run Try.prog w = .ok (.bool (decide (C.mk f wt l x = C.mk f' wt' l' x'))) w := by
  rw [show decide (C.mk f wt l x = C.mk f' wt' l' x') = (decide (f = f') && decide (wt = wt') && decide (l = l') && decide (x = x')) by rw [Bool.eq_iff_iff]; simp [C.eq_iff, and_assoc]]
  by_cases h1 : f = f'
  · subst h1
    by_cases h2 : wt = wt'
    · subst h2
      by_cases h3 : l = l'
      · subst h3
        have h4 : (x == x') = decide (x = x') := by rw [Bool.eq_iff_iff]; simp
        have h5 : decide (x = x') = true ∨ decide (x = x') = false := by cases decide (x = x') <;> simp
        rcases h5 with h5 | h5
        · rw [h5] at h4 ⊢
          clear h5
          go_simp
        · rw [h5] at h4 ⊢
          clear h5
          go_simp
      · have h4 := beq_eq_false_iff_ne.2 h3
        rw [decide_eq_false h3]
        clear h3
        go_simp
    · have h4 := beq_eq_false_iff_ne.2 h2
      rw [decide_eq_false h2]
      clear h2
      go_simp
  · have h4 := beq_eq_false_iff_ne.2 h1
    rw [decide_eq_false h1]
    clear h1
    go_simp
end Go.Proofs.Ytjdebdfbjcpjgaa.Cn
