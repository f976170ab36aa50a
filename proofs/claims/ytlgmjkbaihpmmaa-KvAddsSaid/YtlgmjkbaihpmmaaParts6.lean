/- Plain mathematics: commands on unlike keys. No program's function. -/
import Derived.Test.YtlgmjkbaihpmmaaKvMath
namespace Go.Proofs.Ytlgmjkbaihpmmaa.Kv
open Go Go.RowKit Vl Nm

theorem doing_not {c : Cm} (h : c.right ≠ 0) (M : List Pr) : doing M c = ⟨M, c.right, V.zero⟩ := by unfold doing; rw [if_pos h]
theorem one_le (v : V) : one v ≤ 1 := by unfold one; split <;> omega
/-- where there is room -/
theorem doing_room {M : List Pr} {c : Cm} (hM : rightP M = true) (hl : M.length ≤ 31) (hr : c.right = 0) :
    doing M c = if (act (get M c.key) c).code ≠ 0 then ⟨M, (act (get M c.key) c).code, (act (get M c.key) c).told⟩ else ⟨set M c.key (act (get M c.key) c).next, 0, (act (get M c.key) c).told⟩ := by
  obtain ⟨_, _, k0, k8, _⟩ := right_zero hr
  have hs := ((rightP_iff M).1 hM).2
  have hlen := length_set hs k0 k8 (act (get M c.key) c).next
  have := one_le (act (get M c.key) c).next
  unfold doing put
  rw [if_neg (by omega), if_neg (by rw [hM]; decide)]
  split
  · rfl
  · rw [if_neg (by omega)]
theorem doing_len {M : List Pr} {c : Cm} (hM : rightP M = true) (hl : M.length ≤ 31) : (doing M c).L.length ≤ M.length + 1 := by
  by_cases hr : c.right = 0
  · rw [doing_room hM hl hr]
    obtain ⟨_, _, k0, k8, _⟩ := right_zero hr
    have hs := ((rightP_iff M).1 hM).2
    have hlen := length_set hs k0 k8 (act (get M c.key) c).next
    have := one_le (act (get M c.key) c).next
    split
    · show M.length ≤ _; omega
    · show (set M c.key (act (get M c.key) c).next).length ≤ _; omega
  · rw [doing_not hr]; show M.length ≤ _; omega
theorem parts_same {G : List Pr} (hG : rightP G = true) (hl : G.length ≤ 30) {a b : Cm} (hab : a.key ≠ b.key) :
    (doing (doing G a).L b).L = (doing (doing G b).L a).L ∧ ((doing G a).code = (doing (doing G b).L a).code ∧ (doing G a).told = (doing (doing G b).L a).told) ∧
    ((doing (doing G a).L b).code = (doing G b).code ∧ (doing (doing G a).L b).told = (doing G b).told) := by
  by_cases ra : a.right = 0
  · by_cases rb : b.right = 0
    · have gab : get (doing G a).L b.key = get G b.key := doing_other hab.symm
      have gba : get (doing G b).L a.key = get G a.key := doing_other hab
      have ha31 : (doing G a).L.length ≤ 31 := by have := doing_len (c := a) hG (by omega); omega
      have hb31 : (doing G b).L.length ≤ 31 := by have := doing_len (c := b) hG (by omega); omega
      have eb := doing_room (c := b) (doing_right hG a) ha31 rb
      have ea := doing_room (c := a) (doing_right hG b) hb31 ra
      rw [gab] at eb
      rw [gba] at ea
      have da := doing_room (c := a) hG (by omega) ra
      have db := doing_room (c := b) hG (by omega) rb
      by_cases ca : (act (get G a.key) a).code = 0
      · by_cases cb : (act (get G b.key) b).code = 0
        · rw [if_neg (by omega)] at eb ea da db
          have hs := ((rightP_iff G).1 hG).2
          obtain ⟨_, _, ka0, ka8, va⟩ := right_zero ra
          obtain ⟨_, _, kb0, kb8, vb⟩ := right_zero rb
          have hca := act_check (v := get G a.key) (c := a) (hs.get_check _) (vals_true va).2.1
          have hcb := act_check (v := get G b.key) (c := b) (hs.get_check _) (vals_true vb).2.1
          rw [eb, ea, da, db]
          exact ⟨set_comm hs ka0 ka8 kb0 kb8 hca hcb hab, ⟨rfl, rfl⟩, rfl, rfl⟩
        · rw [if_pos cb] at eb db
          rw [if_neg (by omega)] at ea da
          rw [eb, ea, da, db]
          exact ⟨rfl, ⟨rfl, rfl⟩, rfl, rfl⟩
      · rw [if_pos ca] at ea da
        rw [ea, eb, da, db]
        split <;> exact ⟨rfl, ⟨rfl, rfl⟩, rfl, rfl⟩
    · rw [doing_not rb, doing_not rb]
      exact ⟨rfl, ⟨rfl, rfl⟩, rfl, rfl⟩
  · rw [doing_not ra, doing_not ra]
    exact ⟨rfl, ⟨rfl, rfl⟩, rfl, rfl⟩
end Go.Proofs.Ytlgmjkbaihpmmaa.Kv
