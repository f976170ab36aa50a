/- Plain mathematics: a value put in another one's place. No program's function. -/
import Derived.Test.YtilebpenfdgdmaaPutM6
namespace Go.Proofs.Ytilebpenfdgdmaa.Kv
open Go Go.RowKit Vl Nm

/-- behind a put in place that is done; the second one -/
structure CasDone (G : List Pr) (key : ByteArray) (a b : V) (Q : Done) : Prop where
  told : Q.told = get G key
  right : rightP Q.L = true
  got : get Q.L key = a
  other : (doing Q.L ⟨4, key, get G key, b⟩).code = 9 → a.same (get G key) = false ∧ doing Q.L ⟨4, key, get G key, b⟩ = ⟨Q.L, 9, a⟩
  done : (doing Q.L ⟨4, key, get G key, b⟩).code = 0 → a.same (get G key) = true
theorem act_cas (v : V) (key : ByteArray) (o n : V) : act v ⟨4, key, o, n⟩ = if v.same o = true then ⟨n, 0, v⟩ else ⟨V.zero, 9, v⟩ := by unfold act; rfl
theorem right_nine (c : Cm) : c.right ≠ 9 := by
  unfold Cm.right
  split
  · decide
  · split
    · decide
    · split <;> decide
theorem cas_done {G : List Pr} {key : ByteArray} {a b : V} (h : (doing G ⟨4, key, get G key, a⟩).code = 0) : CasDone G key a b (doing G ⟨4, key, get G key, a⟩) := by
  obtain ⟨hr, hp, ha, hf, hd⟩ := done_of h
  obtain ⟨_, _, k0, k8, hv⟩ := right_zero hr
  have hvc : a.check = 0 := (vals_true hv).2.1
  have ea : act (get G key) ⟨4, key, get G key, a⟩ = ⟨a, 0, get G key⟩ := by rw [act_cas, if_pos (V.same_refl _)]
  have hd2 : doing G ⟨4, key, get G key, a⟩ = ⟨set G key a, 0, get G key⟩ := by
    rw [hd]; show Done.mk (set G key (act (get G key) ⟨4, key, get G key, a⟩).next) 0 (act (get G key) ⟨4, key, get G key, a⟩).told = _; rw [ea]
  have hR := doing_right hp ⟨4, key, get G key, a⟩
  rw [hd2] at hR ⊢
  have hR : rightP (set G key a) = true := hR
  have hg : get (set G key a) key = a := get_set_same _ _ _ hvc
  refine ⟨rfl, hR, hg, fun h9 => ?_, fun h0 => ?_⟩
  · show a.same (get G key) = false ∧ doing (set G key a) ⟨4, key, get G key, b⟩ = ⟨set G key a, 9, a⟩
    have h9 : (doing (set G key a) ⟨4, key, get G key, b⟩).code = 9 := h9
    by_cases hr2 : (Cm.mk 4 key (get G key) b).right = 0
    · have e : doing (set G key a) ⟨4, key, get G key, b⟩ = put (set G key a) key (act (get (set G key a) key) ⟨4, key, get G key, b⟩) := by
        unfold doing; rw [if_neg (by omega), if_neg (by rw [hR]; decide)]
      rw [hg, act_cas] at e
      cases hs : a.same (get G key)
      · rw [hs, if_neg (by decide)] at e
        refine ⟨rfl, ?_⟩
        rw [e]; unfold put; rw [if_pos (show (9 : Int) ≠ 0 by decide)]
      · rw [hs, if_pos rfl] at e
        rw [e] at h9
        unfold put at h9
        rw [if_neg (show ¬ ((0 : Int) ≠ 0) by decide)] at h9
        split at h9 <;> cases h9
    · rw [doing_not hr2] at h9
      exact absurd h9 (right_nine ⟨4, key, get G key, b⟩)
  · obtain ⟨_, _, ha2, _⟩ := done_of (show (doing (set G key a) ⟨4, key, get G key, b⟩).code = 0 from h0)
    have ha2 : (act (get (set G key a) key) ⟨4, key, get G key, b⟩).code = 0 := ha2
    rw [hg, act_cas] at ha2
    show a.same (get G key) = true
    cases hs : a.same (get G key)
    · rw [hs, if_neg (by decide)] at ha2; cases ha2
    · rfl
end Go.Proofs.Ytilebpenfdgdmaa.Kv
