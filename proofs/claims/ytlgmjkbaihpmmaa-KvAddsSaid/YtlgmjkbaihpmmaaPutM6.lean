/- Plain mathematics: what is put is got, and goes. No program's function. -/
import Derived.Test.YtlgmjkbaihpmmaaParts6
namespace Go.Proofs.Ytlgmjkbaihpmmaa.Kv
open Go Go.RowKit Vl Nm

/-- the code of an error is none, where it is done -/
theorem done_of {L : List Pr} {c : Cm} (h : (doing L c).code = 0) :
    c.right = 0 ∧ rightP L = true ∧ (act (get L c.key) c).code = 0 ∧ (set L c.key (act (get L c.key) c).next).length ≤ 32 ∧ doing L c = ⟨set L c.key (act (get L c.key) c).next, 0, (act (get L c.key) c).told⟩ := by
  by_cases hr : c.right = 0
  · by_cases hp : rightP L = true
    · have e : doing L c = put L c.key (act (get L c.key) c) := by unfold doing; rw [if_neg (by omega), if_neg (by rw [hp]; decide)]
      rw [e] at h ⊢
      unfold put at h ⊢
      by_cases ha : (act (get L c.key) c).code = 0
      · rw [if_neg (by omega)] at h ⊢
        by_cases hf : 32 < (set L c.key (act (get L c.key) c).next).length
        · rw [if_pos hf] at h; cases h
        · rw [if_neg hf]; exact ⟨hr, hp, ha, by omega, rfl⟩
      · rw [if_pos ha] at h; exact absurd h ha
    · have hp : rightP L = false := by cases e : rightP L; rfl; exact absurd e hp
      have e : doing L c = ⟨L, 6, V.zero⟩ := by unfold doing; rw [if_neg (by omega), if_pos hp]
      rw [e] at h; cases h
  · rw [doing_not hr] at h; exact absurd h hr
theorem get_cmd_right {key : ByteArray} (h0 : key.size ≠ 0) (h8 : key.size ≤ 8) : (Cm.mk 1 key V.zero V.zero).right = 0 := by
  unfold Cm.right
  rw [if_neg (by show ¬ ((1 : Int) < 1 ∨ 6 < (1 : Int)); decide), if_neg (by show ¬ 8 < key.size; omega), if_neg]
  rintro (h | h)
  · exact h0 h
  · exact absurd h (by show ¬ (Cm.mk 1 key V.zero V.zero).vals = false; rw [show (Cm.mk 1 key V.zero V.zero).vals = true by kernel_rfl]; decide)
theorem del_cmd_right {key : ByteArray} (h0 : key.size ≠ 0) (h8 : key.size ≤ 8) : (Cm.mk 3 key V.zero V.zero).right = 0 := by
  unfold Cm.right
  rw [if_neg (by show ¬ ((3 : Int) < 1 ∨ 6 < (3 : Int)); decide), if_neg (by show ¬ 8 < key.size; omega), if_neg]
  rintro (h | h)
  · exact h0 h
  · exact absurd h (by show ¬ (Cm.mk 3 key V.zero V.zero).vals = false; rw [show (Cm.mk 3 key V.zero V.zero).vals = true by kernel_rfl]; decide)
theorem doing_gets {M : List Pr} (hM : rightP M = true) {key : ByteArray} (h0 : key.size ≠ 0) (h8 : key.size ≤ 8) : doing M ⟨1, key, V.zero, V.zero⟩ = ⟨M, 0, get M key⟩ := by
  have hs := (rightP_iff M).1 hM
  have e : doing M ⟨1, key, V.zero, V.zero⟩ = put M key (act (get M key) ⟨1, key, V.zero, V.zero⟩) := by
    unfold doing; rw [if_neg (by rw [get_cmd_right h0 h8]; decide), if_neg (by rw [hM]; decide)]
  have ea : act (get M key) ⟨1, key, V.zero, V.zero⟩ = ⟨get M key, 0, get M key⟩ := by unfold act; rfl
  rw [e, ea]
  unfold put
  rw [if_neg (show ¬ ((0 : Int) ≠ 0) by decide), if_neg (by show ¬ 32 < (set M key (get M key)).length; rw [set_get_self hs.2 h0 h8]; omega)]
  show Done.mk (set M key (get M key)) 0 (get M key) = _
  rw [set_get_self hs.2 h0 h8]
theorem doing_dels {M : List Pr} (hM : rightP M = true) {key : ByteArray} (h0 : key.size ≠ 0) (h8 : key.size ≤ 8) : doing M ⟨3, key, V.zero, V.zero⟩ = ⟨set M key V.zero, 0, get M key⟩ := by
  have hs := (rightP_iff M).1 hM
  have hlen := length_set hs.2 h0 h8 V.zero
  have e : doing M ⟨3, key, V.zero, V.zero⟩ = put M key (act (get M key) ⟨3, key, V.zero, V.zero⟩) := by
    unfold doing; rw [if_neg (by rw [del_cmd_right h0 h8]; decide), if_neg (by rw [hM]; decide)]
  have ea : act (get M key) ⟨3, key, V.zero, V.zero⟩ = ⟨V.zero, 0, get M key⟩ := by unfold act; rfl
  rw [e, ea]
  unfold put
  have h1 : one V.zero = 0 := rfl
  rw [if_neg (show ¬ ((0 : Int) ≠ 0) by decide), if_neg (by show ¬ 32 < (set M key V.zero).length; omega)]
/-- behind a put that is done -/
structure PutDone (G : List Pr) (key : ByteArray) (v : V) (Q : Done) : Prop where
  k0 : key.size ≠ 0
  k8 : key.size ≤ 8
  told : Q.told = get G key
  right : rightP Q.L = true
  got : get Q.L key = v
  gets : doing Q.L ⟨1, key, V.zero, V.zero⟩ = ⟨Q.L, 0, v⟩
  dels : doing Q.L ⟨3, key, V.zero, V.zero⟩ = ⟨set Q.L key V.zero, 0, v⟩
  gone : doing (set Q.L key V.zero) ⟨1, key, V.zero, V.zero⟩ = ⟨set Q.L key V.zero, 0, V.zero⟩
  less : (set Q.L key V.zero).length + 1 = Q.L.length
theorem put_done {G : List Pr} {key : ByteArray} {v : V} (h : (doing G ⟨2, key, V.zero, v⟩).code = 0) : PutDone G key v (doing G ⟨2, key, V.zero, v⟩) := by
  obtain ⟨hr, hp, ha, hf, hd⟩ := done_of h
  obtain ⟨_, _, k0, k8, hv⟩ := right_zero hr
  have k0 : key.size ≠ 0 := k0
  have k8 : key.size ≤ 8 := k8
  have hvals := vals_true hv
  have hvc : v.check = 0 := hvals.2.1
  have hvk : v.kind ≠ 0 := hvals.2.2.2.1 rfl
  have hs := (rightP_iff G).1 hp
  have ea : act (get G key) ⟨2, key, V.zero, v⟩ = ⟨v, 0, get G key⟩ := by unfold act; rfl
  have hd2 : doing G ⟨2, key, V.zero, v⟩ = ⟨set G key v, 0, get G key⟩ := by rw [hd]; show Done.mk (set G key (act (get G key) ⟨2, key, V.zero, v⟩).next) 0 (act (get G key) ⟨2, key, V.zero, v⟩).told = _; rw [ea]
  have hR := doing_right hp ⟨2, key, V.zero, v⟩
  rw [hd2] at hR ⊢
  have hR : rightP (set G key v) = true := hR
  have hg : get (set G key v) key = v := get_set_same _ _ _ hvc
  have hsR := (rightP_iff _).1 hR
  have hlen := length_set hsR.2 k0 k8 V.zero
  rw [hg] at hlen
  have h1 : one V.zero = 0 := rfl
  have h2 : one v = 1 := by unfold one; rw [if_neg hvk]
  have hR2 : rightP (set (set G key v) key V.zero) = true := by
    refine (rightP_iff _).2 ⟨by omega, hsR.2.set k0 k8 zero_check⟩
  refine ⟨k0, k8, rfl, hR, hg, ?_, ?_, ?_, by show (set (set G key v) key V.zero).length + 1 = (set G key v).length; omega⟩
  · rw [doing_gets hR k0 k8, hg]
  · rw [doing_dels hR k0 k8, hg]
  · rw [doing_gets hR2 k0 k8, get_set_same _ _ _ zero_check]
end Go.Proofs.Ytlgmjkbaihpmmaa.Kv
