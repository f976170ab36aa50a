/- Plain mathematics of a put in two parts. -/
import Derived.Test.YtaifjkilmdnfbaaLogPutM
namespace Go.Proofs.Ytaifjkilmdnfbaa.Lg
open Go Go.RowKit Vl Kv Ss Cn Mem Li Nm
theorem there_take (T l : List E) (k : Nat) : there T (l.take k) = min k (there T l) := by
  induction T generalizing l k with
  | nil =>
    have h1 : there [] (l.take k) = 0 := rfl
    have h2 : there [] l = 0 := rfl
    rw [h1, h2]; omega
  | cons x r ih =>
    cases l with
    | nil =>
      rw [List.take_nil]
      have h2 : there (x :: r) [] = 0 := rfl
      rw [h2]; omega
    | cons y s =>
      cases k with
      | zero =>
        rw [List.take_zero]
        have h2 : there (x :: r) [] = 0 := rfl
        rw [h2]; omega
      | succ k =>
        rw [List.take_succ_cons, there_cons, there_cons]
        by_cases e : y.term = x.term
        · rw [if_pos e, if_pos e, ih]; omega
        · rw [if_neg e, if_neg e]; omega
theorem there_drop {T l : List E} {k : Nat} (h : k ≤ there T l) : there (T.drop k) (l.drop k) = there T l - k := by
  induction T generalizing l k with
  | nil =>
    have h2 : there [] l = 0 := rfl
    rw [List.drop_nil]
    have h1 : there [] (l.drop k) = 0 := rfl
    rw [h1, h2]; omega
  | cons x r ih =>
    cases k with
    | zero => rw [List.drop_zero, List.drop_zero]; omega
    | succ k =>
      cases l with
      | nil =>
        have h2 : there (x :: r) [] = 0 := rfl
        rw [h2] at h; omega
      | cons y s =>
        rw [there_cons] at h ⊢
        by_cases e : y.term = x.term
        · rw [if_pos e] at h
          rw [if_pos e, List.drop_succ_cons, List.drop_succ_cons, ih (l := s) (k := k) (by omega)]
          omega
        · rw [if_neg e] at h; omega
theorem putL_parts {L l : List E} {n k : Nat} (hn : n ≤ L.length) (hk : k ≤ l.length) : putL (putL L n (l.take k)) (n + k) (l.drop k) = putL L n l := by
  have h3 := there_le_T (L.drop n) l
  have h4 := there_le_l (L.drop n) l
  rw [List.length_drop] at h3
  have hl : (l.take k).length = k := by rw [List.length_take]; omega
  by_cases ht : there (L.drop n) l < k
  · have e1 : there (L.drop n) (l.take k) = there (L.drop n) l := by rw [there_take]; omega
    rw [putL_cut (l := l.take k) (by rw [e1, hl]; exact ht), e1, putL_cut (l := l) (by omega)]
    have e2 : (L.take (n + there (L.drop n) l) ++ (l.take k).drop (there (L.drop n) l)).length = n + k := by
      rw [List.length_append, List.length_take, List.length_drop, hl]; omega
    have e3 := putL_end (L.take (n + there (L.drop n) l) ++ (l.take k).drop (there (L.drop n) l)) (l.drop k)
    rw [e2] at e3
    rw [e3, List.append_assoc]
    congr 1
    have e4 : (l.drop (there (L.drop n) l)) = ((l.take k ++ l.drop k).drop (there (L.drop n) l)) := by rw [List.take_append_drop]
    rw [e4, List.drop_append_of_le_length (by rw [hl]; omega)]
  · have e1 : there (L.drop n) (l.take k) = k := by rw [there_take]; omega
    rw [putL_all (l := l.take k) (by rw [e1, hl]; omega)]
    have e2 : there (L.drop (n + k)) (l.drop k) = there (L.drop n) l - k := by
      rw [← List.drop_drop]; exact there_drop (by omega)
    unfold putL
    rw [e2, List.length_drop]
    have e5 : n + k + (there (L.drop n) l - k) = n + there (L.drop n) l := by omega
    have e6 : (l.drop k).drop (there (L.drop n) l - k) = l.drop (there (L.drop n) l) := by
      rw [List.drop_drop]; congr 1; omega
    rw [e5, e6]
    by_cases h7 : there (L.drop n) l < l.length
    · rw [if_pos (by omega), if_pos h7]
    · rw [if_neg (by omega), if_neg h7]
theorem rowOk_parts {l : List E} {b m : Int} (k : Nat) (x : rowOk l b m = true) : rowOk (l.take k) b m = true ∧ rowOk (l.drop k) (lastT b (l.take k)) m = true := by
  have := rowOk_append (l.take k) (l.drop k) b m
  rw [List.take_append_drop, x] at this
  exact (Bool.and_eq_true _ _).mp this.symm
/-- a put in two parts -/
theorem put_parts {h : H} {i : Int} {l : List E} {k : Nat} (x : h.putOk i l = 0) (hk : k ≤ l.length) : h.putOk i (l.take k) = 0 ∧ (h.put i (l.take k)).putOk (i + k) (l.drop k) = 0 ∧ (h.put i (l.take k)).put (i + k) (l.drop k) = h.put i l := by
  obtain ⟨hr, ht, hy⟩ := put_code x
  obtain ⟨o1, o2⟩ := off_ok ht
  obtain ⟨p1, p2⟩ := rowOk_parts k hy
  have hle : i ≤ h.last := by unfold H.last; omega
  have x1 : h.putOk i (l.take k) = 0 := by
    unfold H.putOk
    rw [if_neg (by rw [hr]; simp), ht, p1]
    rfl
  have eY : h.put i (l.take k) = { h with log := putL h.log (h.off i) (l.take k) } := put_is x1
  obtain ⟨q1, _, _⟩ := put_right x1
  have hl : (l.take k).length = k := by rw [List.length_take]; omega
  obtain ⟨hp1, hp2⟩ := putL_length (l := l.take k) o2
  rw [hl] at hp1 hp2
  have ho : (h.put i (l.take k)).off (i + k) = h.off i + k := by rw [eY]; unfold H.off; show (i + (k : Int) - h.base).toNat = (i - h.base).toNat + k; omega
  have hT : (h.put i (l.take k)).termOf (i + k) = lastT (h.termOf i) (l.take k) := by
    rw [termOf_of (h := h.put i (l.take k)) (by rw [eY]; show h.base ≤ i + k; omega) (by rw [eY]; show i + (k : Int) ≤ h.base + (putL h.log (h.off i) (l.take k)).length; omega), termOf_of (by omega) hle, ho, eY]
    show lastT h.bterm ((putL h.log (h.off i) (l.take k)).take (h.off i + k)) = _
    have e7 : l.take k = (l.take k).take k := by rw [List.take_take]; congr 1; omega
    rw [lastT_take h.bterm (by omega) (l := l.take k) (by omega) (fun j hj => putL_term o2 (by omega)), ← e7]
    congr 1
    refine lastT_same _ (by simp; omega) (fun j hj => ?_)
    have hj : j < h.off i := by simp at hj; omega
    rw [getD_take hj, getD_take hj, putL_lo o2 (by omega)]
  have x2 : (h.put i (l.take k)).putOk (i + k) (l.drop k) = 0 := by
    unfold H.putOk
    have ht2 : (h.put i (l.take k)).term = h.term := by rw [eY]
    have hb := rowOk_last p1
    have hz : 0 ≤ h.termOf i := by
      have h9 := right_num hr
      rw [termOf_of (by omega) hle]
      unfold H.right at hr
      rw [Bool.and_eq_true, Bool.and_eq_true] at hr
      have h8 := (rowOk_append (h.log.take (h.off i)) (h.log.drop (h.off i)) h.bterm h.term)
      rw [List.take_append_drop, hr.2] at h8
      have h7 := rowOk_last ((Bool.and_eq_true _ _).mp h8.symm).1
      have h6 := hr.1.1
      unfold numsOk at h6
      simp only [Bool.and_eq_true, decide_eq_true_eq] at h6
      omega
    rw [if_neg (by rw [q1]; simp), hT, ht2, p2]
    have : (lastT (h.termOf i) (l.take k) == -1) = false := by rw [beq_eq_false_iff_ne]; omega
    rw [this]; rfl
  refine ⟨x1, x2, ?_⟩
  rw [put_is x2, ho, put_is x]
  have e8 : (h.put i (l.take k)).log = putL h.log (h.off i) (l.take k) := by rw [eY]
  rw [e8, putL_parts o2 hk, eY]
end Go.Proofs.Ytaifjkilmdnfbaa.Lg
