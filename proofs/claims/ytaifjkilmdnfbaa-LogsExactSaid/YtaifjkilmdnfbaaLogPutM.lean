import Derived.Test.YtaifjkilmdnfbaaMergeLgO
/- Plain mathematics of a put: what stands where, and a put again. -/
namespace Go.Proofs.Ytaifjkilmdnfbaa.Lg
open Go Go.RowKit Vl Kv Ss Cn Mem Li Nm
theorem there_get {T l : List E} {k : Nat} (h : k < there T l) : (T.getD k E.zero).term = (l.getD k E.zero).term := by
  induction T generalizing l k with
  | nil => simp [there] at h
  | cons x r ih =>
    cases l with
    | nil => simp [there] at h
    | cons y s =>
      unfold there at h
      by_cases e : y.term = x.term
      · rw [if_pos e] at h
        cases k with
        | zero => simp [e]
        | succ k => simpa using ih (l := s) (k := k) (by omega)
      · rw [if_neg e] at h; omega
theorem there_cons (x y : E) (r s : List E) : there (x :: r) (y :: s) = if y.term = x.term then there r s + 1 else 0 := rfl
theorem there_first {T l : List E} (h : there T l < l.length) : T.length ≤ there T l ∨ (l.getD (there T l) E.zero).term ≠ (T.getD (there T l) E.zero).term := by
  induction T generalizing l with
  | nil => exact .inl (by simp)
  | cons x r ih =>
    cases l with
    | nil => simp at h
    | cons y s =>
      rw [there_cons] at h ⊢
      by_cases e : y.term = x.term
      · rw [if_pos e] at h ⊢
        have := ih (l := s) (by simpa using h)
        rw [List.getD_cons_succ, List.getD_cons_succ, List.length_cons]
        rcases this with h1 | h1
        · exact .inl (by omega)
        · exact .inr h1
      · rw [if_neg e]; right; simpa using e
theorem there_full {T l : List E} (hT : l.length ≤ T.length) (h : ∀ k, k < l.length → (l.getD k E.zero).term = (T.getD k E.zero).term) : there T l = l.length := by
  induction T generalizing l with
  | nil => cases l with
    | nil => rfl
    | cons y s => simp at hT
  | cons x r ih =>
    cases l with
    | nil => rfl
    | cons y s =>
      unfold there
      have h0 := h 0 (by simp)
      rw [if_pos (by simpa using h0), ih (l := s) (by simpa using hT) (fun k hk => by simpa using h (k + 1) (by simpa using hk))]
      rfl
theorem putL_cut {L l : List E} {n : Nat} (ht : there (L.drop n) l < l.length) : putL L n l = L.take (n + there (L.drop n) l) ++ l.drop (there (L.drop n) l) := by unfold putL; rw [if_pos ht]
theorem putL_all {L l : List E} {n : Nat} (ht : ¬ there (L.drop n) l < l.length) : putL L n l = L := by
  unfold putL
  rw [if_neg ht, List.drop_eq_nil_of_le (by omega), List.append_nil]
theorem putL_lo {L l : List E} {n k : Nat} (hn : n ≤ L.length) (hk : k < n + there (L.drop n) l) : (putL L n l).getD k E.zero = L.getD k E.zero := by
  have h1 := there_le_T (L.drop n) l
  rw [List.length_drop] at h1
  by_cases ht : there (L.drop n) l < l.length
  · rw [putL_cut ht, List.getD_eq_getElem?_getD, List.getElem?_append_left (by rw [List.length_take]; omega), List.getElem?_take_of_lt hk, List.getD_eq_getElem?_getD]
  · rw [putL_all ht]
theorem putL_hi {L l : List E} {n k : Nat} (hn : n ≤ L.length) (h1 : there (L.drop n) l ≤ k) (h2 : k < l.length) : (putL L n l).getD (n + k) E.zero = l.getD k E.zero := by
  have h3 := there_le_T (L.drop n) l
  rw [List.length_drop] at h3
  have hl : (L.take (n + there (L.drop n) l)).length = n + there (L.drop n) l := by rw [List.length_take]; omega
  rw [putL_cut (by omega), List.getD_eq_getElem?_getD, List.getElem?_append_right (by rw [hl]; omega), hl, List.getElem?_drop, List.getD_eq_getElem?_getD]
  have : there (L.drop n) l + (n + k - (n + there (L.drop n) l)) = k := by omega
  rw [this]
theorem putL_length {L l : List E} {n : Nat} (hn : n ≤ L.length) : n + l.length ≤ (putL L n l).length ∧ (putL L n l).length ≤ L.length + l.length := by
  have h3 := there_le_T (L.drop n) l
  have h4 := there_le_l (L.drop n) l
  rw [List.length_drop] at h3
  by_cases ht : there (L.drop n) l < l.length
  · rw [putL_cut ht, List.length_append, List.length_take, List.length_drop]; omega
  · rw [putL_all ht]; omega
theorem getD_drop (L : List E) (n k : Nat) : (L.drop n).getD k E.zero = L.getD (n + k) E.zero := by rw [List.getD_eq_getElem?_getD, List.getElem?_drop, List.getD_eq_getElem?_getD]
theorem putL_term {L l : List E} {n k : Nat} (hn : n ≤ L.length) (hk : k < l.length) : ((putL L n l).getD (n + k) E.zero).term = (l.getD k E.zero).term := by
  by_cases ht : k < there (L.drop n) l
  · rw [putL_lo hn (by omega), ← getD_drop, there_get ht]
  · rw [putL_hi hn (by omega) hk]
theorem putL_twice {L l : List E} {n : Nat} (hn : n ≤ L.length) : putL (putL L n l) n l = putL L n l := by
  refine putL_all ?_
  rw [there_full (by rw [List.length_drop]; have := putL_length (l := l) hn; omega) (fun k hk => by rw [getD_drop, putL_term hn hk])]
  omega
theorem rowOk_append (A B : List E) (b m : Int) : rowOk (A ++ B) b m = (rowOk A b m && rowOk B (lastT b A) m) := by
  induction A generalizing b with
  | nil => rfl
  | cons x r ih =>
    show (decide (max b 1 ≤ x.term) && decide (x.term ≤ m) && x.right && rowOk (r ++ B) x.term m) = (decide (max b 1 ≤ x.term) && decide (x.term ≤ m) && x.right && rowOk r x.term m && rowOk B (lastT x.term r) m)
    rw [ih, Bool.and_assoc, Bool.and_assoc, Bool.and_assoc, Bool.and_assoc, Bool.and_assoc]
theorem lastT_same {A B : List E} (b : Int) (hl : A.length = B.length) (h : ∀ k, k < A.length → (A.getD k E.zero).term = (B.getD k E.zero).term) : lastT b A = lastT b B := by
  induction A generalizing B b with
  | nil => cases B with
    | nil => rfl
    | cons y s => cases hl
  | cons x r ih =>
    cases B with
    | nil => cases hl
    | cons y s =>
      have h0 := h 0 (by simp)
      simp at h0
      show lastT x.term r = lastT y.term s
      rw [h0]
      exact ih y.term (by simpa using hl) (fun k hk => by simpa using h (k + 1) (by simpa using hk))
theorem getD_take {L : List E} {n k : Nat} (h : k < n) : (L.take n).getD k E.zero = L.getD k E.zero := by rw [List.getD_eq_getElem?_getD, List.getElem?_take_of_lt h, List.getD_eq_getElem?_getD]
theorem lastT_take {L l : List E} {n t : Nat} (b : Int) (hn : n + t ≤ L.length) (ht : t ≤ l.length) (h : ∀ k, k < t → (L.getD (n + k) E.zero).term = (l.getD k E.zero).term) : lastT b (L.take (n + t)) = lastT (lastT b (L.take n)) (l.take t) := by
  rw [List.take_add, lastT_append]
  refine lastT_same _ (by simp; omega) (fun k hk => ?_)
  have hk : k < t := by simp at hk; omega
  rw [getD_take hk, getD_take hk, getD_drop, h k hk]
theorem rowOk_put {L l : List E} {n : Nat} {b m : Int} (hn : n ≤ L.length) (h1 : rowOk L b m = true) (h2 : rowOk l (lastT b (L.take n)) m = true) : rowOk (putL L n l) b m = true := by
  by_cases ht : there (L.drop n) l < l.length
  · have h3 := there_le_T (L.drop n) l
    rw [List.length_drop] at h3
    rw [putL_cut ht, rowOk_append, Bool.and_eq_true]
    constructor
    · have := rowOk_append (L.take (n + there (L.drop n) l)) (L.drop (n + there (L.drop n) l)) b m
      rw [List.take_append_drop, h1] at this
      exact ((Bool.and_eq_true _ _).mp this.symm).1
    · rw [lastT_take b (by omega) (Nat.le_of_lt ht) (fun k hk => by rw [← getD_drop, there_get hk])]
      have := rowOk_append (l.take (there (L.drop n) l)) (l.drop (there (L.drop n) l)) (lastT b (L.take n)) m
      rw [List.take_append_drop, h2] at this
      exact ((Bool.and_eq_true _ _).mp this.symm).2
  · rw [putL_all ht]; exact h1
theorem termOf_of {h : H} {i : Int} (h1 : h.base ≤ i) (h2 : i ≤ h.last) : h.termOf i = lastT h.bterm (h.log.take (h.off i)) := by
  by_cases e : i = h.base
  · rw [termOf_base e]
    have : h.off i = 0 := by unfold H.off; omega
    rw [this]; rfl
  · have hh : h.has i = true := has_iff.2 ⟨by omega, h2⟩
    unfold H.last at h2
    have ho : h.off i = h.pos i + 1 := by unfold H.off H.pos; omega
    have hl : (h.log.take (h.off i)).length = h.pos i + 1 := by rw [List.length_take, ho]; have := pos_lt hh; omega
    rw [termOf_has e hh, entry_in hh, lastT_cons h.bterm _ (by omega), hl, ho]
    rw [getD_take (by omega)]
    rfl
theorem put_right {h : H} {i : Int} {l : List E} (x : h.putOk i l = 0) : (h.put i l).right = true ∧ (h.put i l).putOk i l = 0 ∧ (h.put i l).put i l = h.put i l := by
  obtain ⟨hr, ht, hy⟩ := put_code x
  obtain ⟨o1, o2⟩ := off_ok ht
  have hle : i ≤ h.last := by unfold H.last; omega
  rw [termOf_of (by omega) hle] at hy
  obtain ⟨hp1, hp2⟩ := putL_length (l := l) o2
  have hX : (h.put i l).right = true := by
    rw [put_is x]
    unfold H.right at *
    rw [Bool.and_eq_true, Bool.and_eq_true] at hr
    have e1 : numsOk { h with log := putL h.log (h.off i) l } = numsOk h := rfl
    have e2 : baseOk { h with log := putL h.log (h.off i) l } = baseOk h := rfl
    rw [e1, e2, hr.1.1, hr.1.2, Bool.true_and, Bool.true_and]
    exact rowOk_put o2 hr.2 hy
  have ho : (h.put i l).off i = h.off i := by rw [put_is x]; rfl
  have hT : (h.put i l).termOf i = h.termOf i := by
    rw [termOf_of (h := h.put i l) (by rw [put_is x]; show h.base ≤ i; omega) (by rw [put_is x]; show i ≤ h.base + (putL h.log (h.off i) l).length; omega), termOf_of (by omega) hle, ho, put_is x]
    refine lastT_same _ (by simp; omega) (fun k hk => ?_)
    have hk : k < h.off i := by simp at hk; omega
    rw [getD_take hk, getD_take hk, putL_lo o2 (by omega)]
  have hk : (h.put i l).putOk i l = 0 := by
    unfold H.putOk
    have ht2 : (h.put i l).term = h.term := by rw [put_is x]
    rw [if_neg (by rw [hX]; simp), hT, ht2, ht, termOf_of (by omega) hle, hy]
    rfl
  refine ⟨hX, hk, ?_⟩
  rw [put_is hk, ho]
  have : (h.put i l).log = putL h.log (h.off i) l := by rw [put_is x]
  rw [this, putL_twice o2, put_is x]
/-- what stands at an index, behind a put -/
structure PutAt (h X : H) (i : Int) (l : List E) (t : Nat) : Prop where
  lo : h.base ≤ i
  hi : i ≤ h.base + h.log.length
  tl : t ≤ l.length
  has : ∀ k : Nat, k < l.length → X.has (i + 1 + k) = true
  term : ∀ k : Nat, k < l.length → (X.entry (i + 1 + k)).term = (l.getD k E.zero).term
  old : ∀ k : Nat, k < t → h.has (i + 1 + k) = true ∧ h.entry (i + 1 + k) = X.entry (i + 1 + k)
  first : t < l.length → h.has (i + 1 + t) = false ∨ (h.entry (i + 1 + t)).term ≠ (X.entry (i + 1 + t)).term
  new : ∀ k : Nat, t ≤ k → k < l.length → X.entry (i + 1 + k) = l.getD k E.zero
  ahead : ∀ k : Int, h.base < k → k ≤ i → X.entry k = h.entry k
theorem put_at {h : H} {i : Int} {l : List E} (x : h.putOk i l = 0) : ∃ t, PutAt h (h.put i l) i l t := by
  obtain ⟨hr, ht, hy⟩ := put_code x
  obtain ⟨o1, o2⟩ := off_ok ht
  obtain ⟨hp1, hp2⟩ := putL_length (l := l) o2
  have h3 := there_le_T (h.log.drop (h.off i)) l
  have h4 := there_le_l (h.log.drop (h.off i)) l
  rw [List.length_drop] at h3
  have eX : (h.put i l).log = putL h.log (h.off i) l := by rw [put_is x]
  have eB : (h.put i l).base = h.base := by rw [put_is x]
  have hpos : ∀ k : Nat, h.pos (i + 1 + k) = h.off i + k := fun k => by unfold H.pos; omega
  have hposX : ∀ k : Nat, (h.put i l).pos (i + 1 + k) = h.off i + k := fun k => by unfold H.pos; rw [eB]; omega
  have hhX : ∀ k : Nat, k < l.length → (h.put i l).has (i + 1 + k) = true := fun k hk => has_iff.2 ⟨by rw [eB]; omega, by unfold H.last; rw [eB, eX]; omega⟩
  have heX : ∀ k : Nat, k < l.length → (h.put i l).entry (i + 1 + k) = (putL h.log (h.off i) l).getD (h.off i + k) E.zero := fun k hk => by rw [entry_in (hhX k hk), hposX, eX]
  have hh : ∀ k : Nat, h.off i + k < h.log.length → h.has (i + 1 + k) = true := fun k hk => has_iff.2 ⟨by omega, by unfold H.last; omega⟩
  refine ⟨there (h.log.drop (h.off i)) l, ⟨by omega, by omega, h4, hhX, fun k hk => by rw [heX k hk, putL_term o2 hk], fun k hk => ⟨hh k (by omega), ?_⟩, fun hk => ?_, fun k h1 h2 => by rw [heX k h2, putL_hi o2 h1 h2], fun k h1 h2 => ?_⟩⟩
  · rw [entry_in (hh k (by omega)), hpos, heX k (by omega), putL_lo o2 (by omega)]
  · rcases there_first hk with h5 | h5
    · left
      rw [List.length_drop] at h5
      exact has_hi (by unfold H.last; omega)
    · by_cases h6 : h.off i + there (h.log.drop (h.off i)) l < h.log.length
      · right
        rw [entry_in (hh _ h6), hpos, heX _ hk, putL_hi o2 (Nat.le_refl _) hk, ← getD_drop]
        exact fun e => h5 e.symm
      · left
        exact has_hi (by unfold H.last; omega)
  · have k1 : h.has k = true := has_iff.2 ⟨h1, by unfold H.last; omega⟩
    have k2 : (h.put i l).has k = true := has_iff.2 ⟨by rw [eB]; exact h1, by unfold H.last; rw [eB, eX]; omega⟩
    have k3 : (h.put i l).pos k = h.pos k := by unfold H.pos; rw [eB]
    rw [entry_in k1, entry_in k2, k3, eX, putL_lo o2 (by unfold H.pos; omega)]
end Go.Proofs.Ytaifjkilmdnfbaa.Lg
