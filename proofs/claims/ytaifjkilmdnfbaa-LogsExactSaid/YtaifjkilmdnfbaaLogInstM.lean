/- Plain mathematics of what is installed and compacted. -/
import Derived.Test.YtaifjkilmdnfbaaLogPutM
import Derived.Test.YtaifjkilmdnfbaaLogRef5
import Derived.Test.YtaifjkilmdnfbaaLogCode9
namespace Go.Proofs.Ytaifjkilmdnfbaa.Lg
open Go Go.RowKit Vl Kv Ss Cn Mem Li Nm
theorem inst_bad {h : H} {i t : Int} {c : C} {s : List Nat} (x : h.right = false) : h.instOk i t c s = 6 ∧ h.inst i t c s = H.zero := by
  have : h.instOk i t c s = 6 := by unfold H.instOk; rw [if_pos x]
  exact ⟨this, by unfold H.inst; rw [if_neg (by omega)]⟩
theorem inst_arg {h : H} {i t : Int} {c : C} {s : List Nat} (x : h.right = true) (y : (!(decide (h.base + 1 ≤ i) && decide (i ≤ 1099511627776)) || !(decide (max h.bterm 1 ≤ t) && decide (t ≤ h.term))) = true) : h.instOk i t c s = 1 ∧ h.inst i t c s = H.zero := by
  have : h.instOk i t c s = 1 := by unfold H.instOk; rw [if_neg (by rw [x]; simp), if_pos y]
  exact ⟨this, by unfold H.inst; rw [if_neg (by omega)]⟩
theorem inst_conf {h : H} {i t : Int} {c : C} {s : List Nat} (x : h.right = true) (y : (!(decide (h.base + 1 ≤ i) && decide (i ≤ 1099511627776)) || !(decide (max h.bterm 1 ≤ t) && decide (t ≤ h.term))) = false) (z : c.right = false) : h.instOk i t c s = 14 ∧ h.inst i t c s = H.zero := by
  have : h.instOk i t c s = 14 := by unfold H.instOk; rw [if_neg (by rw [x]; simp), if_neg (by rw [y]; simp), if_pos z]
  exact ⟨this, by unfold H.inst; rw [if_neg (by omega)]⟩
theorem inst_long {h : H} {i t : Int} {c : C} {s : List Nat} (x : h.right = true) (y : (!(decide (h.base + 1 ≤ i) && decide (i ≤ 1099511627776)) || !(decide (max h.bterm 1 ≤ t) && decide (t ≤ h.term))) = false) (z : c.right = true) (v : 16384 < s.length) : h.instOk i t c s = 2 ∧ h.inst i t c s = H.zero := by
  have : h.instOk i t c s = 2 := by unfold H.instOk; rw [if_neg (by rw [x]; simp), if_neg (by rw [y]; simp), if_neg (by rw [z]; simp), if_pos v]
  exact ⟨this, by unfold H.inst; rw [if_neg (by omega)]⟩
theorem inst_ok {h : H} {i t : Int} {c : C} {s : List Nat} (x : h.right = true) (y : (!(decide (h.base + 1 ≤ i) && decide (i ≤ 1099511627776)) || !(decide (max h.bterm 1 ≤ t) && decide (t ≤ h.term))) = false) (z : c.right = true) (v : ¬ 16384 < s.length) : h.instOk i t c s = 0 ∧ h.inst i t c s = ⟨h.term, h.vote, i, t, c, s, if h.fits i t = true then h.log.drop (h.off i) else []⟩ := by
  have : h.instOk i t c s = 0 := by unfold H.instOk; rw [if_neg (by rw [x]; simp), if_neg (by rw [y]; simp), if_neg (by rw [z]; simp), if_neg v]
  exact ⟨this, by unfold H.inst; rw [if_pos this]⟩
theorem from_fits {h : H} {i t : Int} (x : h.base + 1 ≤ i) (y : h.fits i t = true) : h.from_ (i + 1) h.log.length = h.log.drop (h.off i) := by
  unfold H.fits at y
  rw [Bool.and_eq_true, bne_iff_ne, beq_iff_eq] at y
  have hne : i ≠ h.base := by omega
  have hh : h.has i = true := by
    cases hh : h.has i
    · rw [termOf_not hne hh] at y; exact absurd y.2.symm y.1
    · rfl
  have h2 := has_iff.1 hh
  rw [from_told (by omega)]
  have : h.pos (i + 1) = h.off i := by unfold H.pos H.off; omega
  rw [this, List.take_of_length_le (by rw [List.length_drop]; omega)]
theorem rowOk_get {L : List E} {b m : Int} (x : rowOk L b m = true) : ∀ k, k < L.length → max b 1 ≤ (L.getD k E.zero).term ∧ (L.getD k E.zero).term ≤ m ∧ (L.getD k E.zero).right = true := by
  induction L generalizing b with
  | nil => intro k hk; simp at hk
  | cons y r ih =>
    unfold rowOk at x
    simp only [Bool.and_eq_true, decide_eq_true_eq] at x
    intro k hk
    cases k with
    | zero => simp; exact ⟨by omega, x.1.1.2, x.1.2⟩
    | succ k =>
      have := ih x.2 k (by simpa using hk)
      rw [List.getD_cons_succ]
      exact ⟨by omega, this.2.1, this.2.2⟩
structure InstIs (h : H) (i t : Int) (c : C) (s : List Nat) : Prop where
  right : h.right = true
  lo : h.base + 1 ≤ i
  hi : i ≤ 1099511627776
  tlo : max h.bterm 1 ≤ t
  thi : t ≤ h.term
  conf : c.right = true
  snap : s.length ≤ 16384
  eq : h.inst i t c s = ⟨h.term, h.vote, i, t, c, s, if h.fits i t = true then h.log.drop (h.off i) else []⟩
theorem inst_code {h : H} {i t : Int} {c : C} {s : List Nat} (x : h.instOk i t c s = 0) : InstIs h i t c s := by
  cases hr : h.right
  · rw [(inst_bad hr).1] at x; cases x
  · cases hy : (!(decide (h.base + 1 ≤ i) && decide (i ≤ 1099511627776)) || !(decide (max h.bterm 1 ≤ t) && decide (t ≤ h.term)))
    · cases hc : c.right
      · rw [(inst_conf hr hy hc).1] at x; cases x
      · by_cases hv : 16384 < s.length
        · rw [(inst_long hr hy hc hv).1] at x; cases x
        · have e := (inst_ok hr hy hc hv).2
          simp only [Bool.or_eq_false_iff, Bool.not_eq_false', Bool.and_eq_true, decide_eq_true_eq] at hy
          exact ⟨hr, hy.1.1, hy.1.2, hy.2.1, hy.2.2, hc, by omega, e⟩
    · rw [(inst_arg hr hy).1] at x; cases x
theorem fits_has {h : H} {i t : Int} (x : h.base < i) (y : h.fits i t = true) : h.has i = true ∧ h.termOf i = t := by
  unfold H.fits at y
  rw [Bool.and_eq_true, bne_iff_ne, beq_iff_eq] at y
  refine ⟨?_, y.2⟩
  cases hh : h.has i
  · rw [termOf_not (by omega) hh] at y; exact absurd y.2.symm y.1
  · rfl
theorem rowOk_drop {h : H} {i : Int} (hr : h.right = true) (h1 : h.base ≤ i) (h2 : i ≤ h.last) : rowOk (h.log.drop (h.off i)) (h.termOf i) h.term = true := by
  rw [termOf_of h1 h2]
  unfold H.right at hr
  rw [Bool.and_eq_true] at hr
  have h8 := (rowOk_append (h.log.take (h.off i)) (h.log.drop (h.off i)) h.bterm h.term)
  rw [List.take_append_drop, hr.2] at h8
  exact ((Bool.and_eq_true _ _).mp h8.symm).2
theorem right_parts {h : H} (hr : h.right = true) : 0 ≤ h.term ∧ h.term ≤ 1099511627776 ∧ -1 ≤ h.vote ∧ h.vote ≤ 6 ∧ 0 ≤ h.base ∧ h.base ≤ 1099511627776 ∧ 0 ≤ h.bterm ∧ h.bterm ≤ h.term ∧ h.conf.right = true ∧ rowOk h.log h.bterm h.term = true := by
  unfold H.right numsOk baseOk at hr
  simp only [Bool.and_eq_true, decide_eq_true_eq] at hr
  obtain ⟨⟨⟨⟨⟨⟨a1, a2⟩, a3, a4⟩, a5, a6⟩, a7, a8⟩, ⟨_, _, a9⟩⟩, a10⟩ := hr
  exact ⟨a1, a2, a3, a4, a5, a6, a7, a8, a9, a10⟩
theorem inst_right {h : H} {i t : Int} {c : C} {s : List Nat} (x : h.instOk i t c s = 0) : (h.inst i t c s).right = true := by
  have y := inst_code x
  obtain ⟨a1, a2, a3, a4, a5, a6, a7, a8, a9, a10⟩ := right_parts y.right
  have l1 := y.lo; have l2 := y.hi; have l3 := y.tlo; have l4 := y.thi
  rw [y.eq]
  unfold H.right numsOk baseOk
  simp only [Bool.and_eq_true, decide_eq_true_eq, Bool.or_eq_true, beq_iff_eq]
  refine ⟨⟨⟨⟨⟨⟨a1, a2⟩, a3, a4⟩, by omega, l2⟩, by omega, l4⟩, ⟨?_, .inl (by omega)⟩, y.snap, y.conf⟩, ?_⟩
  · rw [decide_eq_false (by omega), decide_eq_false (by omega)]
  · by_cases hf : h.fits i t = true
    · rw [if_pos hf]
      obtain ⟨f1, f2⟩ := fits_has (by omega) hf
      have := rowOk_drop y.right (by omega) (has_iff.1 f1).2
      rwa [f2] at this
    · rw [if_neg hf]; rfl
/-- what is behind an index stays -/
structure Cut (h X : H) (i : Int) : Prop where
  lo : h.base < i
  hi : i ≤ h.last
  term : X.term = h.term
  base : X.base = i
  bterm : X.bterm = h.termOf i
  log : X.log = h.log.drop (h.off i)
theorem inst_cut {h : H} {i t : Int} {c : C} {s : List Nat} (x : h.instOk i t c s = 0) (f : h.fits i t = true) : Cut h (h.inst i t c s) i := by
  have y := inst_code x
  have l1 := y.lo
  obtain ⟨f1, f2⟩ := fits_has (by omega) f
  refine ⟨by omega, (has_iff.1 f1).2, ?_, ?_, ?_, ?_⟩ <;> rw [y.eq]
  · exact f2.symm
  · rw [if_pos f]
theorem Cut.off {h X : H} {i : Int} (x : Cut h X i) : (h.off i : Int) = i - h.base ∧ h.off i ≤ h.log.length := by
  have h1 := x.lo; have h2 := x.hi
  unfold H.last at h2
  unfold H.off
  omega
theorem Cut.last {h X : H} {i : Int} (x : Cut h X i) : X.last = h.last := by
  obtain ⟨o1, o2⟩ := x.off
  unfold H.last
  rw [x.base, x.log, List.length_drop]; omega
theorem Cut.lastT {h X : H} {i : Int} (x : Cut h X i) : X.lastT = h.lastT := by
  have h1 := x.lo
  unfold H.lastT
  rw [x.bterm, x.log, termOf_of (by omega) x.hi, ← lastT_append, List.take_append_drop]
theorem Cut.has {h X : H} {i k : Int} (x : Cut h X i) (hk : i < k) : X.has k = h.has k := by
  have h1 := x.lo
  have h2 := x.last
  unfold H.has
  rw [h2, x.base, decide_eq_true hk, decide_eq_true (by omega : h.base < k)]
theorem Cut.pos {h X : H} {i k : Int} (x : Cut h X i) (hk : i < k) : h.pos k = h.off i + X.pos k := by
  obtain ⟨o1, o2⟩ := x.off
  unfold H.pos
  rw [x.base]; omega
theorem Cut.entry {h X : H} {i k : Int} (x : Cut h X i) (hk : i < k) : X.entry k = h.entry k := by
  unfold H.entry
  rw [x.has hk, x.pos hk, x.log, getD_drop]
theorem Cut.termOf {h X : H} {i k : Int} (x : Cut h X i) (hk : i ≤ k) : X.termOf k = h.termOf k := by
  have h1 := x.lo
  by_cases e : k = i
  · subst e
    rw [termOf_base x.base.symm, x.bterm]
  · cases hh : h.has k
    · rw [termOf_not (by rw [x.base]; exact e) (by rw [x.has (by omega), hh]), termOf_not (by omega) hh]
    · rw [termOf_has (by rw [x.base]; exact e) (by rw [x.has (by omega), hh]), termOf_has (by omega) hh, x.entry (by omega)]
theorem Cut.ahead {h X : H} {i k : Int} (x : Cut h X i) (hk : k < i) : X.termOf k = -1 := by
  have := x.base
  exact termOf_not (by omega) (has_lo (by omega))
theorem Cut.from_ {h X : H} {i m : Int} (x : Cut h X i) : X.from_ (i + 1) m = h.from_ (i + 1) m := by
  have h1 := x.lo
  rw [from_told (by rw [x.base]; omega), from_told (by omega), x.pos (k := i + 1) (by omega), x.log, List.drop_drop]
theorem Cut.force {h X : H} {i u : Int} (x : Cut h X i) (hc : X.conf = (forceK h u (h.off i)).1) (j : Nat) : (forceK X u j).1 = (forceK h u (h.off i + j)).1 := by
  obtain ⟨o1, o2⟩ := x.off
  induction j with
  | zero => exact hc
  | succ j ih =>
    have e1 : X.log.getD j E.zero = h.log.getD (h.off i + j) E.zero := by rw [x.log, getD_drop]
    have e2 : h.base + ((h.off i + j : Nat) : Int) + 1 = X.base + j + 1 := by rw [x.base]; omega
    by_cases c : (X.log.getD j E.zero).kind = 2 ∧ X.base + j + 1 ≤ u
    · rw [forceK_step c.1 c.2, Nat.add_succ, forceK_step (by rw [← e1]; exact c.1) (by rw [e2]; exact c.2), e1]
    · rw [forceK_skip c, Nat.add_succ, forceK_skip (by rw [← e1, e2]; exact c), ih]
theorem forceK_upto {h : H} {u v : Int} {k : Nat} (hu : h.base + k ≤ u) (hv : h.base + k ≤ v) : forceK h u k = forceK h v k := by
  induction k with
  | zero => rfl
  | succ k ih =>
    have := ih (by omega) (by omega)
    by_cases c : (h.log.getD k E.zero).kind = 2
    · rw [forceK_step c (by omega), forceK_step c (by omega)]
    · rw [forceK_skip (fun hx => c hx.1), forceK_skip (fun hx => c hx.1), this]
theorem forceK_past {h : H} {u : Int} {k : Nat} (hu : u ≤ h.base + k) (j : Nat) : forceK h u (k + j) = forceK h u k := by
  induction j with
  | zero => rfl
  | succ j ih => rw [Nat.add_succ, forceK_skip (by omega), ih]
/-- the configuration in force behind a cut -/
theorem Cut.conf {h X : H} {i : Int} (x : Cut h X i) (hc : X.conf = (h.force i).1) : (X.force h.last).1 = (h.force h.last).1 := by
  obtain ⟨o1, o2⟩ := x.off
  have h2 := x.hi
  have e1 : h.force i = forceK h i (h.off i) := by
    unfold H.force
    have : h.log.length = h.off i + (h.log.length - h.off i) := by omega
    rw [this, forceK_past (by omega)]
  unfold H.force at *
  rw [x.force (u := h.last) (by rw [hc, e1, forceK_upto (u := i) (v := h.last) (by omega) (by omega)])]
  have : h.off i + X.log.length = h.log.length := by rw [x.log, List.length_drop]; omega
  rw [this]
theorem forceK_right {h : H} {u : Int} (hr : h.right = true) (k : Nat) (hk : k ≤ h.log.length) : (forceK h u k).1.right = true := by
  obtain ⟨a1, a2, a3, a4, a5, a6, a7, a8, a9, a10⟩ := right_parts hr
  induction k with
  | zero => exact a9
  | succ k ih =>
    by_cases c : (h.log.getD k E.zero).kind = 2 ∧ h.base + k + 1 ≤ u
    · rw [forceK_step c.1 c.2]
      have := (rowOk_get a10 k (by omega)).2.2
      rw [eright2 c.1, Bool.and_eq_true] at this
      exact this.2
    · rw [forceK_skip c]; exact ih (by omega)
theorem termOf_right {h : H} {i : Int} (hr : h.right = true) (hh : h.has i = true) : max h.bterm 1 ≤ h.termOf i ∧ h.termOf i ≤ h.term := by
  obtain ⟨a1, a2, a3, a4, a5, a6, a7, a8, a9, a10⟩ := right_parts hr
  have h1 := has_iff.1 hh
  rw [termOf_has (by omega) hh, entry_in hh]
  have := rowOk_get a10 (h.pos i) (pos_lt hh)
  exact ⟨this.1, this.2.1⟩
/-- compacting is installing what the log itself says -/
theorem comp_inst {h : H} {i : Int} {s : List Nat} (hr : h.right = true) (hh : h.has i = true) : h.compOk i s = h.instOk i (h.termOf i) (h.force i).1 s ∧ h.comp i s = h.inst i (h.termOf i) (h.force i).1 s ∧ h.fits i (h.termOf i) = true := by
  have h1 := has_iff.1 hh
  obtain ⟨t1, t2⟩ := termOf_right hr hh
  have hc : (h.force i).1.right = true := forceK_right hr _ (Nat.le_refl _)
  have hf : h.fits i (h.termOf i) = true := by
    unfold H.fits
    rw [Bool.and_eq_true, bne_iff_ne, beq_iff_eq]
    exact ⟨by omega, rfl⟩
  have e : h.compOk i s = h.instOk i (h.termOf i) (h.force i).1 s := by
    unfold H.compOk H.instOk
    rw [hr, hh, hc, decide_eq_true t1, decide_eq_true t2, decide_eq_true (by omega : h.base + 1 ≤ i)]
    by_cases h9 : i ≤ 1099511627776
    · rw [decide_eq_true h9, decide_eq_false (by omega : ¬ (1099511627776 : Int) < i)]; rfl
    · rw [decide_eq_false h9, decide_eq_true (by omega : (1099511627776 : Int) < i)]; rfl
  refine ⟨e, ?_, hf⟩
  unfold H.comp
  by_cases h0 : h.compOk i s = 0
  · rw [if_pos h0, (inst_code (e ▸ h0)).eq, if_pos hf]
  · rw [if_neg h0]
    unfold H.inst
    rw [if_neg (by rw [← e]; exact h0)]
theorem comp_bad {h : H} {i : Int} {s : List Nat} (x : h.right = false) : h.compOk i s = 6 ∧ h.comp i s = H.zero := by
  have : h.compOk i s = 6 := by unfold H.compOk; rw [if_pos x]
  exact ⟨this, by unfold H.comp; rw [if_neg (by omega)]⟩
theorem comp_arg {h : H} {i : Int} {s : List Nat} (x : h.right = true) (y : h.has i = false) : h.compOk i s = 1 ∧ h.comp i s = H.zero := by
  have : h.compOk i s = 1 := by unfold H.compOk; rw [if_neg (by rw [x]; simp), y]; rfl
  exact ⟨this, by unfold H.comp; rw [if_neg (by omega)]⟩
theorem comp_code {h : H} {i : Int} {s : List Nat} (x : h.compOk i s = 0) : h.right = true ∧ h.has i = true := by
  cases hr : h.right
  · rw [(comp_bad hr).1] at x; cases x
  · cases hy : h.has i
    · rw [(comp_arg hr hy).1] at x; cases x
    · exact ⟨rfl, rfl⟩
/-- what a compacted log is -/
structure CompIs (h X : H) (i : Int) (s : List Nat) : Prop where
  cut : Cut h X i
  right : X.right = true
  base : X.base = i
  snap : X.snap = s
  conf : (X.force h.last).1 = (h.force h.last).1
  len : X.log.length ≤ h.log.length
theorem comp_is {h : H} {i : Int} {s : List Nat} (x : h.compOk i s = 0) : CompIs h (h.comp i s) i s := by
  obtain ⟨hr, hh⟩ := comp_code x
  obtain ⟨e1, e2, e3⟩ := comp_inst (s := s) hr hh
  have x2 : h.instOk i (h.termOf i) (h.force i).1 s = 0 := e1 ▸ x
  have y := inst_code x2
  have c := inst_cut x2 e3
  rw [e2]
  exact ⟨c, inst_right x2, c.base, by rw [y.eq], c.conf (by rw [y.eq]), by rw [c.log, List.length_drop]; omega⟩
/-- what an installed log is -/
structure InstDone (h X : H) (i t : Int) (c : C) (s : List Nat) : Prop where
  right : X.right = true
  base : X.base = i
  bterm : X.bterm = t
  conf : X.conf = c
  snap : X.snap = s
  term : X.term = h.term
  vote : X.vote = h.vote
  len : X.log.length ≤ h.log.length
  cut : h.fits i t = true → Cut h X i
  bare : h.fits i t = false → X.last = i ∧ X.lastT = t
theorem inst_is {h : H} {i t : Int} {c : C} {s : List Nat} (x : h.instOk i t c s = 0) : InstDone h (h.inst i t c s) i t c s := by
  have y := inst_code x
  refine ⟨inst_right x, by rw [y.eq], by rw [y.eq], by rw [y.eq], by rw [y.eq], by rw [y.eq], by rw [y.eq], ?_, inst_cut x, fun f => ?_⟩
  · rw [y.eq]
    show (if _ then _ else _ : List E).length ≤ _
    split
    · rw [List.length_drop]; omega
    · exact Nat.zero_le _
  · rw [y.eq, f]
    exact ⟨by unfold H.last; simp, rfl⟩
end Go.Proofs.Ytaifjkilmdnfbaa.Lg
