/- Plain mathematics of layer 8: what follows (quorums meet; steps). No walk. -/
import Derived.Test.YtakaflbfhpalhaaConfE
namespace Go.Proofs.Ytakaflbfhpalhaa.Cn
open Go Go.RowKit Bh

theorem tb_pw' {i j : Nat} (hi : i < 7) (hj : j < 7) : tb (pw i) j = decide (i = j) := by
  rw [tb_pw ⟨i, hi⟩ ⟨j, hj⟩, decide_eq_decide]
  exact Fin.mk.injEq _ _ _ _ ▸ Iff.rfl
theorem tb_127' {i : Nat} (hi : i < 7) : tb 127 i = true := tb_127 ⟨i, hi⟩
theorem tb_m1' {i : Nat} (hi : i < 7) : tb (-1) i = true := tb_m1 ⟨i, hi⟩
theorem low_zero {z : Int} (h : bits .and .i64 z 127 = 0) {i : Nat} (hi : i < 7) : tb z i = false := by
  have := tb_and z 127 i
  rw [h, tb_0, tb_127' hi, Bool.and_true] at this
  exact this.symm
/-! ### sums of bits -/
def sm (p : Nat → Bool) : Nat := (p 0).toNat + (p 1).toNat + (p 2).toNat + (p 3).toNat + (p 4).toNat + (p 5).toNat + (p 6).toNat
theorem cnt_sm (x : Int) : cnt x = sm (tb x) := rfl
theorem sm_le {p q : Nat → Bool} (h : ∀ i, i < 7 → (p i).toNat ≤ (q i).toNat) : sm p ≤ sm q := by
  unfold sm
  have := h 0 (by omega)
  have := h 1 (by omega)
  have := h 2 (by omega)
  have := h 3 (by omega)
  have := h 4 (by omega)
  have := h 5 (by omega)
  have := h 6 (by omega)
  omega
theorem sm_congr {p q : Nat → Bool} (h : ∀ i, i < 7 → p i = q i) : sm p = sm q := Nat.le_antisymm (sm_le fun i hi => by rw [h i hi]; exact Nat.le_refl _) (sm_le fun i hi => by rw [h i hi]; exact Nat.le_refl _)
theorem sm_add_le {p q r : Nat → Bool} (h : ∀ i, i < 7 → (p i).toNat + (q i).toNat ≤ (r i).toNat) : sm p + sm q ≤ sm r := by
  unfold sm
  have := h 0 (by omega)
  have := h 1 (by omega)
  have := h 2 (by omega)
  have := h 3 (by omega)
  have := h 4 (by omega)
  have := h 5 (by omega)
  have := h 6 (by omega)
  omega
theorem sm_add_eq {p q r : Nat → Bool} (h : ∀ i, i < 7 → (p i).toNat + (q i).toNat = (r i).toNat) : sm p + sm q = sm r := by
  unfold sm
  have := h 0 (by omega)
  have := h 1 (by omega)
  have := h 2 (by omega)
  have := h 3 (by omega)
  have := h 4 (by omega)
  have := h 5 (by omega)
  have := h 6 (by omega)
  omega
theorem sm_pos {p : Nat → Bool} {i : Nat} (hi : i < 7) (h : p i = true) : 0 < sm p := by
  unfold sm
  obtain rfl | rfl | rfl | rfl | rfl | rfl | rfl : i = 0 ∨ i = 1 ∨ i = 2 ∨ i = 3 ∨ i = 4 ∨ i = 5 ∨ i = 6 := by omega
  all_goals rw [h]; simp only [Bool.toNat_true]; omega
/-- where all but one are the same -/
theorem sm_near {p q : Nat → Bool} {k : Nat} (h : ∀ i, i < 7 → i ≠ k → p i = q i) : 2 * sm (fun i => p i || q i) ≤ sm p + sm q + 1 := by
  have one : ∀ a b : Bool, 2 * (a || b).toNat ≤ a.toNat + b.toNat + 1 := by decide
  have same : ∀ a : Bool, 2 * (a || a).toNat = a.toNat + a.toNat := by decide
  have key : ∀ i, i < 7 → 2 * (p i || q i).toNat ≤ (p i).toNat + (q i).toNat + (if i = k then 1 else 0) := fun i hi => by
    by_cases hk : i = k
    · rw [if_pos hk]; exact one _ _
    · rw [if_neg hk, h i hi hk, same]; omega
  have hk : (if 0 = k then 1 else 0) + (if 1 = k then 1 else 0) + (if 2 = k then 1 else 0) + (if 3 = k then 1 else 0) + (if 4 = k then 1 else 0) + (if 5 = k then 1 else 0) + (if 6 = k then 1 else 0) ≤ 1 := by
    by_cases h7 : k < 7
    · obtain rfl | rfl | rfl | rfl | rfl | rfl | rfl : k = 0 ∨ k = 1 ∨ k = 2 ∨ k = 3 ∨ k = 4 ∨ k = 5 ∨ k = 6 := by omega
      all_goals decide
    · rw [if_neg (by omega), if_neg (by omega), if_neg (by omega), if_neg (by omega), if_neg (by omega), if_neg (by omega), if_neg (by omega)]; omega
  have k0 := key 0 (by omega)
  have k1 := key 1 (by omega)
  have k2 := key 2 (by omega)
  have k3 := key 3 (by omega)
  have k4 := key 4 (by omega)
  have k5 := key 5 (by omega)
  have k6 := key 6 (by omega)
  simp only [sm]
  omega
/-- how many differ, where all but one are the same -/
theorem sm_diff {p q : Nat → Bool} {k : Nat} (h : ∀ i, i < 7 → i ≠ k → p i = q i) : sm (fun i => p i && !q i) + sm (fun i => q i && !p i) ≤ 1 := by
  have one : ∀ a b : Bool, (a && !b).toNat + (b && !a).toNat ≤ 1 := by decide
  have same : ∀ a : Bool, (a && !a).toNat + (a && !a).toNat = 0 := by decide
  have key : ∀ i, i < 7 → (p i && !q i).toNat + (q i && !p i).toNat ≤ (if i = k then 1 else 0) := fun i hi => by
    by_cases hk : i = k
    · rw [if_pos hk]; exact one _ _
    · rw [if_neg hk, h i hi hk, same]; omega
  have hk : (if 0 = k then 1 else 0) + (if 1 = k then 1 else 0) + (if 2 = k then 1 else 0) + (if 3 = k then 1 else 0) + (if 4 = k then 1 else 0) + (if 5 = k then 1 else 0) + (if 6 = k then 1 else 0) ≤ 1 := by
    by_cases h7 : k < 7
    · obtain rfl | rfl | rfl | rfl | rfl | rfl | rfl : k = 0 ∨ k = 1 ∨ k = 2 ∨ k = 3 ∨ k = 4 ∨ k = 5 ∨ k = 6 := by omega
      all_goals decide
    · rw [if_neg (by omega), if_neg (by omega), if_neg (by omega), if_neg (by omega), if_neg (by omega), if_neg (by omega), if_neg (by omega)]; omega
  have k0 := key 0 (by omega)
  have k1 := key 1 (by omega)
  have k2 := key 2 (by omega)
  have k3 := key 3 (by omega)
  have k4 := key 4 (by omega)
  have k5 := key 5 (by omega)
  have k6 := key 6 (by omega)
  simp only [sm]
  omega
/-! ### quorums -/
theorem quo_iff {c : C} {x : Int} : quo c x = true ↔ sm (tb c.vot) < 2 * sm (fun i => tb c.vot i && tb x i) := by
  unfold quo
  rw [decide_eq_true_eq, cnt_sm, cnt_sm, show sm (tb (bits .and .i64 c.vot x)) = sm (fun i => tb c.vot i && tb x i) from sm_congr fun i _ => tb_and _ _ _]
theorem meet1 {a : C} {x y : Int} (hx : quo a x = true) (hy : quo a y = true) : bits .and .i64 (bits .and .i64 (bits .and .i64 x y) a.vot) 127 ≠ 0 := by
  intro h
  have hz : ∀ i, i < 7 → (tb x i && tb y i && tb a.vot i) = false := fun i hi => by
    rw [← tb_and, ← tb_and]; exact low_zero h hi
  rw [quo_iff] at hx hy
  have : sm (fun i => tb a.vot i && tb x i) + sm (fun i => tb a.vot i && tb y i) ≤ sm (tb a.vot) := sm_add_le fun i hi => by
    have := hz i hi
    revert this
    cases tb x i <;> cases tb y i <;> cases tb a.vot i <;> decide
  omega
/-! ### steps -/
theorem wth_f (c : C) (i k : Nat) {j : Nat} (hi : i < 7) (hj : j < 7) : tb (wth c i k).f j = if i = j then decide (k = 1) else tb c.f j := by
  show tb (if k = 1 then bits .or .i64 (bits .andNot .i64 c.f (pw i)) (pw i) else bits .andNot .i64 c.f (pw i)) j = _
  by_cases hk : k = 1
  · rw [if_pos hk, tb_or, tb_andNot _ _ _ (by omega), tb_pw' hi hj]
    by_cases h : i = j <;> simp [h, hk]
  · rw [if_neg hk, tb_andNot _ _ _ (by omega), tb_pw' hi hj]
    by_cases h : i = j <;> simp [h, hk]
theorem wth_w (c : C) (i k : Nat) {j : Nat} (hi : i < 7) (hj : j < 7) : tb (wth c i k).w j = if i = j then decide (k = 2) else tb c.w j := by
  show tb (if k = 2 then bits .or .i64 (bits .andNot .i64 c.w (pw i)) (pw i) else bits .andNot .i64 c.w (pw i)) j = _
  by_cases hk : k = 2
  · rw [if_pos hk, tb_or, tb_andNot _ _ _ (by omega), tb_pw' hi hj]
    by_cases h : i = j <;> simp [h, hk]
  · rw [if_neg hk, tb_andNot _ _ _ (by omega), tb_pw' hi hj]
    by_cases h : i = j <;> simp [h, hk]
theorem wth_l (c : C) (i k : Nat) {j : Nat} (hi : i < 7) (hj : j < 7) : tb (wth c i k).l j = if i = j then decide (k = 3) else tb c.l j := by
  show tb (if k = 3 then bits .or .i64 (bits .andNot .i64 c.l (pw i)) (pw i) else bits .andNot .i64 c.l (pw i)) j = _
  by_cases hk : k = 3
  · rw [if_pos hk, tb_or, tb_andNot _ _ _ (by omega), tb_pw' hi hj]
    by_cases h : i = j <;> simp [h, hk]
  · rw [if_neg hk, tb_andNot _ _ _ (by omega), tb_pw' hi hj]
    by_cases h : i = j <;> simp [h, hk]
theorem wth_x (c : C) (i k : Nat) {j : Nat} (hi : i < 7) (hj : j < 7) : tb (wth c i k).x j = if i = j then decide (k = 4) else tb c.x j := by
  show tb (if k = 4 then bits .or .i64 (bits .andNot .i64 c.x (pw i)) (pw i) else bits .andNot .i64 c.x (pw i)) j = _
  by_cases hk : k = 4
  · rw [if_pos hk, tb_or, tb_andNot _ _ _ (by omega), tb_pw' hi hj]
    by_cases h : i = j <;> simp [h, hk]
  · rw [if_neg hk, tb_andNot _ _ _ (by omega), tb_pw' hi hj]
    by_cases h : i = j <;> simp [h, hk]
theorem wth_vot (c : C) (i k : Nat) {j : Nat} (hi : i < 7) (hj : j < 7) : tb (wth c i k).vot j = if i = j then decide (k = 1) || decide (k = 2) else tb c.vot j := by
  show tb (bits .or .i64 (wth c i k).f (wth c i k).w) j = if i = j then decide (k = 1) || decide (k = 2) else tb (bits .or .i64 c.f c.w) j
  rw [tb_or, tb_or, wth_f c i k hi hj, wth_w c i k hi hj]
  by_cases h : i = j <;> simp [h]
theorem wth_in {c : C} (h : c.Ok) {i : Nat} (hi : i < 7) (k : Nat) : In7 (wth c i k).f ∧ In7 (wth c i k).w ∧ In7 (wth c i k).l ∧ In7 (wth c i k).x := by
  refine ⟨?_, ?_, ?_, ?_⟩
  · show In7 (if k = 1 then _ else _)
    split
    · exact (h.f.andNot_pw hi).or (In7.pw hi)
    · exact h.f.andNot_pw hi
  · show In7 (if k = 2 then _ else _)
    split
    · exact (h.w.andNot_pw hi).or (In7.pw hi)
    · exact h.w.andNot_pw hi
  · show In7 (if k = 3 then _ else _)
    split
    · exact (h.l.andNot_pw hi).or (In7.pw hi)
    · exact h.l.andNot_pw hi
  · show In7 (if k = 4 then _ else _)
    split
    · exact (h.x.andNot_pw hi).or (In7.pw hi)
    · exact h.x.andNot_pw hi
/-- a node of another kind: right, but for somebody full -/
theorem wth_ok {c : C} (h : c.Ok) {i : Nat} (hi : i < 7) (k : Nat) (hf : (wth c i k).f ≠ 0) : (wth c i k).Ok := by
  obtain ⟨h1, h2, h3, h4⟩ := wth_in h hi k
  refine ⟨h1, h2, h3, h4, hf, fun j hj => ?_⟩
  show apart (tb (wth c i k).f j) (tb (wth c i k).w j) (tb (wth c i k).l j) (tb (wth c i k).x j) = true
  rw [wth_f c i k hi hj, wth_w c i k hi hj, wth_l c i k hi hj, wth_x c i k hi hj]
  by_cases e : i = j
  · simp only [e, if_true]
    by_cases k1 : k = 1
    · subst k1; rfl
    · by_cases k2 : k = 2
      · subst k2; rfl
      · by_cases k3 : k = 3
        · subst k3; rfl
        · simp [apart, k1, k2, k3]
  · simp only [e, if_false]
    exact h.apt j hj
theorem kd_wth (c : C) {i : Nat} (hi : i < 7) {k : Nat} (hk : k < 5) : (wth c i k).kd i = k := by
  unfold C.kd
  rw [wth_f c i k hi hi, wth_w c i k hi hi, wth_l c i k hi hi, wth_x c i k hi hi]
  simp only [if_true, decide_eq_true_eq]
  obtain rfl | rfl | rfl | rfl | rfl : k = 0 ∨ k = 1 ∨ k = 2 ∨ k = 3 ∨ k = 4 := by omega
  all_goals rfl
/-- two right ones of like kinds are one -/
theorem C.ext_kd {a b : C} (ha : a.Ok) (hb : b.Ok) (h : ∀ i, i < 7 → a.kd i = b.kd i) : a = b := by
  have key : ∀ i, i < 7 → tb a.f i = tb b.f i ∧ tb a.w i = tb b.w i ∧ tb a.l i = tb b.l i ∧ tb a.x i = tb b.x i := fun i hi => by
    have h1 : apart (tb a.f i) (tb a.w i) (tb a.l i) (tb a.x i) = true := ha.apt i hi
    have h2 : apart (tb b.f i) (tb b.w i) (tb b.l i) (tb b.x i) = true := hb.apt i hi
    have h3 := h i hi
    unfold C.kd at h3
    revert h1 h2 h3
    cases tb a.f i <;> cases tb a.w i <;> cases tb a.l i <;> cases tb a.x i <;> cases tb b.f i <;> cases tb b.w i <;> cases tb b.l i <;> cases tb b.x i <;> decide
  rw [C.eq_iff]
  exact ⟨ext7 ha.f hb.f fun i hi => (key i hi).1, ext7 ha.w hb.w fun i hi => (key i hi).2.1, ext7 ha.l hb.l fun i hi => (key i hi).2.2.1, ext7 ha.x hb.x fun i hi => (key i hi).2.2.2⟩
theorem kd_other (c : C) {i j : Nat} (hi : i < 7) (hj : j < 7) (k : Nat) (h : i ≠ j) : (wth c i k).kd j = c.kd j := by
  unfold C.kd
  rw [wth_f c i k hi hj, wth_w c i k hi hj, wth_l c i k hi hj, wth_x c i k hi hj]
  simp only [h, if_false]
/-- a step that is told -/
structure Step (c : C) (i : Int) (nx : Nat → Nat × Bool) (m : C) : Prop where
  ok : c.Ok
  lo : 0 ≤ i
  hi : i ≤ 6
  may : (nx (c.kd i.toNat)).2 = true
  made : m = wth c i.toNat (nx (c.kd i.toNat)).1
  right : m.Ok
theorem step_told (c : C) (i : Int) (nx : Nat → Nat × Bool) : ((stepM c i nx).2 ≠ 0 ∧ (stepM c i nx).1 = C.zero) ∨ ((stepM c i nx).2 = 0 ∧ Step c i nx (stepM c i nx).1) := by
  unfold stepM
  cases hr : c.right
  · left; exact ⟨fun h => absurd (show (14 : Int) = 0 from h) (by decide), rfl⟩
  · cases hi : isN i
    · left; exact ⟨fun h => absurd (show (1 : Int) = 0 from h) (by decide), rfl⟩
    · cases hm : (nx (c.kd i.toNat)).2 && (wth c i.toNat (nx (c.kd i.toNat)).1).right
      · left; exact ⟨fun h => absurd (show (14 : Int) = 0 from h) (by decide), rfl⟩
      · right
        rw [Bool.and_eq_true] at hm
        obtain ⟨h1, h2⟩ := isN_iff.1 hi
        exact ⟨rfl, right_iff.1 hr, h1, h2, hm.1, rfl, right_iff.1 hm.2⟩
theorem step_is {c : C} {i : Int} {nx : Nat → Nat × Bool} (h : c.Ok) (h1 : 0 ≤ i) (h2 : i ≤ 6) (hm : (nx (c.kd i.toNat)).2 = true) (hr : (wth c i.toNat (nx (c.kd i.toNat)).1).Ok) :
    stepM c i nx = (wth c i.toNat (nx (c.kd i.toNat)).1, 0) := by
  unfold stepM
  rw [right_iff.2 h, isN_iff.2 ⟨h1, h2⟩, hm, right_iff.2 hr]
  rfl
theorem zero_not : ¬ C.zero.Ok := fun h => h.ne rfl
theorem Step.vot {c m : C} {i : Int} {nx : Nat → Nat × Bool} (h : Step c i nx m) {j : Nat} (hj : j < 7) (hne : j ≠ i.toNat) : tb c.vot j = tb m.vot j := by
  have := h.lo
  have := h.hi
  rw [h.made, wth_vot c _ _ (by omega) hj, if_neg (by omega)]
theorem near_told {a b : C} (h : nearM a b = true) : a.Ok ∧ b.Ok ∧ (a = b ∨ ∃ i : Nat, i < 7 ∧ (∃ nx, Step a (i : Nat) nx b ∧ (nx = lrnN false ∨ nx = lrnN true ∨ nx = promN ∨ nx = remN))) := by
  unfold nearM at h
  rw [Bool.and_eq_true, Bool.and_eq_true, Bool.or_eq_true, decide_eq_true_eq] at h
  obtain ⟨⟨ha, hb⟩, h⟩ := h
  have hA := right_iff.1 ha
  have hB := right_iff.1 hb
  refine ⟨hA, hB, ?_⟩
  rcases h with h | h
  · exact .inl h
  · right
    obtain ⟨i, hi, hl⟩ := List.any_eq_true.1 h
    have hi := List.mem_range.1 hi
    have one : ∀ nx, b = (stepM a (i : Nat) nx).1 → Step a (i : Nat) nx b := fun nx e => by
      rcases step_told a (i : Nat) nx with ⟨_, hz⟩ | ⟨_, hs⟩
      · rw [hz] at e; rw [e] at hB; exact absurd hB zero_not
      · rw [← e] at hs; exact hs
    unfold leadsM at hl
    simp only [Bool.or_eq_true, decide_eq_true_eq] at hl
    refine ⟨i, hi, ?_⟩
    rcases hl with ((e | e) | e) | e
    · exact ⟨_, one _ e, .inl rfl⟩
    · exact ⟨_, one _ e, .inr (.inl rfl)⟩
    · exact ⟨_, one _ e, .inr (.inr (.inl rfl))⟩
    · exact ⟨_, one _ e, .inr (.inr (.inr rfl))⟩
theorem meet2 {a b : C} {x y : Int} (hn : nearM a b = true) (hx : quo a x = true) (hy : quo b y = true) : bits .and .i64 (bits .and .i64 x y) 127 ≠ 0 := by
  intro h
  obtain ⟨_, _, hs⟩ := near_told hn
  have hv : ∃ k, ∀ j, j < 7 → j ≠ k → tb a.vot j = tb b.vot j := by
    rcases hs with rfl | ⟨i, hi, nx, hs, _⟩
    · exact ⟨0, fun _ _ _ => rfl⟩
    · exact ⟨((i : Nat) : Int).toNat, fun j hj hne => hs.vot hj hne⟩
  obtain ⟨k, hv⟩ := hv
  have hz : ∀ i, i < 7 → (tb x i && tb y i) = false := fun i hi => by rw [← tb_and]; exact low_zero h hi
  rw [quo_iff] at hx hy
  have h1 : sm (fun i => tb a.vot i && tb x i) + sm (fun i => tb b.vot i && tb y i) ≤ sm (fun i => tb a.vot i || tb b.vot i) := sm_add_le fun i hi => by
    have := hz i hi
    revert this
    cases tb x i <;> cases tb y i <;> cases tb a.vot i <;> cases tb b.vot i <;> decide
  have h2 := sm_near hv
  omega
/-! ### what a step leads to -/
theorem kname_inj {j k : Nat} (hj : j < 5) (hk : k < 5) (h : kname j = kname k) : j = k := by
  have all : ∀ j k : Fin 5, (kname j.val).data.toList = (kname k.val).data.toList → j = k := by decide +kernel
  exact congrArg Fin.val (all ⟨j, hj⟩ ⟨k, hk⟩ (by rw [h]))
theorem moves_lrn (wit : Bool) (k : Nat) (h : (lrnN wit k).2 = true) : (lrnN wit k).1 ≠ k ∧ (lrnN wit k).1 < 5 := by
  have hk : k = 0 := by simpa [lrnN] using h
  subst hk
  cases wit <;> decide
theorem moves_prom (k : Nat) (h : (promN k).2 = true) : (promN k).1 ≠ k ∧ (promN k).1 < 5 := by
  unfold promN at h ⊢
  by_cases h3 : k = 3
  · subst h3; decide
  · rw [if_neg h3] at h ⊢
    have hk : k = 4 := by simpa using h
    subst hk
    decide
theorem moves_rem (k : Nat) (h : (remN k).2 = true) : (remN k).1 ≠ k ∧ (remN k).1 < 5 := by
  have hk : k ≠ 0 := by simpa [remN] using h
  exact ⟨fun e => hk e.symm, show 0 < 5 by omega⟩
/-- what is told of a step that is -/
structure Went (a x : C) (i : Int) : Prop where
  ca : a.check = 0
  cx : x.check = 0
  near : nearM a x = true
  ne : decide (a = x) = false
  few : (((cnt (bits .andNot .i64 a.vot x.vot) : Nat) : Int) + ((cnt (bits .andNot .i64 x.vot a.vot) : Nat) : Int)) ≤ 1
  kind : kname (a.kind i) ≠ kname (x.kind i)
theorem went {a x : C} {i : Int} {nx : Nat → Nat × Bool} (h : Step a i nx x) (hm : ∀ k, (nx k).2 = true → (nx k).1 ≠ k ∧ (nx k).1 < 5) (hl : leadsM a x i = true) : Went a x i := by
  have h1 := h.lo
  have h2 := h.hi
  have hi : i.toNat < 7 := by omega
  have hk := hm _ h.may
  have hx : x.kd i.toNat = (nx (a.kd i.toNat)).1 := by rw [h.made, kd_wth a hi hk.2]
  have hne : a ≠ x := fun e => hk.1 (by rw [← hx, ← e])
  have hra := right_iff.2 h.ok
  have hrx := right_iff.2 h.right
  refine ⟨by unfold C.check; rw [hra]; rfl, by unfold C.check; rw [hrx]; rfl, near_hit hra hrx hi (by rw [show ((i.toNat : Nat) : Int) = i by omega]; exact hl), decide_eq_false hne, ?_, ?_⟩
  · have h3 := sm_diff (p := tb a.vot) (q := tb x.vot) (k := i.toNat) (fun j hj hne => h.vot hj hne)
    rw [cnt_sm, cnt_sm, sm_congr (p := tb (bits .andNot .i64 a.vot x.vot)) (fun j hj => tb_andNot a.vot x.vot j (by omega)), sm_congr (p := tb (bits .andNot .i64 x.vot a.vot)) (fun j hj => tb_andNot x.vot a.vot j (by omega))]
    omega
  · intro e
    have e2 : a.kind i = a.kd i.toNat := by unfold C.kind; rw [if_pos ⟨h1, h2⟩]
    have e3 : x.kind i = x.kd i.toNat := by unfold C.kind; rw [if_pos ⟨h1, h2⟩]
    rw [e2, e3] at e
    have := kname_inj (kd_lt a _) (kd_lt x _) e
    exact hk.1 (by rw [← hx, this])
theorem went_lrn {a x : C} {i : Int} {wit : Bool} (h : Step a i (lrnN wit) x) (hs : (stepM a i (lrnN wit)).1 = x) : Went a x i :=
  went h (moves_lrn wit) (by unfold leadsM; cases wit <;> simp [hs])
theorem went_prom {a x : C} {i : Int} (h : Step a i promN x) (hs : (stepM a i promN).1 = x) : Went a x i :=
  went h moves_prom (by unfold leadsM; simp [hs])
theorem went_rem {a x : C} {i : Int} (h : Step a i remN x) (hs : (stepM a i remN).1 = x) : Went a x i :=
  went h moves_rem (by unfold leadsM; simp [hs])
/-- a step's answer, both ways -/
theorem told_lrn (a : C) (i : Int) (wit : Bool) : ((stepM a i (lrnN wit)).2 ≠ 0 ∧ (stepM a i (lrnN wit)).1 = C.zero) ∨ ((stepM a i (lrnN wit)).2 = 0 ∧ Went a (stepM a i (lrnN wit)).1 i) := by
  rcases step_told a i (lrnN wit) with h | ⟨h1, h2⟩
  · exact .inl h
  · exact .inr ⟨h1, went_lrn h2 rfl⟩
theorem told_prom (a : C) (i : Int) : ((stepM a i promN).2 ≠ 0 ∧ (stepM a i promN).1 = C.zero) ∨ ((stepM a i promN).2 = 0 ∧ Went a (stepM a i promN).1 i) := by
  rcases step_told a i promN with h | ⟨h1, h2⟩
  · exact .inl h
  · exact .inr ⟨h1, went_prom h2 rfl⟩
theorem told_rem (a : C) (i : Int) : ((stepM a i remN).2 ≠ 0 ∧ (stepM a i remN).1 = C.zero) ∨ ((stepM a i remN).2 = 0 ∧ Went a (stepM a i remN).1 i) := by
  rcases step_told a i remN with h | ⟨h1, h2⟩
  · exact .inl h
  · exact .inr ⟨h1, went_rem h2 rfl⟩
end Go.Proofs.Ytakaflbfhpalhaa.Cn
