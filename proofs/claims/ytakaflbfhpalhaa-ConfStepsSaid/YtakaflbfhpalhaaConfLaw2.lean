/- Plain mathematics of layer 8: all nodes, nobody; rounds of steps. No walk. -/
import Derived.Test.YtakaflbfhpalhaaConfLaw
namespace Go.Proofs.Ytakaflbfhpalhaa.Cn
open Go Go.RowKit Bh

theorem vot_in {c : C} (h : c.Ok) : In7 c.vot := h.f.or h.w
theorem sm_zero {p : Nat → Bool} (h : ∀ i, i < 7 → p i = false) : sm p = 0 := by
  simp only [sm]
  rw [h 0 (by omega), h 1 (by omega), h 2 (by omega), h 3 (by omega), h 4 (by omega), h 5 (by omega), h 6 (by omega)]
  rfl
structure AllFacts (c : C) (x : Int) : Prop where
  all : quo c 127 = true
  none : quo c 0 = false
  vot : quo c c.vot = true
  more : ∀ i : Nat, i < 7 → quo c x = true → quo c (bits .or .i64 x (pw i)) = true
  halfT : quo c x = true → quo c (bits .xor .i64 (-1) x) = false
  halfF : quo c x = false → quo c (bits .xor .i64 (-1) x) = false → cnt c.vot % 2 = 0
theorem all_facts {c : C} (h : c.Ok) (x : Int) : AllFacts c x := by
  have hpos : 0 < sm (tb c.vot) := by
    obtain ⟨i, hi, hb⟩ := (ne_zero h.f).1 h.ne
    refine sm_pos hi ?_
    show tb (bits .or .i64 c.f c.w) i = true
    rw [tb_or, hb, Bool.true_or]
  have hsum : sm (fun i => tb c.vot i && tb x i) + sm (fun i => tb c.vot i && tb (bits .xor .i64 (-1) x) i) = sm (tb c.vot) := sm_add_eq fun i hi => by
    rw [tb_xor, tb_m1' hi]
    cases tb c.vot i <;> cases tb x i <;> decide
  refine ⟨?_, ?_, ?_, fun i hi hq => ?_, fun hq => ?_, fun hq hq2 => ?_⟩
  · rw [quo_iff, sm_congr (p := fun i => tb c.vot i && tb 127 i) (q := tb c.vot) (fun i hi => by show (tb c.vot i && tb 127 i) = _; rw [tb_127' hi, Bool.and_true])]
    omega
  · rw [← Bool.not_eq_true, quo_iff, sm_zero (p := fun i => tb c.vot i && tb 0 i) (fun i _ => by show (tb c.vot i && tb 0 i) = _; rw [tb_0, Bool.and_false])]
    omega
  · rw [quo_iff, sm_congr (p := fun i => tb c.vot i && tb c.vot i) (q := tb c.vot) (fun i hi => Bool.and_self _)]
    omega
  · rw [quo_iff] at hq ⊢
    have := sm_le (p := fun i => tb c.vot i && tb x i) (q := fun j => tb c.vot j && tb (bits .or .i64 x (pw i)) j) (fun j hj => by
      rw [tb_or]
      cases tb c.vot j <;> cases tb x j <;> cases tb (pw i) j <;> decide)
    omega
  · rw [quo_iff] at hq
    rw [← Bool.not_eq_true, quo_iff]
    omega
  · rw [← Bool.not_eq_true, quo_iff] at hq hq2
    rw [cnt_sm]
    omega
/-! ### rounds -/
theorem stays_f {a : C} (h : a.Ok) {i : Nat} (hi : i < 7) (hk : a.kd i ≠ 1) (k : Nat) : (wth a i k).f ≠ 0 := by
  obtain ⟨j, hj, hb⟩ := (ne_zero h.f).1 h.ne
  have hne : i ≠ j := fun e => by
    subst e
    apply hk
    unfold C.kd
    rw [hb]
    rfl
  rw [ne_zero (wth_in h hi k).1]
  exact ⟨j, hj, by rw [wth_f a i k hi hj, if_neg hne]; exact hb⟩
theorem back {c m : C} (hc : c.Ok) (hm : m.Ok) {i : Nat} (hi : i < 7) (h0 : c.kd i = 0) (hk : m.kd i ≠ 1) (ho : ∀ j, j < 7 → i ≠ j → m.kd j = c.kd j) : wth m i 0 = c := by
  refine C.ext_kd (wth_ok hm hi 0 (stays_f hm hi hk 0)) hc fun j hj => ?_
  by_cases e : i = j
  · subst e
    rw [kd_wth m hi (by omega), h0]
  · rw [kd_other m hi hj 0 e, ho j hj e]
structure Rounds (c a : C) (i : Int) (wit : Bool) (d : C) : Prop where
  gone : stepM a i remN = (c, 0)
  prom : stepM a i promN = (d, 0)
  gone2 : stepM d i remN = (c, 0)
  ka : a.kind i = if wit then 4 else 3
  kd : d.kind i = if wit then 2 else 1
  vot : a.vot = c.vot
theorem rounds {c a : C} {i : Int} {wit : Bool} (h : Step c i (lrnN wit) a) : ∃ d, Rounds c a i wit d := by
  have h1 := h.lo
  have h2 := h.hi
  have hi : i.toNat < 7 := by omega
  have h0 : c.kd i.toNat = 0 := by have := h.may; simpa [lrnN] using this
  have hl : (lrnN wit (c.kd i.toNat)).1 = if wit then 4 else 3 := rfl
  obtain ⟨n, hn⟩ : ∃ n, n = i.toNat := ⟨_, rfl⟩
  have hma := h.made
  rw [hl, ← hn] at hma
  rw [← hn] at h0 hi
  have hcase : (if wit then 4 else 3) = 3 ∨ (if wit then 4 else 3) = 4 := by cases wit <;> decide
  obtain ⟨k1, hk1⟩ : ∃ k1, k1 = if wit then 4 else 3 := ⟨_, rfl⟩
  rw [← hk1] at hma hcase
  have hka : a.kd n = k1 := by rw [hma]; exact kd_wth c hi (by omega)
  have hoa : ∀ j, j < 7 → n ≠ j → a.kd j = c.kd j := fun j hj e => by rw [hma]; exact kd_other c hi hj _ e
  have hnx : ∀ k, k = 3 ∨ k = 4 → (promN k).2 = true ∧ (promN k).1 = k - 2 := fun k hk => by rcases hk with rfl | rfl <;> decide
  obtain ⟨hp1, hp2⟩ := hnx _ hcase
  have hd1 : (wth a n (k1 - 2)).Ok := wth_ok h.right hi _ (stays_f h.right hi (by omega) _)
  have hkd : (wth a n (k1 - 2)).kd n = k1 - 2 := kd_wth a hi (by omega)
  have hod : ∀ j, j < 7 → n ≠ j → (wth a n (k1 - 2)).kd j = c.kd j := fun j hj e => by rw [kd_other a hi hj _ e]; exact hoa j hj e
  have b1 : wth a n 0 = c := back h.ok h.right hi h0 (by omega) hoa
  have hfull : (wth (wth a n (k1 - 2)) n 0).f ≠ 0 := by
    obtain ⟨j, hj, hb⟩ := (ne_zero h.ok.f).1 h.ok.ne
    have hne : n ≠ j := fun e => by
      subst e
      have : c.kd n = 1 := by unfold C.kd; rw [hb]; rfl
      omega
    rw [ne_zero (wth_in hd1 hi 0).1]
    refine ⟨j, hj, ?_⟩
    rw [wth_f _ _ _ hi hj, if_neg hne, wth_f _ _ _ hi hj, if_neg hne, hma, wth_f _ _ _ hi hj, if_neg hne]
    exact hb
  have b2 : wth (wth a n (k1 - 2)) n 0 = c := by
    refine C.ext_kd (wth_ok hd1 hi 0 hfull) h.ok fun j hj => ?_
    by_cases e : n = j
    · subst e
      rw [kd_wth _ hi (by omega), h0]
    · rw [kd_other _ hi hj 0 e, hod j hj e]
  refine ⟨wth a n (k1 - 2), ?_, ?_, ?_, ?_, ?_, ?_⟩
  · rw [step_is h.right h1 h2 (by rw [← hn, hka]; rcases hcase with e | e <;> rw [e] <;> decide) (by rw [← hn]; exact b1 ▸ h.ok), ← hn]
    exact congrArg (fun m => (m, (0 : Int))) b1
  · rw [step_is h.right h1 h2 (by rw [← hn, hka]; exact hp1) (by rw [← hn, hka, hp2]; exact hd1), ← hn, hka, hp2]
  · rw [step_is hd1 h1 h2 (by rw [← hn, hkd]; rcases hcase with e | e <;> rw [e] <;> decide) (by rw [← hn]; exact b2 ▸ h.ok), ← hn]
    exact congrArg (fun m => (m, (0 : Int))) b2
  · unfold C.kind; rw [if_pos ⟨h1, h2⟩, ← hn, hka, hk1]
  · unfold C.kind; rw [if_pos ⟨h1, h2⟩, ← hn, hkd, hk1]; cases wit <;> rfl
  · refine ext7 (vot_in h.right) (vot_in h.ok) fun j hj => ?_
    by_cases e : n = j
    · subst e
      have k0 : (decide (k1 = 1) || decide (k1 = 2)) = false := by rcases hcase with e | e <;> rw [e] <;> decide
      rw [hma, wth_vot c _ _ hi hj, if_pos rfl, k0]
      show false = tb (bits .or .i64 c.f c.w) n
      rw [tb_or]
      unfold C.kd at h0
      revert h0
      cases tb c.f n <;> cases tb c.w n <;> simp
    · rw [hma, wth_vot c _ _ hi hj, if_neg e]
theorem told_rounds (c : C) (i : Int) (wit : Bool) : ((stepM c i (lrnN wit)).2 ≠ 0 ∧ (stepM c i (lrnN wit)).1 = C.zero) ∨ ((stepM c i (lrnN wit)).2 = 0 ∧ ∃ d, Rounds c (stepM c i (lrnN wit)).1 i wit d) := by
  rcases step_told c i (lrnN wit) with h | ⟨h1, h2⟩
  · exact .inl h
  · exact .inr ⟨h1, rounds h2⟩
end Go.Proofs.Ytakaflbfhpalhaa.Cn
