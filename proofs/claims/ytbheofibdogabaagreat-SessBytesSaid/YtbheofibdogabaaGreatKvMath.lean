import Derived.Test.YtbheofibdogabaaGreatMergeSb0
import Derived.Test.YtbheofibdogabaaGreatMergeSb4
/- Plain mathematics of layer 6: pairs, commands, what is done. No program. -/
namespace Go.Proofs.YtbheofibdogabaaGreat.Kv
open Go Go.RowKit Vl Nm
/-- the order of keys -/
def klt (a b : ByteArray) : Prop := a.data.toList < b.data.toList
instance (a b : ByteArray) : Decidable (klt a b) := inferInstanceAs (Decidable (a.data.toList < b.data.toList))
theorem klt_irrefl (a : ByteArray) : ¬ klt a a := bytes_irrefl _
theorem klt_trans {a b c : ByteArray} (h : klt a b) (k : klt b c) : klt a c := bytes_trans _ _ _ h k
theorem key_eq {a b : ByteArray} : a = b ↔ a.data.toList = b.data.toList :=
  ⟨fun h => by rw [h], fun h => by cases a; cases b; congr 1; exact Array.ext' h⟩
theorem klt_three (a b : ByteArray) : klt a b ∨ a = b ∨ klt b a := by rw [key_eq]; exact bytes_three _ _
theorem klt_ne {a b : ByteArray} (h : klt a b) : a ≠ b := fun e => by subst e; exact klt_irrefl _ h
theorem klt_asymm {a b : ByteArray} (h : klt a b) : ¬ klt b a := fun k => klt_irrefl _ (klt_trans h k)

/-! ### right pairs -/
def Pr.right (p : Pr) : Bool := decide (p.key.size ≠ 0) && decide (p.key.size ≤ 8) && decide (p.val.kind ≠ 0) && decide (p.val.check = 0)
def good (L : List Pr) (j : Nat) : Bool := (L.getD j Pr.zero).right && (decide (j = 0) || decide (klt (L.getD (j - 1) Pr.zero).key (L.getD j Pr.zero).key))
def rightN (L : List Pr) (n : Nat) : Bool := (List.range n).all (good L)
def rightP (L : List Pr) : Bool := decide (L.length ≤ 32) && rightN L L.length
theorem rightN_zero (L : List Pr) : rightN L 0 = true := rfl
theorem rightN_succ (L : List Pr) (n : Nat) : rightN L (n + 1) = (rightN L n && good L n) := by unfold rightN; rw [List.range_succ, List.all_append]; simp
theorem rightP_of {L : List Pr} (h : rightN L L.length = true) : rightP L = decide (L.length ≤ 32) := by unfold rightP; rw [h]; simp
theorem rightN_false {L : List Pr} {i : Nat} (hi : i < L.length) (h : good L i = false) : rightN L L.length = false := by
  unfold rightN
  rw [List.all_eq_false]
  exact ⟨i, List.mem_range.2 hi, by rw [h]; simp⟩
theorem rightP_false {L : List Pr} {i : Nat} (hi : i < L.length) (h : good L i = false) : rightP L = false := by unfold rightP; rw [rightN_false hi h]; simp
/-- pairs whose keys rise, each right -/
def Srt (L : List Pr) : Prop := (∀ p ∈ L, p.right = true) ∧ L.Pairwise (fun p q => klt p.key q.key)
theorem rises {L : List Pr} (h : ∀ j, j < L.length → j = 0 ∨ klt (L.getD (j - 1) Pr.zero).key (L.getD j Pr.zero).key) : L.Pairwise (fun p q => klt p.key q.key) := by
  rw [List.pairwise_iff_getElem]
  intro i j hi hj hij
  have key : ∀ d, (hd : i + 1 + d < L.length) → klt L[i].key L[i + 1 + d].key := by
    intro d
    induction d with
    | zero =>
      intro hd
      have := (h (i + 1) (by omega)).resolve_left (by omega)
      rw [Nat.add_sub_cancel] at this
      simpa [hi, show i + 1 < L.length by omega] using this
    | succ d ih =>
      intro hd
      have := (h (i + 1 + (d + 1)) (by omega)).resolve_left (by omega)
      have e : i + 1 + (d + 1) - 1 = i + 1 + d := by omega
      rw [e] at this
      refine klt_trans (ih (by omega)) ?_
      simpa [hd, show i + 1 + d < L.length by omega] using this
  have := key (j - (i + 1)) (by omega)
  simpa [show i + 1 + (j - (i + 1)) = j by omega] using this
theorem rightN_iff (L : List Pr) : rightN L L.length = true ↔ Srt L := by
  unfold rightN Srt
  rw [List.all_eq_true]
  constructor
  · intro h
    refine ⟨fun p hp => ?_, rises fun j hj => ?_⟩
    · obtain ⟨i, hi, rfl⟩ := List.mem_iff_getElem.1 hp
      have := h i (List.mem_range.2 hi)
      unfold good at this
      rw [Bool.and_eq_true] at this
      simpa [hi] using this.1
    · have := h j (List.mem_range.2 hj)
      unfold good at this
      rw [Bool.and_eq_true, Bool.or_eq_true, decide_eq_true_eq, decide_eq_true_eq] at this
      exact this.2
  · rintro ⟨h1, h2⟩ j hj
    rw [List.mem_range] at hj
    unfold good
    rw [Bool.and_eq_true, Bool.or_eq_true, decide_eq_true_eq, decide_eq_true_eq]
    refine ⟨by have := h1 L[j] (List.getElem_mem hj); simpa [hj] using this, ?_⟩
    by_cases h0 : j = 0
    · exact .inl h0
    · refine .inr ?_
      have := List.pairwise_iff_getElem.1 h2 (j - 1) j (by omega) hj (by omega)
      simpa [hj, show j - 1 < L.length by omega] using this
theorem rightP_iff (L : List Pr) : rightP L = true ↔ L.length ≤ 32 ∧ Srt L := by
  unfold rightP
  rw [Bool.and_eq_true, decide_eq_true_eq, rightN_iff]
theorem Pr.right_iff {p : Pr} : p.right = true ↔ p.key.size ≠ 0 ∧ p.key.size ≤ 8 ∧ p.val.kind ≠ 0 ∧ p.val.check = 0 := by
  unfold Pr.right; simp only [Bool.and_eq_true, decide_eq_true_eq, and_assoc]

/-! ### what a key has -/
def get : List Pr → ByteArray → V
  | [], _ => V.zero
  | p :: r, k => if p.key = k then p.val else get r k
def set (L : List Pr) (k : ByteArray) (v : V) : List Pr :=
  L.filter (fun p => decide (klt p.key k)) ++ (if v.kind = 0 then [] else [⟨k, v⟩]) ++ L.filter (fun p => decide (klt k p.key))
theorem get_append (L M : List Pr) (k : ByteArray) (h : ∀ p ∈ L, p.key ≠ k) : get (L ++ M) k = get M k := by
  induction L with
  | nil => rfl
  | cons p r ih =>
    show (if p.key = k then p.val else get (r ++ M) k) = _
    rw [if_neg (h p (List.mem_cons_self ..)), ih (fun q hq => h q (List.mem_cons_of_mem _ hq))]
theorem get_none (L : List Pr) (k : ByteArray) (h : ∀ p ∈ L, p.key ≠ k) : get L k = V.zero := by
  have := get_append L [] k h
  rwa [List.append_nil] at this
theorem get_filter (L : List Pr) (k : ByteArray) (f : Pr → Bool) (h : ∀ p, p.key = k → f p = true) : get (L.filter f) k = get L k := by
  induction L with
  | nil => rfl
  | cons p r ih =>
    rw [List.filter_cons]
    by_cases hp : p.key = k
    · rw [if_pos (h p hp)]
      show (if p.key = k then p.val else _) = (if p.key = k then p.val else _)
      rw [if_pos hp, if_pos hp]
    · have e : get (p :: r) k = get r k := by show (if p.key = k then p.val else _) = _; rw [if_neg hp]
      rw [e]
      split
      · show (if p.key = k then p.val else _) = _
        rw [if_neg hp, ih]
      · exact ih
theorem mem_lt {L : List Pr} {k : ByteArray} {p : Pr} (h : p ∈ L.filter (fun p => decide (klt p.key k))) : p ∈ L ∧ klt p.key k := by simpa using List.mem_filter.1 h
theorem mem_gt {L : List Pr} {k : ByteArray} {p : Pr} (h : p ∈ L.filter (fun p => decide (klt k p.key))) : p ∈ L ∧ klt k p.key := by simpa using List.mem_filter.1 h
/-- the zero value is the one right value of its kind -/
theorem zero_of {v : V} (h : v.check = 0) (hk : v.kind = 0) : v = V.zero := by
  obtain ⟨_, _, h3, h4, _⟩ := check_zero h
  exact V.ext hk (h4 (by omega)) (empty_of (h3 (by omega)))
theorem get_set_same (L : List Pr) (k : ByteArray) (v : V) (hv : v.check = 0) : get (set L k v) k = v := by
  unfold set
  rw [List.append_assoc, get_append _ _ _ (fun p hp => klt_ne (mem_lt hp).2)]
  split
  · rename_i h
    rw [List.nil_append, get_none _ _ (fun p hp => (klt_ne (mem_gt hp).2).symm), zero_of hv h]
  · show (if k = k then v else _) = v
    rw [if_pos rfl]
theorem get_set_other (L : List Pr) {k l : ByteArray} (v : V) (h : l ≠ k) : get (set L k v) l = get L l := by
  unfold set
  rcases klt_three l k with hl | hl | hl
  · have e1 : get (L.filter (fun p => decide (klt p.key k))) l = get L l := get_filter _ _ _ (fun p hp => by simpa [hp] using hl)
    by_cases hz : ∃ p ∈ L, p.key = l
    · rw [List.append_assoc, ← e1]
      have : ∀ (A B : List Pr), (∃ p ∈ A, p.key = l) → get (A ++ B) l = get A l := by
        intro A B
        induction A with
        | nil => rintro ⟨p, hp, _⟩; cases hp
        | cons p r ih =>
          rintro ⟨q, hq, he⟩
          show (if p.key = l then p.val else get (r ++ B) l) = (if p.key = l then p.val else get r l)
          by_cases hp : p.key = l
          · rw [if_pos hp, if_pos hp]
          · rw [if_neg hp, if_neg hp]
            refine ih ⟨q, ?_, he⟩
            rcases List.mem_cons.1 hq with rfl | hq
            · exact absurd he hp
            · exact hq
      obtain ⟨p, hp, he⟩ := hz
      exact this _ _ ⟨p, List.mem_filter.2 ⟨hp, by simpa [he] using hl⟩, he⟩
    · have hno : ∀ p ∈ L, p.key ≠ l := fun p hp e => hz ⟨p, hp, e⟩
      rw [get_none L l hno, get_none]
      intro p hp
      simp only [List.mem_append] at hp
      rcases hp with (hp | hp) | hp
      · exact hno p (mem_lt hp).1
      · split at hp
        · cases hp
        · rw [List.mem_singleton] at hp; subst hp; exact fun e => h e.symm
      · exact hno p (mem_gt hp).1
  · exact absurd hl h
  · have e1 : get (L.filter (fun p => decide (klt k p.key))) l = get L l := get_filter _ _ _ (fun p hp => by simpa [hp] using hl)
    rw [get_append, e1]
    intro p hp
    rcases List.mem_append.1 hp with hp | hp
    · intro e; subst e; exact klt_asymm hl (mem_lt hp).2
    · split at hp
      · cases hp
      · rw [List.mem_singleton] at hp; subst hp; exact fun e => h e.symm
theorem Srt.set {L : List Pr} (h : Srt L) {k : ByteArray} {v : V} (hk : k.size ≠ 0) (hk8 : k.size ≤ 8) (hv : v.check = 0) : Srt (set L k v) := by
  refine ⟨fun p hp => ?_, ?_⟩
  · unfold Kv.set at hp
    rcases List.mem_append.1 hp with hp | hp
    · rcases List.mem_append.1 hp with hp | hp
      · exact h.1 p (mem_lt hp).1
      · split at hp
        · cases hp
        · rename_i h0
          rw [List.mem_singleton] at hp; subst hp
          exact Pr.right_iff.2 ⟨hk, hk8, h0, hv⟩
    · exact h.1 p (mem_gt hp).1
  · unfold Kv.set
    rw [List.append_assoc, List.pairwise_append]
    refine ⟨h.2.filter _, ?_, ?_⟩
    · rw [List.pairwise_append]
      refine ⟨by split <;> simp, h.2.filter _, ?_⟩
      intro p hp q hq
      split at hp
      · cases hp
      · rw [List.mem_singleton] at hp; subst hp; exact (mem_gt hq).2
    · intro p hp q hq
      rcases List.mem_append.1 hq with hq | hq
      · split at hq
        · cases hq
        · rw [List.mem_singleton] at hq; subst hq; exact (mem_lt hp).2
      · exact klt_trans (mem_lt hp).2 (mem_gt hq).2
/-- what the first of rising pairs are -/
theorem Srt.tail {p : Pr} {r : List Pr} (h : Srt (p :: r)) : Srt r := ⟨fun q hq => h.1 q (List.mem_cons_of_mem _ hq), (List.pairwise_cons.1 h.2).2⟩
theorem Srt.get_mem {L : List Pr} (h : Srt L) {p : Pr} (hp : p ∈ L) : get L p.key = p.val := by
  induction L with
  | nil => cases hp
  | cons q r ih =>
    show (if q.key = p.key then q.val else get r p.key) = _
    rcases List.mem_cons.1 hp with rfl | hp
    · rw [if_pos rfl]
    · rw [if_neg (klt_ne ((List.pairwise_cons.1 h.2).1 p hp)), ih h.tail hp]
theorem get_cases (L : List Pr) (k : ByteArray) : (∃ p ∈ L, p.key = k ∧ get L k = p.val) ∨ ((∀ p ∈ L, p.key ≠ k) ∧ get L k = V.zero) := by
  induction L with
  | nil => exact .inr ⟨fun _ h => by simp at h, rfl⟩
  | cons q r ih =>
    have e : get (q :: r) k = if q.key = k then q.val else get r k := rfl
    rw [e]
    by_cases h : q.key = k
    · rw [if_pos h]; exact .inl ⟨q, List.mem_cons_self .., h, rfl⟩
    · rw [if_neg h]
      rcases ih with ⟨p, hp, h1, h2⟩ | ⟨h1, h2⟩
      · exact .inl ⟨p, List.mem_cons_of_mem _ hp, h1, h2⟩
      · exact .inr ⟨fun p hp => by rcases List.mem_cons.1 hp with rfl | hp; exact h; exact h1 p hp, h2⟩
theorem Srt.get_check {L : List Pr} (h : Srt L) (k : ByteArray) : (get L k).check = 0 := by
  rcases get_cases L k with ⟨p, hp, _, e⟩ | ⟨_, e⟩
  · rw [e]; exact (Pr.right_iff.1 (h.1 p hp)).2.2.2
  · rw [e]; kernel_rfl
/-- rising pairs are what their keys have -/
theorem Srt.ext : ∀ {L M : List Pr}, Srt L → Srt M → (∀ k, get L k = get M k) → L = M
  | [], [], _, _, _ => rfl
  | [], q :: r, _, hM, h => by
    have e : get (q :: r) q.key = q.val := hM.get_mem (List.mem_cons_self ..)
    rw [← h] at e
    have := (Pr.right_iff.1 (hM.1 q (List.mem_cons_self ..))).2.2.1
    rw [← e] at this
    exact absurd rfl this
  | p :: s, [], hL, _, h => by
    have e : get (p :: s) p.key = p.val := hL.get_mem (List.mem_cons_self ..)
    rw [h] at e
    have := (Pr.right_iff.1 (hL.1 p (List.mem_cons_self ..))).2.2.1
    rw [← e] at this
    exact absurd rfl this
  | p :: s, q :: r, hL, hM, h => by
    have ep : get (p :: s) p.key = p.val := hL.get_mem (List.mem_cons_self ..)
    have eq : get (q :: r) q.key = q.val := hM.get_mem (List.mem_cons_self ..)
    have np := (Pr.right_iff.1 (hL.1 p (List.mem_cons_self ..))).2.2.1
    have nq := (Pr.right_iff.1 (hM.1 q (List.mem_cons_self ..))).2.2.1
    have gtp : ∀ x ∈ s, klt p.key x.key := (List.pairwise_cons.1 hL.2).1
    have gtq : ∀ x ∈ r, klt q.key x.key := (List.pairwise_cons.1 hM.2).1
    have hk : p.key = q.key := by
      rcases klt_three p.key q.key with hl | hl | hl
      · exfalso
        have : get (q :: r) p.key = V.zero := get_none _ _ (fun x hx => by
          rcases List.mem_cons.1 hx with rfl | hx
          · exact (klt_ne hl).symm
          · exact (klt_ne (klt_trans hl (gtq x hx))).symm)
        rw [← h, ep] at this
        rw [this] at np
        exact np rfl
      · exact hl
      · exfalso
        have : get (p :: s) q.key = V.zero := get_none _ _ (fun x hx => by
          rcases List.mem_cons.1 hx with rfl | hx
          · exact (klt_ne hl).symm
          · exact (klt_ne (klt_trans hl (gtp x hx))).symm)
        rw [h, eq] at this
        rw [this] at nq
        exact nq rfl
    have hv : p.val = q.val := by rw [← ep, ← eq, ← hk, h]
    obtain rfl : p = q := by cases p; cases q; simp_all
    congr 1
    refine Srt.ext hL.tail hM.tail fun k => ?_
    by_cases e : p.key = k
    · rw [get_none s k (fun x hx => fun e2 => klt_ne (gtp x hx) (e.trans e2.symm)), get_none r k (fun x hx => fun e2 => klt_ne (gtq x hx) (e.trans e2.symm))]
    · have := h k
      have a1 : get (p :: s) k = get s k := by show (if p.key = k then p.val else _) = _; rw [if_neg e]
      have a2 : get (p :: r) k = get r k := by show (if p.key = k then p.val else _) = _; rw [if_neg e]
      rwa [a1, a2] at this
theorem set_get_self {L : List Pr} (h : Srt L) {k : ByteArray} (hk : k.size ≠ 0) (hk8 : k.size ≤ 8) : set L k (get L k) = L := by
  refine Srt.ext (h.set hk hk8 (h.get_check k)) h fun l => ?_
  by_cases e : l = k
  · subst e; exact get_set_same _ _ _ (h.get_check _)
  · exact get_set_other _ _ e
theorem set_comm {L : List Pr} (h : Srt L) {k l : ByteArray} {v u : V} (hk : k.size ≠ 0) (hk8 : k.size ≤ 8) (hl : l.size ≠ 0) (hl8 : l.size ≤ 8) (hv : v.check = 0) (hu : u.check = 0) (hne : k ≠ l) :
    set (set L k v) l u = set (set L l u) k v := by
  refine Srt.ext ((h.set hk hk8 hv).set hl hl8 hu) ((h.set hl hl8 hu).set hk hk8 hv) fun m => ?_
  by_cases e1 : m = l
  · subst e1
    rw [get_set_same _ _ _ hu, get_set_other _ _ hne.symm, get_set_same _ _ _ hu]
  · rw [get_set_other _ _ e1]
    by_cases e2 : m = k
    · subst e2; rw [get_set_same _ _ _ hv, get_set_same _ _ _ hv]
    · rw [get_set_other _ _ e2, get_set_other _ _ e2, get_set_other _ _ e1]
/-- one, where it is there -/
def one (v : V) : Nat := if v.kind = 0 then 0 else 1
theorem length_set {L : List Pr} (h : Srt L) {k : ByteArray} (hk : k.size ≠ 0) (hk8 : k.size ≤ 8) (v : V) : (set L k v).length + one (get L k) = L.length + one v := by
  have e : L.length = (set L k (get L k)).length := by rw [set_get_self h hk hk8]
  rw [e]
  unfold set one
  simp only [List.length_append]
  split <;> split <;> simp <;> omega
theorem set_all {L : List Pr} {k : ByteArray} {v : V} {P : V → Prop} (h : ∀ p ∈ L, P p.val) (hv : P v) : ∀ p ∈ set L k v, P p.val := by
  intro p hp
  unfold set at hp
  rcases List.mem_append.1 hp with hp | hp
  · rcases List.mem_append.1 hp with hp | hp
    · exact h p (mem_lt hp).1
    · split at hp
      · cases hp
      · rw [List.mem_singleton] at hp; subst hp; exact hv
  · exact h p (mem_gt hp).1
/-- a list cut where its keys are no longer smaller -/
theorem cut_set {L : List Pr} (hp : L.Pairwise (fun p q => klt p.key q.key)) {k : ByteArray} {at_ : Nat} (hat : at_ ≤ L.length)
    (h1 : ∀ i, i < at_ → klt (L.getD i Pr.zero).key k) (h2 : ∀ i, at_ ≤ i → i < L.length → ¬ klt (L.getD i Pr.zero).key k) :
    L.take at_ = L.filter (fun p => decide (klt p.key k)) ∧
    (at_ < L.length → (L.getD at_ Pr.zero).key = k → L.drop (at_ + 1) = L.filter (fun p => decide (klt k p.key))) ∧
    ((at_ < L.length → (L.getD at_ Pr.zero).key ≠ k) → L.drop at_ = L.filter (fun p => decide (klt k p.key))) := by
  have hs : L = L.take at_ ++ L.drop at_ := (List.take_append_drop at_ L).symm
  have t1 : ∀ p ∈ L.take at_, klt p.key k := by
    intro p hp'
    obtain ⟨i, hi, rfl⟩ := List.mem_iff_getElem.1 hp'
    rw [List.length_take] at hi
    have := h1 i (by omega)
    simpa [show i < L.length by omega] using this
  have t2 : ∀ p ∈ L.drop at_, ¬ klt p.key k := by
    intro p hp'
    obtain ⟨i, hi, rfl⟩ := List.mem_iff_getElem.1 hp'
    rw [List.length_drop] at hi
    have := h2 (at_ + i) (by omega) (by omega)
    simpa [show at_ + i < L.length by omega] using this
  have fl : L.filter (fun p => decide (klt p.key k)) = L.take at_ := by
    conv => lhs; rw [hs]
    rw [List.filter_append, List.filter_eq_self.2 (fun p hp' => by simpa using t1 p hp'), List.filter_eq_nil_iff.2 (fun p hp' => by simpa using t2 p hp'), List.append_nil]
  have fg : L.filter (fun p => decide (klt k p.key)) = (L.drop at_).filter (fun p => decide (klt k p.key)) := by
    conv => lhs; rw [hs]
    rw [List.filter_append, List.filter_eq_nil_iff.2 (fun p hp' => by simpa using klt_asymm (t1 p hp')), List.nil_append]
  have pd : (L.drop at_).Pairwise (fun p q => klt p.key q.key) := hp.sublist (List.drop_sublist _ _)
  refine ⟨fl.symm, fun hlt he => ?_, fun hne => ?_⟩
  · rw [fg]
    have ed : L.drop at_ = L[at_] :: L.drop (at_ + 1) := List.drop_eq_getElem_cons hlt
    have he' : L[at_].key = k := by simpa [hlt] using he
    rw [ed] at pd ⊢
    rw [List.filter_cons, if_neg (by rw [he']; simpa using klt_irrefl k), List.filter_eq_self.2 (fun p hp' => by
      have := (List.pairwise_cons.1 pd).1 p hp'
      rw [he'] at this
      simpa using this)]
  · rw [fg]
    refine (List.filter_eq_self.2 fun p hp' => ?_).symm
    have h0 := t2 p hp'
    rcases klt_three p.key k with h | h | h
    · exact absurd h h0
    · exfalso
      obtain ⟨i, hi, rfl⟩ := List.mem_iff_getElem.1 hp'
      rw [List.length_drop] at hi
      have hi2 : at_ < L.length := by omega
      have := hne hi2
      rcases Nat.eq_zero_or_pos i with rfl | hi0
      · apply this; simpa [hi2] using h
      · have hr := List.pairwise_iff_getElem.1 hp at_ (at_ + i) hi2 (by omega) (by omega)
        have hge := t2 L[at_] (by
          have ed : L.drop at_ = L[at_] :: L.drop (at_ + 1) := List.drop_eq_getElem_cons hi2
          rw [ed]; exact List.mem_cons_self ..)
        have : (L.drop at_)[i].key = L[at_ + i].key := by simp
        rw [this] at h
        rw [h] at hr
        exact hge hr
    · simpa using h

/-! ### commands -/
/-- what the key has then, the error, what is told -/
structure Act where
  next : V
  code : Int
  told : V
def act (v : V) (c : Cm) : Act :=
  if c.kind = 2 then ⟨c.val, 0, v⟩ else if c.kind = 3 then ⟨V.zero, 0, v⟩
  else if c.kind = 4 then (if v.same c.old = true then ⟨c.val, 0, v⟩ else ⟨V.zero, 9, v⟩)
  else if c.kind = 5 then ⟨(joined sumC v c.val).1, (joined sumC v c.val).2, (joined sumC v c.val).1⟩
  else if c.kind = 6 then ⟨(joined maxF v c.val).1, (joined maxF v c.val).2, (joined maxF v c.val).1⟩
  else ⟨v, 0, v⟩
/-- the pairs behind a command; the reply's code and value -/
structure Done where
  L : List Pr
  code : Int
  told : V
def put (L : List Pr) (k : ByteArray) (a : Act) : Done := if a.code ≠ 0 then ⟨L, a.code, a.told⟩ else if 32 < (set L k a.next).length then ⟨L, 5, V.zero⟩ else ⟨set L k a.next, 0, a.told⟩
def doing (L : List Pr) (c : Cm) : Done :=
  if c.right ≠ 0 then ⟨L, c.right, V.zero⟩ else if rightP L = false then ⟨L, 6, V.zero⟩ else put L c.key (act (get L c.key) c)
theorem maxF_lt {a b : Nat} (ha : a < 18446744073709551616) (hb : b < 18446744073709551616) : maxF a b < 18446744073709551616 := (rank_max ha hb).2
theorem joined_check {f : Nat → Nat → Nat} {a b : V} (hf : canon a.num = a.num → canon b.num = b.num → canon (f a.num b.num) = f a.num b.num) : (joined f a b).1.check = 0 := by
  unfold joined
  split
  · exact zero_check
  · split
    · exact zero_check
    · rename_i h1 h2
      have ha : a.check = 0 := Decidable.not_not.1 h1
      have hb : b.check = 0 := Decidable.not_not.1 h2
      split
      · exact hb
      · split
        · exact zero_check
        · exact num_check (hf (check_zero ha).2.2.2.2 (check_zero hb).2.2.2.2)
theorem joined_fit {f : Nat → Nat → Nat} {a b : V} (hb : b.num < 18446744073709551616) (hf : f a.num b.num < 18446744073709551616) : (joined f a b).1.num < 18446744073709551616 := by
  unfold joined
  split
  · exact zero_fit
  · split
    · exact zero_fit
    · split
      · exact hb
      · split
        · exact zero_fit
        · exact hf
theorem act_check {v : V} {c : Cm} (hv : v.check = 0) (hc : c.val.check = 0) : (act v c).next.check = 0 := by
  unfold act
  split
  · exact hc
  · split
    · exact zero_check
    · split
      · split
        · exact hc
        · exact zero_check
      · split
        · exact joined_check fun _ _ => canon_sumC _ _
        · split
          · exact joined_check fun h k => canon_maxF h k
          · exact hv
theorem act_fit {v : V} {c : Cm} (hv : v.num < 18446744073709551616) (hc : c.val.num < 18446744073709551616) : (act v c).next.num < 18446744073709551616 := by
  unfold act
  split
  · exact hc
  · split
    · exact zero_fit
    · split
      · split
        · exact hc
        · exact zero_fit
      · split
        · exact joined_fit hc (sumC_lt _ _)
        · split
          · exact joined_fit hc (maxF_lt hv hc)
          · exact hv
/-- floats below 2^64 -/
def Fits (L : List Pr) : Prop := ∀ p ∈ L, p.val.num < 18446744073709551616
theorem Fits.nil : Fits [] := fun _ h => by cases h
theorem Fits.get {L : List Pr} (h : Fits L) (k : ByteArray) : (get L k).num < 18446744073709551616 := by
  rcases get_cases L k with ⟨p, hp, _, e⟩ | ⟨_, e⟩
  · rw [e]; exact h p hp
  · rw [e]; decide
theorem Fits.doing {L : List Pr} (h : Fits L) {c : Cm} (hc : c.val.num < 18446744073709551616) : Fits (doing L c).L := by
  unfold Kv.doing
  split
  · exact h
  · split
    · exact h
    · unfold put
      split
      · exact h
      · split
        · exact h
        · exact set_all (P := fun v => v.num < 18446744073709551616) h (act_fit (h.get _) hc)
/-- right pairs stay right -/
theorem doing_right {L : List Pr} (h : rightP L = true) (c : Cm) : rightP (doing L c).L = true := by
  unfold doing
  split
  · exact h
  · rename_i hr
    have hr : c.right = 0 := Decidable.not_not.1 hr
    obtain ⟨_, _, k0, k8, hv⟩ := right_zero hr
    obtain ⟨h1, h2⟩ := (rightP_iff L).1 h
    split
    · exact h
    · unfold put
      split
      · exact h
      · split
        · exact h
        · exact (rightP_iff _).2 ⟨by show (Kv.set _ _ _).length ≤ 32; omega, h2.set k0 k8 (act_check (h2.get_check _) (vals_true hv).2.1)⟩
/-- an error leaves the pairs -/
theorem doing_err {L : List Pr} {c : Cm} (h : (doing L c).code ≠ 0) : (doing L c).L = L ∧ ((doing L c).code ≠ 9 → (doing L c).told = V.zero) := by
  revert h
  unfold doing
  split
  · exact fun _ => ⟨rfl, fun _ => rfl⟩
  · split
    · exact fun _ => ⟨rfl, fun _ => rfl⟩
    · unfold put
      split
      · rename_i hc
        refine fun _ => ⟨rfl, fun h9 => ?_⟩
        revert hc h9
        unfold act
        have J : ∀ f a b, (joined f a b).2 ≠ 0 → (joined f a b).1 = V.zero := by
          intro f a b
          unfold joined
          split
          · exact fun _ => rfl
          · split
            · exact fun _ => rfl
            · split
              · exact fun h => absurd rfl h
              · split
                · exact fun _ => rfl
                · exact fun h => absurd rfl h
        split
        · exact fun h => absurd rfl h
        · split
          · exact fun h => absurd rfl h
          · split
            · split
              · exact fun h => absurd rfl h
              · exact fun _ h => absurd rfl h
            · split
              · exact fun h _ => J _ _ _ h
              · split
                · exact fun h _ => J _ _ _ h
                · exact fun h => absurd rfl h
      · split
        · exact fun _ => ⟨rfl, fun _ => rfl⟩
        · exact fun h => absurd rfl h
/-- a command that gets leaves the pairs -/
theorem doing_get {L : List Pr} {c : Cm} (h : c.kind = 1) : (doing L c).L = L := by
  unfold doing
  split
  · rfl
  · rename_i hr
    have hr : c.right = 0 := Decidable.not_not.1 hr
    obtain ⟨_, _, k0, k8, _⟩ := right_zero hr
    split
    · rfl
    · rename_i hp
      have hp : rightP L = true := by cases e : rightP L; exact absurd e hp; rfl
      have ha : act (get L c.key) c = ⟨get L c.key, 0, get L c.key⟩ := by
        unfold act
        rw [if_neg (by omega), if_neg (by omega), if_neg (by omega), if_neg (by omega), if_neg (by omega)]
      unfold put
      rw [ha]
      simp only [ne_eq, not_true_eq_false, if_false, set_get_self ((rightP_iff L).1 hp).2 k0 k8]
      split <;> rfl
/-- other keys are not touched -/
theorem doing_other {L : List Pr} {c : Cm} {k : ByteArray} (h : k ≠ c.key) : get (doing L c).L k = get L k := by
  unfold doing
  split
  · rfl
  · split
    · rfl
    · unfold put
      split
      · rfl
      · split
        · rfl
        · exact get_set_other _ _ h

/-! ### the same pairs, the same reply -/
def samePr (p q : Pr) : Bool := decide (p.key = q.key) && p.val.same q.val
def samePs (L M : List Pr) : Bool := decide (L.length = M.length) && (List.range L.length).all (fun i => samePr (L.getD i Pr.zero) (M.getD i Pr.zero))
theorem samePr_refl (p : Pr) : samePr p p = true := by simp [samePr, V.same_refl]
theorem samePs_refl (L : List Pr) : samePs L L = true := by
  unfold samePs
  simp [samePr_refl]
end Go.Proofs.YtbheofibdogabaaGreat.Kv
