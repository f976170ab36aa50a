/- The steps from a configuration, as the reference has them; a list of configurations that a call makes. No walk. -/
import Derived.Test.YtakaflbfhpalhaaConfLaw2
import Derived.Test.YtakaflbfhpalhaaOwnC
namespace Go.Proofs.Ytakaflbfhpalhaa.Cn
open Go Go.RowKit Bh

theorem bits_kd {c : C} (h : c.Ok) {i : Nat} (hi : i < 7) : tb c.f i = decide (c.kd i = 1) ∧ tb c.w i = decide (c.kd i = 2) ∧ tb c.l i = decide (c.kd i = 3) ∧ tb c.x i = decide (c.kd i = 4) := by
  have h1 : apart (tb c.f i) (tb c.w i) (tb c.l i) (tb c.x i) = true := h.apt i hi
  unfold C.kd
  revert h1
  cases tb c.f i <;> cases tb c.w i <;> cases tb c.l i <;> cases tb c.x i <;> decide
theorem wth_eq (c : C) (i k : Nat) : wth c i k = ⟨if k = 1 then bits .or .i64 (bits .andNot .i64 c.f (pw i)) (pw i) else bits .andNot .i64 c.f (pw i), if k = 2 then bits .or .i64 (bits .andNot .i64 c.w (pw i)) (pw i) else bits .andNot .i64 c.w (pw i), if k = 3 then bits .or .i64 (bits .andNot .i64 c.l (pw i)) (pw i) else bits .andNot .i64 c.l (pw i), if k = 4 then bits .or .i64 (bits .andNot .i64 c.x (pw i)) (pw i) else bits .andNot .i64 c.x (pw i)⟩ := rfl
section
variable {c : C} (h : c.Ok) {i : Nat} (hi : i < 7)
include h hi
theorem val10 (hk : c.kd i = 1) : wth c i 0 = ⟨c.f - pw i, c.w, c.l, c.x⟩ := by
  obtain ⟨b1, b2, b3, b4⟩ := bits_kd h hi
  rw [hk] at b1 b2 b3 b4
  rw [wth_eq, if_neg (by decide), if_neg (by decide), if_neg (by decide), if_neg (by decide), ← sub_pw h.f hi b1, clear_pw h.w hi b2, clear_pw h.l hi b3, clear_pw h.x hi b4]
theorem val20 (hk : c.kd i = 2) : wth c i 0 = ⟨c.f, c.w - pw i, c.l, c.x⟩ := by
  obtain ⟨b1, b2, b3, b4⟩ := bits_kd h hi
  rw [hk] at b1 b2 b3 b4
  rw [wth_eq, if_neg (by decide), if_neg (by decide), if_neg (by decide), if_neg (by decide), clear_pw h.f hi b1, ← sub_pw h.w hi b2, clear_pw h.l hi b3, clear_pw h.x hi b4]
theorem val30 (hk : c.kd i = 3) : wth c i 0 = ⟨c.f, c.w, c.l - pw i, c.x⟩ := by
  obtain ⟨b1, b2, b3, b4⟩ := bits_kd h hi
  rw [hk] at b1 b2 b3 b4
  rw [wth_eq, if_neg (by decide), if_neg (by decide), if_neg (by decide), if_neg (by decide), clear_pw h.f hi b1, clear_pw h.w hi b2, ← sub_pw h.l hi b3, clear_pw h.x hi b4]
theorem val40 (hk : c.kd i = 4) : wth c i 0 = ⟨c.f, c.w, c.l, c.x - pw i⟩ := by
  obtain ⟨b1, b2, b3, b4⟩ := bits_kd h hi
  rw [hk] at b1 b2 b3 b4
  rw [wth_eq, if_neg (by decide), if_neg (by decide), if_neg (by decide), if_neg (by decide), clear_pw h.f hi b1, clear_pw h.w hi b2, clear_pw h.l hi b3, ← sub_pw h.x hi b4]
theorem val31 (hk : c.kd i = 3) : wth c i 1 = ⟨c.f + pw i, c.w, c.l - pw i, c.x⟩ := by
  obtain ⟨b1, b2, b3, b4⟩ := bits_kd h hi
  rw [hk] at b1 b2 b3 b4
  rw [wth_eq, if_pos rfl, if_neg (by decide), if_neg (by decide), if_neg (by decide), ← add_pw h.f hi b1, clear_pw h.w hi b2, ← sub_pw h.l hi b3, clear_pw h.x hi b4]
theorem val42 (hk : c.kd i = 4) : wth c i 2 = ⟨c.f, c.w + pw i, c.l, c.x - pw i⟩ := by
  obtain ⟨b1, b2, b3, b4⟩ := bits_kd h hi
  rw [hk] at b1 b2 b3 b4
  rw [wth_eq, if_neg (by decide), if_pos rfl, if_neg (by decide), if_neg (by decide), clear_pw h.f hi b1, ← add_pw h.w hi b2, clear_pw h.l hi b3, ← sub_pw h.x hi b4]
theorem val03 (hk : c.kd i = 0) : wth c i 3 = ⟨c.f, c.w, c.l + pw i, c.x⟩ := by
  obtain ⟨b1, b2, b3, b4⟩ := bits_kd h hi
  rw [hk] at b1 b2 b3 b4
  rw [wth_eq, if_neg (by decide), if_neg (by decide), if_pos rfl, if_neg (by decide), clear_pw h.f hi b1, clear_pw h.w hi b2, ← add_pw h.l hi b3, clear_pw h.x hi b4]
theorem val04 (hk : c.kd i = 0) : wth c i 4 = ⟨c.f, c.w, c.l, c.x + pw i⟩ := by
  obtain ⟨b1, b2, b3, b4⟩ := bits_kd h hi
  rw [hk] at b1 b2 b3 b4
  rw [wth_eq, if_neg (by decide), if_neg (by decide), if_neg (by decide), if_pos rfl, clear_pw h.f hi b1, clear_pw h.w hi b2, clear_pw h.l hi b3, ← add_pw h.x hi b4]
end
/-- the steps of node i, in the reference's order -/
def stepsOf (c : C) (i : Nat) : List C :=
  if c.kd i = 1 then [wth c i 0] else if c.kd i = 2 then [wth c i 0] else if c.kd i = 3 then [wth c i 0, wth c i 1] else if c.kd i = 4 then [wth c i 0, wth c i 2] else [wth c i 3, wth c i 4]
def stepsTo (c : C) (k : Nat) : List C := (List.range k).flatMap (stepsOf c)
theorem stepsTo_next (c : C) (k : Nat) : stepsTo c (k + 1) = stepsTo c k ++ stepsOf c k := by
  unfold stepsTo
  rw [List.range_succ, List.flatMap_append]
  simp
theorem stepsOf_len (c : C) (i : Nat) : (stepsOf c i).length ≤ 2 := by
  unfold stepsOf
  repeat' split
  all_goals simp
theorem stepsTo_len (c : C) (k : Nat) : (stepsTo c k).length ≤ 2 * k := by
  induction k with
  | zero => simp [stepsTo]
  | succ k ih => rw [stepsTo_next, List.length_append]; have := stepsOf_len c k; omega
theorem led {a b : C} (ha : a.Ok) (hb : b.Ok) {i : Nat} (hi : i < 7) (nx : Nat → Nat × Bool) : b = (stepM a (i : Nat) nx).1 ↔ (nx (a.kd i)).2 = true ∧ b = wth a i (nx (a.kd i)).1 := by
  have ei : ((i : Nat) : Int).toNat = i := by omega
  constructor
  · intro e
    rcases step_told a (i : Nat) nx with ⟨_, hz⟩ | ⟨_, hs⟩
    · rw [hz] at e; rw [e] at hb; exact absurd hb zero_not
    · rw [← e] at hs
      have h1 := hs.may
      have h2 := hs.made
      rw [ei] at h1 h2
      exact ⟨h1, h2⟩
  · rintro ⟨h1, h2⟩
    rw [step_is ha (i := ((i : Nat) : Int)) (by omega) (by omega) (by rw [ei]; exact h1) (by rw [ei]; exact h2 ▸ hb), ei]
    exact h2
theorem leads_iff {a b : C} (ha : a.Ok) (hb : b.Ok) {i : Nat} (hi : i < 7) : leadsM a b (i : Nat) = true ↔ b ∈ stepsOf a i := by
  unfold leadsM
  simp only [Bool.or_eq_true, decide_eq_true_eq]
  rw [led ha hb hi, led ha hb hi, led ha hb hi, led ha hb hi]
  have hk := kd_lt a i
  unfold stepsOf
  obtain e | e | e | e | e : a.kd i = 0 ∨ a.kd i = 1 ∨ a.kd i = 2 ∨ a.kd i = 3 ∨ a.kd i = 4 := by omega
  all_goals
    rw [e]
    simp [lrnN, promN, remN]
  all_goals first | done | (constructor <;> rintro (h | h) <;> first | exact .inl h | exact .inr h)
theorem near_eq {a b : C} (ha : a.Ok) (hb : b.Ok) : ((stepsTo a 7).any (fun m => decide (m = b)) || decide (a = b)) = nearM a b := by
  unfold nearM
  rw [right_iff.2 ha, right_iff.2 hb, Bool.true_and, Bool.true_and, Bool.or_comm]
  congr 1
  rw [Bool.eq_iff_iff, List.any_eq_true, List.any_eq_true]
  constructor
  · rintro ⟨m, hm, e⟩
    obtain rfl := of_decide_eq_true e
    obtain ⟨i, hi, hmi⟩ := List.mem_flatMap.1 hm
    exact ⟨i, hi, (leads_iff ha hb (List.mem_range.1 hi)).2 hmi⟩
  · rintro ⟨i, hi, e⟩
    exact ⟨b, List.mem_flatMap.2 ⟨i, hi, (leads_iff ha hb (List.mem_range.1 hi)).1 e⟩, decide_eq_true rfl⟩
/-! ### a list of configurations, of the call's own -/
def C.cells (c : C) : List Value := [.int .i64 c.f, .int .i64 c.w, .int .i64 c.l, .int .i64 c.x]
def C.obj (c : C) : Obj := .cells #[.int .i64 c.f, .int .i64 c.w, .int .i64 c.l, .int .i64 c.x] 23
def flatC (L : List C) : List Value := L.flatMap C.cells
theorem flatC_append (L M : List C) : flatC (L ++ M) = flatC L ++ flatC M := by unfold flatC; rw [List.flatMap_append]
theorem flatC_one' (c : C) : flatC [c] = c.cells := by simp [flatC]
theorem flatC_one {L : List C} : ∀ u ∈ flatC L, u.oneCell' = true := by
  intro u hu
  obtain ⟨p, _, h⟩ := List.mem_flatMap.1 hu
  simp only [C.cells, List.mem_cons, List.not_mem_nil, or_false] at h
  rcases h with rfl | rfl | rfl | rfl <;> rfl
theorem flatC_length (L : List C) : (flatC L).length = L.length * 4 := by
  induction L with
  | nil => rfl
  | cons c r ih => show (c.cells ++ flatC r).length = _; rw [List.length_append, ih]; show 4 + _ = _; rw [List.length_cons]; omega
theorem flatC_get {L : List C} {k : Nat} (hk : k < L.length) (j : Nat) (hj : j < 4) : (flatC L)[k * 4 + j]? = (L.getD k C.zero).cells[j]? := by
  induction L generalizing k with
  | nil => simp at hk
  | cons c r ih =>
    show (c.cells ++ flatC r)[k * 4 + j]? = _
    cases k with
    | zero =>
      rw [List.getElem?_append_left (by show 0 * 4 + j < 4; omega)]
      simp
    | succ k =>
      rw [List.getElem?_append_right (by show 4 ≤ _; omega)]
      have e : (k + 1) * 4 + j - c.cells.length = k * 4 + j := by show _ - 4 = _; omega
      rw [e, ih (by simpa using hk)]
      simp
theorem one_src {w : World} {n : Nat} {c : C} (h : w.heap[n]? = some c.obj) : Mem.SrcC 4 w (some ⟨n, 0, none⟩) 1 1 (flatC [c]) := by
  refine ⟨by rw [flatC_length]; rfl, fun h => (by cases h), fun ad had j u hu => ?_⟩
  injection had with had
  subst had
  rw [flatC_one'] at hu
  have hadd : (⟨n, 0, none⟩ : Addr).add j = ⟨n, j, none⟩ := by unfold Addr.add; split <;> simp_all
  rw [hadd]
  obtain ⟨c0, c1, c2, c3⟩ := cells4 h
  match j, hu with
  | 0, hu => rw [c0]; exact hu
  | 1, hu => rw [c1]; exact hu
  | 2, hu => rw [c2]; exact hu
  | 3, hu => rw [c3]; exact hu
/-- a list that is being made, beside the box of c, and of x -/
structure MadeC (w0 w : World) (b : Nat) (a : Option Addr) (cap : Nat) (L : List C) (c : C) : Prop where
  own : Mem.OwnC 23 4 w b a cap L.length (flatC L)
  beh : Beh w0 w
  new : w0.heap.size < b
  box : w.heap[w0.heap.size]? = some c.obj
structure MadeX (w0 w : World) (b : Nat) (a : Option Addr) (cap : Nat) (L : List C) (c : C) (X : Nat) (x : C) : Prop where
  m : MadeC w0 w b a cap L c
  bx : w.heap[X]? = some x.obj
  ne : a ≠ none → b ≠ X
  lo : w0.heap.size < X
theorem MadeC.on {w0 w w' : World} {b : Nat} {a : Option Addr} {cap : Nat} {L : List C} {c : C} (h : MadeC w0 w b a cap L c) (hb : Below w.heap.size w w') : MadeC w0 w' b a cap L c :=
  ⟨h.own.kept (Mem.Kept.of_below hb) (fun _ h => h), h.beh.on hb, h.new, box_on h.box hb⟩
theorem MadeC.x {w0 w : World} {b : Nat} {a : Option Addr} {cap : Nat} {L : List C} {c : C} (h : MadeC w0 w b a cap L c) (x : C) : MadeX w0 (w.alloc x.obj) b a cap L c w.heap.size x :=
  ⟨h.on (below_alloc _ _), alloc_here _ rfl, fun ha => by have := h.own.lt ha; omega, heap_lt h.box⟩
theorem MadeX.on {w0 w w' : World} {b : Nat} {a : Option Addr} {cap : Nat} {L : List C} {c x : C} {X : Nat} (h : MadeX w0 w b a cap L c X x) (hb : Below w.heap.size w w') : MadeX w0 w' b a cap L c X x :=
  ⟨h.m.on hb, box_on h.bx hb, h.ne, h.lo⟩
theorem MadeX.set {w0 w : World} {b : Nat} {a : Option Addr} {cap : Nat} {L : List C} {c x : C} {X : Nat} (h : MadeX w0 w b a cap L c X x) (i : Nat) (v : Value) (y : C)
    (hy : (.cells (#[.int .i64 x.f, .int .i64 x.w, .int .i64 x.l, .int .i64 x.x].setIfInBounds i v) 23 : Obj) = y.obj) : MadeX w0 (w.setCell ⟨X, i, none⟩ v) b a cap L c X y := by
  have hk : Mem.Kept (Mem.Only X) w (w.setCell ⟨X, i, none⟩ v) := (Mem.Kept.refl (Mem.Only X) w).setCell (p := ⟨X, i, none⟩) (.inl (show Mem.Only X X from rfl)) v
  refine ⟨⟨h.m.own.kept hk (fun ha => h.ne ha), h.m.beh.set (by have := h.lo; omega) i v, h.m.new, ?_⟩, ?_, h.ne, h.lo⟩
  · rw [Below.heap_setCell _ _ _ _ (by show w0.heap.size ≠ X; have := h.lo; omega)]; exact h.m.box
  · rw [← hy]; exact heap_set (i := i) v h.bx
theorem MadeX.more {w0 w w' : World} {b b' : Nat} {a a' : Option Addr} {cap cap' : Nat} {L : List C} {c x y : C} {X : Nat} (h : MadeX w0 w b a cap L c X x)
    (h2 : Mem.OwnC 23 4 w' b' a' cap' (L.length + 1) (flatC L ++ flatC [y])) (h3 : Mem.Kept (Mem.Of a b) w w') (h4 : (b' = b ∧ (a' = none ∨ a ≠ none)) ∨ w.heap.size ≤ b') : MadeX w0 w' b' a' cap' (L ++ [y]) c X x := by
  have hX := heap_lt h.bx
  have hno : ∀ n, n ≠ b ∨ a = none → ¬ Mem.Of a b n := fun n hn hk => by
    rcases hn with hn | hn
    · exact hn hk.2
    · exact hk.1 hn
  have hXn : X ≠ b ∨ a = none := by
    by_cases ha : a = none
    · exact .inr ha
    · exact .inl (fun e => h.ne ha e.symm)
  refine ⟨⟨?_, ?_, ?_, ?_⟩, ?_, ?_, h.lo⟩
  · rw [List.length_append, flatC_append]; exact h2
  · exact (h.m.beh.below.trans (h3.below h.m.beh.size (fun k hk => by have := hk.2; have := h.m.new; omega)) : Below _ _ _)
  · have := h.m.new
    have := h.m.beh.size
    have := h.lo
    rcases h4 with ⟨h4, _⟩ | h4 <;> omega
  · exact h3.heap h.m.box (hno _ (.inl (by have := h.m.new; omega)))
  · exact h3.heap h.bx (hno _ hXn)
  · intro ha
    rcases h4 with ⟨h4, h5⟩ | h4
    · rw [h4]; exact h.ne (h5.resolve_left ha)
    · omega
theorem MadeC.nil {w : World} {c : C} : MadeC w (w.alloc c.obj) (w.heap.size + 1) none 0 [] c := ⟨Mem.OwnC.nil _ _ _ _, below_alloc _ _, by omega, alloc_here _ rfl⟩
end Go.Proofs.Ytakaflbfhpalhaa.Cn
