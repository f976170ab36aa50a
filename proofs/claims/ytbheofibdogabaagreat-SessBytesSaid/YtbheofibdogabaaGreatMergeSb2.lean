import Derived.Test.YtbheofibdogabaaGreatMergeSb1
import Derived.Test.YtbheofibdogabaaGreatMergeSb0
section
/- Rows of one-cell values that the call has made itself (slices of slices): appended to. For any program. -/
namespace Go.Proofs.YtbheofibdogabaaGreat.Mem
open Go Go.RowKit

def OwnV (e : TypeId) (w : World) (b : Nat) (a : Option Addr) (cap : Nat) (xs : List Value) : Prop :=
  (a = none ∧ cap = 0 ∧ xs = []) ∨
  (a = some ⟨b, 0, none⟩ ∧ xs.length ≤ cap ∧ cap ≤ maxLen ∧ ∃ cur : Array Value, w.heap[b]? = some (.cells cur e (0, 0)) ∧ cur.size = cap ∧ cur.toList.take xs.length = xs)
theorem OwnV.nil (e : TypeId) (w : World) (b : Nat) : OwnV e w b none 0 [] := .inl ⟨rfl, rfl, rfl⟩
theorem OwnV.kept {e : TypeId} {S : Nat → Prop} {w w' : World} {b : Nat} {a : Option Addr} {cap : Nat} {xs : List Value} (h : OwnV e w b a cap xs) (hk : Kept S w w') (hs : a ≠ none → ¬ S b) : OwnV e w' b a cap xs := by
  rcases h with h | ⟨ha, h1, h2, cur, hh, h3⟩
  · exact .inl h
  · exact .inr ⟨ha, h1, h2, cur, hk.heap hh (hs (by rw [ha]; simp)), h3⟩
theorem OwnV.heap {e : TypeId} {w w' : World} {b : Nat} {a : Option Addr} {cap : Nat} {xs : List Value} (h : OwnV e w b a cap xs) (hw : w'.heap = w.heap) : OwnV e w' b a cap xs := by
  unfold OwnV at *; rw [hw]; exact h
theorem OwnV.lt {e : TypeId} {w : World} {b : Nat} {a : Option Addr} {cap : Nat} {xs : List Value} (h : OwnV e w b a cap xs) (ha : a ≠ none) : b < w.heap.size := by
  rcases h with h | ⟨_, _, _, cur, hh, _⟩
  · exact absurd h.1 ha
  · exact lt_of_heap hh
theorem OwnV.row {e : TypeId} {w : World} {b : Nat} {a : Option Addr} {cap : Nat} {xs : List Value} (h : OwnV e w b a cap xs) : w.ownsRow 0 e 1 (.slice a xs.length cap) xs.length xs := by
  refine ⟨by simp, ?_⟩
  rcases h with ⟨rfl, rfl, rfl⟩ | ⟨rfl, h1, h2, cur, hh, h3, h4⟩
  · exact .inl ⟨rfl, rfl⟩
  · exact .inr ⟨b, cap, cur, rfl, Nat.zero_le _, hh, h1, h2, by omega, by rw [Nat.mul_one]; exact h4⟩
theorem OwnV.cellAt {e : TypeId} {w : World} {b : Nat} {a : Option Addr} {cap : Nat} {xs : List Value} (h : OwnV e w b a cap xs) (i : Nat) (hi : i < xs.length) : a = some ⟨b, 0, none⟩ ∧ w.cell? ⟨b, i, none⟩ = some (xs.getD i undef) := by
  have hc := h
  rcases h with ⟨_, _, rfl⟩ | ⟨rfl, _⟩
  · simp at hi
  · refine ⟨rfl, ?_⟩
    rw [hc.row.cellAt i (by omega)]
    simp [hi]
theorem ownV_new {e : TypeId} {w : World} {cur : Array Value} {xs : List Value} {cap : Nat} (h1 : xs.length ≤ cap) (h2 : cap ≤ maxLen) (h3 : cur.size = cap) (h4 : cur.toList.take xs.length = xs) :
    OwnV e (w.alloc (.cells cur e)) w.heap.size (some ⟨w.heap.size, 0, none⟩) cap xs := .inr ⟨rfl, h1, h2, cur, heap_alloc_new w _, h3, h4⟩
/-- append of one value -/
theorem run_append_val {P : Program} (w : World) (t ty e : TypeId) (i : TypeInfo) (z : Value) (by_ : Nat) (ht : P.underlying t = some (.slice e)) (hi : P.info? e = some i) (hz : i.zero = some z) (hsize : i.size = 1) (hby : i.bytes = by_) (hzs : z.cells.size = 1)
    (b : Nat) (a : Option Addr) (cap : Nat) (xs : List Value) (own : OwnV e w b a cap xs) (ad : Addr) (c : Nat) (u : Value) (hu : w.cell? ad = some u) (hu1 : u.oneCell' = true) (hspot : ad.spot = none) (hle : (xs.length + 1) * by_ ≤ 70368744177664) (hle2 : xs.length ≤ 70368744177664) :
    ∃ b' a' cap' w', (Builtin.append_ #[t, t] ty #[.slice a xs.length cap, .slice (some ad) 1 c]).run P w = .ok (.slice a' (xs.length + 1) cap') w' ∧
      OwnV e w' b' a' cap' (xs ++ [u]) ∧ Kept (Of a b) w w' ∧ ((b' = b ∧ a ≠ none) ∨ w.heap.size ≤ b') := by
  have hmx : xs.length + 1 ≤ maxLen := by unfold maxLen; omega
  have hnews : ∀ j v, ([u] : List Value)[j]? = some v → w.cell? (ad.add j) = some v := by
    intro j v hv
    cases j with
    | zero =>
      simp at hv; subst hv
      obtain ⟨bb, off, spot⟩ := ad
      simp at hspot; subst hspot
      simpa [Addr.add] using hu
    | succ j => simp at hv
  have h1c : ∀ v ∈ [u], v.oneCell' = true := by intro v hv; simp at hv; subst hv; exact hu1
  have hl : ([u] : List Value).length = 1 * i.size := by rw [hsize]; rfl
  have made : ∀ old, old < xs.length + 1 →
      OwnV e (w.drew.alloc (.cells (xs.toArray ++ [u].toArray ++ Builtin.zeroCells z.cells (grownCap w (xs.length + 1) old e - (xs.length + 1))) e)) w.heap.size (some ⟨w.heap.size, 0, none⟩) (grownCap w (xs.length + 1) old e) (xs ++ [u]) := by
    intro old ho
    have hge := grownCap_ge w (xs.length + 1) old e
    have hcm : grownCap w (xs.length + 1) old e ≤ maxLen := grownCap_le_maxLen w _ old e hmx
    refine ownV_new (w := w.drew) (by simp; omega) hcm ?_ ?_
    · simp only [Array.size_append, List.size_toArray, size_zeroCells, hzs, Nat.mul_one, List.length_singleton]
      omega
    · simp only [Array.toList_append]
      rw [List.take_append_of_le_length (by simp)]
      exact List.take_of_length_le (by simp)
  have kn : ∀ o, Kept (Of a b) w (w.drew.alloc o) := fun o => (Kept.refl _ _).drew.alloc o
  rcases own with ⟨rfl, rfl, rfl⟩ | ⟨rfl, h1, h2, cur, hh, h3, h4⟩
  · have hr := run_append_nil (P := P) w t ty e i _ ht hi hz ad 1 c _ hl hnews (by omega) (by omega) (by rw [hby]; simp at hle; omega)
    have hm2 := made 0 (by simp)
    simp only [List.length_nil, Nat.zero_add, List.nil_append] at hm2 ⊢
    refine ⟨w.heap.size, _, _, _, hr, ?_, kn _, .inr (Nat.le_refl _)⟩
    simpa using hm2
  · by_cases hroom : xs.length + 1 ≤ cap
    · have hfit : xs.length * i.size + ([u] : List Value).length ≤ cur.size := by rw [hsize, h3]; simp; omega
      have hr := run_append_room (P := P) w t ty e i ht hi b xs.length cap cur hh ad 1 c _ hl hnews h1c hroom hfit
      refine ⟨b, _, cap, _, hr, .inr ⟨rfl, by simp; omega, h2, _, setRow_heap w b cur _ e _ hh, ?_, ?_⟩, ⟨rfl, rfl, rfl, by simp, fun k _ hk => setRow_other w b k _ (fun e => hk ⟨by simp, e⟩)⟩, .inl ⟨rfl, by simp⟩⟩
      · simp only [List.size_toArray, List.length_append, List.length_take, List.length_drop, Array.length_toList, hsize, List.length_singleton]
        omega
      · rw [hsize, Nat.mul_one, h4]
        show List.take _ ((xs ++ [u]) ++ _) = _
        rw [List.take_append_of_le_length (by simp)]
        exact List.take_of_length_le (by simp)
    · have own' : OwnV e w b (some ⟨b, 0, none⟩) cap xs := .inr ⟨rfl, h1, h2, cur, hh, h3, h4⟩
      have holds : ∀ j v, xs[j]? = some v → w.cell? ((⟨b, 0, none⟩ : Addr).add j) = some v := own'.row.cells (g := b) rfl
      have hr := run_append_grow (P := P) w t ty e i _ ht hi hz ⟨b, 0, none⟩ xs.length cap xs (by rw [hsize]; simp) holds ad 1 c _ hl hnews (by omega) (by omega) (growslice_fits (by omega) (by rw [hby]; omega))
      exact ⟨w.heap.size, _, _, _, hr, made cap (by omega), kn _, .inr (Nat.le_refl _)⟩
theorem wpList_append_val {P : Program} {w : World} {ops : Array Oper} {rest : List Oper} {o : Oper} {a : Act} {Q : Exit → Act → World → Prop} (hgd : o.guard = none) (s x : Operand) (t : TypeId)
    (ho : o.op = .call { callee := .builtin .append, args := #[s, x], argTypes := #[t, t] })
    (e : TypeId) (i : TypeInfo) (z : Value) (by_ : Nat) (ht : P.underlying t = some (.slice e)) (hi : P.info? e = some i) (hz : i.zero = some z) (hsize : i.size = 1) (hby : i.bytes = by_) (hzs : z.cells.size = 1)
    (b : Nat) (ao : Option Addr) (cap : Nat) (xs : List Value) (n : Nat) (hs : a.eval s = .slice ao n cap) (own : OwnV e w b ao cap xs) (hn : xs.length = n)
    (ad : Addr) (c : Nat) (u : Value) (hx : a.eval x = .slice (some ad) 1 c) (hu : w.cell? ad = some u) (hu1 : u.oneCell' = true) (hspot : ad.spot = none) (hle : (n + 1) * by_ ≤ 70368744177664) (hle2 : n ≤ 70368744177664)
    (h : ∀ b' a' cap' w', OwnV e w' b' a' cap' (xs ++ [u]) → Kept (Of ao b) w w' → ((b' = b ∧ ao ≠ none) ∨ w.heap.size ≤ b') → wpList P ops Q rest (a.put o.dst (.slice a' (n + 1) cap')) w') : wpList P ops Q (o :: rest) a w := by
  subst hn
  refine wpList_plain hgd fun K hK => ?_
  obtain ⟨b', a', cap', w', hr, h2, h3, h4⟩ := run_append_val (P := P) w t o.type e i z by_ ht hi hz hsize hby hzs b ao cap xs own ad c u hu hu1 hspot hle hle2
  unfold Oper.wp execOp
  simp only [ho, resolve, invoke, builtin, Sem.run_bind, Sem.run_pure, Result.andThen_ok, List.map_toArray, List.map_cons, List.map_nil, hs, hx, hr]
  exact hK _ _ (h b' a' cap' w' h2 h3 h4)
end Go.Proofs.YtbheofibdogabaaGreat.Mem
end
section
/- Slices of values of k cells that the call has made itself: appended to. For any program. -/
namespace Go.Proofs.YtbheofibdogabaaGreat.Mem
open Go Go.RowKit

/-- (a, n, cap) is the head of block b, which is the call's own: n values, of k cells each -/
def OwnC (e : TypeId) (k : Nat) (w : World) (b : Nat) (a : Option Addr) (cap n : Nat) (cs : List Value) : Prop :=
  cs.length = n * k ∧ ((a = none ∧ cap = 0 ∧ n = 0) ∨
  (a = some ⟨b, 0, none⟩ ∧ n ≤ cap ∧ cap ≤ maxLen ∧ ∃ cur : Array Value, w.heap[b]? = some (.cells cur e (0, 0)) ∧ cur.size = cap * k ∧ cur.toList.take (n * k) = cs))
theorem OwnC.nil (e : TypeId) (k : Nat) (w : World) (b : Nat) : OwnC e k w b none 0 0 [] := ⟨by simp, .inl ⟨rfl, rfl, rfl⟩⟩
theorem OwnC.kept {e : TypeId} {k : Nat} {S : Nat → Prop} {w w' : World} {b : Nat} {a : Option Addr} {cap n : Nat} {cs : List Value} (h : OwnC e k w b a cap n cs) (hk : Kept S w w') (hs : a ≠ none → ¬ S b) : OwnC e k w' b a cap n cs := by
  refine ⟨h.1, ?_⟩
  rcases h.2 with h | ⟨ha, h1, h2, cur, hh, h3⟩
  · exact .inl h
  · exact .inr ⟨ha, h1, h2, cur, hk.heap hh (hs (by rw [ha]; simp)), h3⟩
theorem OwnC.heap {e : TypeId} {k : Nat} {w w' : World} {b : Nat} {a : Option Addr} {cap n : Nat} {cs : List Value} (h : OwnC e k w b a cap n cs) (hw : w'.heap = w.heap) : OwnC e k w' b a cap n cs := by
  unfold OwnC at *; rw [hw]; exact h
theorem OwnC.lt {e : TypeId} {k : Nat} {w : World} {b : Nat} {a : Option Addr} {cap n : Nat} {cs : List Value} (h : OwnC e k w b a cap n cs) (ha : a ≠ none) : b < w.heap.size := by
  rcases h.2 with h | ⟨_, _, _, cur, hh, _⟩
  · exact absurd h.1 ha
  · exact lt_of_heap hh
/-- the cell at a place -/
theorem OwnC.cell {e : TypeId} {k : Nat} {w : World} {b : Nat} {a : Option Addr} {cap n : Nat} {cs : List Value} (h : OwnC e k w b a cap n cs) {j : Nat} (hj : j < cs.length) : a = some ⟨b, 0, none⟩ ∧ w.cell? ⟨b, j, none⟩ = some cs[j] ∧ w.frozen? ⟨b, j, none⟩ = false := by
  have hl := h.1
  rcases h.2 with ⟨_, _, h0⟩ | ⟨ha, h1, h2, cur, hh, h3, h4⟩
  · subst h0; simp at hl; subst hl; simp at hj
  · refine ⟨ha, ?_, ?_⟩
    · have hlt : j < cur.size := by
        have : n * k ≤ cap * k := Nat.mul_le_mul_right k h1
        omega
      have e1 : cs[j] = cur[j] := by
        have : cs[j] = (cur.toList.take (n * k))[j]'(by rw [h4]; exact hj) := by simp only [h4]
        rw [this, List.getElem_take, Array.getElem_toList]
      rw [e1]
      simp [World.cell?, hh, hlt]
    · simp [World.frozen?, hh]
/-- what stands at an address, as the laws of append ask for it -/
def SrcC (k : Nat) (w : World) (a : Option Addr) (cap m : Nat) (cs : List Value) : Prop :=
  cs.length = m * k ∧ (a = none → m = 0 ∧ cap = 0) ∧ ∀ ad, a = some ad → ∀ (j : Nat) (u : Value), cs[j]? = some u → w.cell? (ad.add j) = some u
theorem OwnC.src {e : TypeId} {k : Nat} {w : World} {b : Nat} {a : Option Addr} {cap n : Nat} {cs : List Value} (h : OwnC e k w b a cap n cs) : SrcC k w a cap n cs := by
  refine ⟨h.1, fun ha => ?_, fun ad ha j u hu => ?_⟩
  · rcases h.2 with ⟨_, h1, h2⟩ | ⟨h1, _⟩
    · exact ⟨h2, h1⟩
    · rw [h1] at ha; cases ha
  · obtain ⟨hj, rfl⟩ := List.getElem?_eq_some_iff.1 hu
    obtain ⟨h1, h2, _⟩ := h.cell hj
    rw [h1] at ha
    injection ha with ha; subst ha
    have hadd : (⟨b, 0, none⟩ : Addr).add j = ⟨b, j, none⟩ := by unfold Addr.add; split <;> simp_all
    rw [hadd]; exact h2
theorem own_newC {e : TypeId} {k : Nat} {w : World} {cur : Array Value} {cs : List Value} {cap n : Nat} (h0 : cs.length = n * k) (h1 : n ≤ cap) (h2 : cap ≤ maxLen) (h3 : cur.size = cap * k) (h4 : cur.toList.take (n * k) = cs) :
    OwnC e k (w.alloc (.cells cur e)) w.heap.size (some ⟨w.heap.size, 0, none⟩) cap n cs := ⟨h0, .inr ⟨rfl, h1, h2, cur, heap_alloc_new w _, h3, h4⟩⟩

/-- append of whatever values, to whatever values the call has made itself -/
theorem run_append_cells {P : Program} (w : World) (t ty e : TypeId) (k : Nat) (i : TypeInfo) (z : Value) (by_ : Nat) (ht : P.underlying t = some (.slice e)) (hi : P.info? e = some i) (hz : i.zero = some z) (hsize : i.size = k) (hby : i.bytes = by_) (hzs : z.cells.size = k)
    (b : Nat) (a : Option Addr) (cap n : Nat) (cs : List Value) (own : OwnC e k w b a cap n cs) (a2 : Option Addr) (cap2 m : Nat) (ds : List Value) (hs : SrcC k w a2 cap2 m ds) (h1c : ∀ u ∈ ds, u.oneCell' = true)
    (hle : (n + m) * by_ ≤ 70368744177664) (hle2 : n + m ≤ 70368744177664) :
    ∃ b' a' cap' w', (Builtin.append_ #[t, t] ty #[.slice a n cap, .slice a2 m cap2]).run P w = .ok (.slice a' (n + m) cap') w' ∧
      OwnC e k w' b' a' cap' (n + m) (cs ++ ds) ∧ Kept (Of a b) w w' ∧ ((b' = b ∧ (a' = none ∨ a ≠ none)) ∨ w.heap.size ≤ b') ∧ (a' = none ↔ a = none ∧ m = 0) := by
  have hmx : n + m ≤ maxLen := by unfold maxLen; omega
  have hcl := own.1
  have hdl := hs.1
  have hlen : (cs ++ ds).length = (n + m) * k := by rw [List.length_append, hcl, hdl, Nat.add_mul]
  have made : ∀ old, old < n + m →
      OwnC e k (w.drew.alloc (.cells (cs.toArray ++ ds.toArray ++ Builtin.zeroCells z.cells (grownCap w (n + m) old e - (n + m))) e)) w.heap.size (some ⟨w.heap.size, 0, none⟩) (grownCap w (n + m) old e) (n + m) (cs ++ ds) := by
    intro old ho
    have hge := grownCap_ge w (n + m) old e
    have hcm : grownCap w (n + m) old e ≤ maxLen := grownCap_le_maxLen w _ old e hmx
    refine own_newC (w := w.drew) hlen (by omega) hcm ?_ ?_
    · simp only [Array.size_append, List.size_toArray, size_zeroCells, hzs, hcl, hdl]
      rw [← Nat.add_mul, ← Nat.add_mul]
      congr 1
      omega
    · simp only [Array.toList_append]
      show List.take _ ((cs ++ ds) ++ _) = _
      rw [List.take_append_of_le_length (by omega), List.take_of_length_le (by omega)]
  have kn : ∀ o, Kept (Of a b) w (w.drew.alloc o) := fun o => (Kept.refl _ _).drew.alloc o
  cases a2 with
  | none =>
    obtain ⟨rfl, rfl⟩ := hs.2.1 rfl
    have hd : ds = [] := List.eq_nil_of_length_eq_zero (by simpa using hdl)
    subst hd
    refine ⟨b, a, cap, w, ?_, by simpa using own, Kept.refl _ _, .inl ⟨rfl, by cases a <;> simp⟩, by simp⟩
    have hrow : w.ownsRow 0 e k (.slice a n cap) n cs := by
      refine ⟨hcl, ?_⟩
      rcases own.2 with ⟨rfl, rfl, rfl⟩ | ⟨rfl, h1, h2, cur, hh, h3, h4⟩
      · exact .inl ⟨rfl, rfl⟩
      · exact .inr ⟨b, cap, cur, rfl, Nat.zero_le _, hh, h1, h2, by omega, h4⟩
    simpa using run_append_owned_none (P := P) w 0 t ty e i k ht hi _ _ _ hrow
  | some ad =>
    have hnews := hs.2.2 ad rfl
    have hl : ds.length = m * i.size := by rw [hsize]; exact hdl
    rcases own.2 with ⟨rfl, rfl, rfl⟩ | ⟨rfl, h1, h2, cur, hh, h3, h4⟩
    · have hc0 : cs = [] := List.eq_nil_of_length_eq_zero (by simpa using hcl)
      subst hc0
      by_cases hm : m = 0
      · subst hm
        have hd : ds = [] := List.eq_nil_of_length_eq_zero (by simpa using hdl)
        subst hd
        refine ⟨b, none, 0, w, ?_, by simpa using own, Kept.refl _ _, .inl ⟨rfl, .inl rfl⟩, by simp⟩
        simp [Builtin.append_, run_underlying ht, sizeOf, typeInfo, hi, Builtin.lenOf, Builtin.firstCells, loadCells, loadCellsFrom]
      · have hr := run_append_nil (P := P) w t ty e i _ ht hi hz ad m cap2 _ hl hnews (by omega) (by omega) (by rw [hby]; simp at hle; omega)
        have hm2 := made 0 (by omega)
        simp only [Nat.zero_add, List.nil_append, Array.empty_append] at hm2 ⊢
        refine ⟨w.heap.size, _, _, _, hr, ?_, kn _, .inr (Nat.le_refl _), by simp [hm]⟩
        simpa using hm2
    · by_cases hroom : n + m ≤ cap
      · have hfit : n * i.size + ds.length ≤ cur.size := by
          rw [hsize, h3, hdl, ← Nat.add_mul]; exact Nat.mul_le_mul_right k hroom
        have hr := run_append_room (P := P) w t ty e i ht hi b n cap cur hh ad m cap2 _ hl hnews h1c hroom hfit
        refine ⟨b, _, cap, _, hr, ⟨hlen, .inr ⟨rfl, by omega, h2, _, setRow_heap w b cur _ e _ hh, ?_, ?_⟩⟩, ⟨rfl, rfl, rfl, by simp, fun k' _ hk => setRow_other w b k' _ (fun e => hk ⟨by simp, e⟩)⟩, .inl ⟨rfl, .inr (by simp)⟩, by simp⟩
        · simp only [List.size_toArray, List.length_append, List.length_take, List.length_drop, Array.length_toList, hsize, h3, hdl]
          have : (n + m) * k ≤ cap * k := Nat.mul_le_mul_right k hroom
          rw [Nat.add_mul] at this
          omega
        · rw [hsize, h4]
          show List.take _ ((cs ++ ds) ++ _) = _
          rw [List.take_append_of_le_length (by omega), List.take_of_length_le (by omega)]
      · have own' : OwnC e k w b (some ⟨b, 0, none⟩) cap n cs := own
        have holds := own'.src.2.2 _ rfl
        have hr := run_append_grow (P := P) w t ty e i _ ht hi hz ⟨b, 0, none⟩ n cap cs (by rw [hsize]; exact hcl) holds ad m cap2 _ hl hnews (by omega) (by omega) (growslice_fits (by omega) (by rw [hby]; omega))
        exact ⟨w.heap.size, _, _, _, hr, made cap (by omega), kn _, .inr (Nat.le_refl _), by simp⟩
theorem wp_append_cells {P : Program} {w : World} {o : Oper} {a : Act} {K : Act → World → Prop} {Q : Exit → Act → World → Prop} (s x : Operand) (t : TypeId)
    (ho : o.op = .call { callee := .builtin .append, args := #[s, x], argTypes := #[t, t] })
    (e : TypeId) (k : Nat) (i : TypeInfo) (z : Value) (by_ : Nat) (ht : P.underlying t = some (.slice e)) (hi : P.info? e = some i) (hz : i.zero = some z) (hsize : i.size = k) (hby : i.bytes = by_) (hzs : z.cells.size = k)
    (b : Nat) (ao : Option Addr) (cap n : Nat) (cs : List Value) (hs : a.eval s = .slice ao n cap) (own : OwnC e k w b ao cap n cs)
    (a2 : Option Addr) (cap2 m : Nat) (ds : List Value) (hx : a.eval x = .slice a2 m cap2) (hsh : SrcC k w a2 cap2 m ds) (h1c : ∀ u ∈ ds, u.oneCell' = true) (hle : (n + m) * by_ ≤ 70368744177664) (hle2 : n + m ≤ 70368744177664)
    (h : ∀ b' a' cap' w', OwnC e k w' b' a' cap' (n + m) (cs ++ ds) → Kept (Of ao b) w w' → ((b' = b ∧ (a' = none ∨ ao ≠ none)) ∨ w.heap.size ≤ b') → (a' = none ↔ ao = none ∧ m = 0) → K (a.put o.dst (.slice a' (n + m) cap')) w') : o.wp P a w K Q := by
  obtain ⟨b', a', cap', w', hr, h2, h3, h4, h5⟩ := run_append_cells (P := P) w t o.type e k i z by_ ht hi hz hsize hby hzs b ao cap n cs own a2 cap2 m ds hsh h1c hle hle2
  unfold Oper.wp execOp
  simp only [ho, resolve, invoke, builtin, Sem.run_bind, Sem.run_pure, Result.andThen_ok, List.map_toArray, List.map_cons, List.map_nil, hs, hx, hr]
  exact h b' a' cap' w' h2 h3 h4 h5
theorem wpList_append_cells {P : Program} {w : World} {ops : Array Oper} {rest : List Oper} {o : Oper} {a : Act} {Q : Exit → Act → World → Prop} (hgd : o.guard = none) (s x : Operand) (t : TypeId)
    (ho : o.op = .call { callee := .builtin .append, args := #[s, x], argTypes := #[t, t] })
    (e : TypeId) (k : Nat) (i : TypeInfo) (z : Value) (by_ : Nat) (ht : P.underlying t = some (.slice e)) (hi : P.info? e = some i) (hz : i.zero = some z) (hsize : i.size = k) (hby : i.bytes = by_) (hzs : z.cells.size = k)
    (b : Nat) (ao : Option Addr) (cap n : Nat) (cs : List Value) (hs : a.eval s = .slice ao n cap) (own : OwnC e k w b ao cap n cs)
    (a2 : Option Addr) (cap2 m : Nat) (ds : List Value) (hx : a.eval x = .slice a2 m cap2) (hsh : SrcC k w a2 cap2 m ds) (h1c : ∀ u ∈ ds, u.oneCell' = true) (hle : (n + m) * by_ ≤ 70368744177664) (hle2 : n + m ≤ 70368744177664)
    (h : ∀ b' a' cap' w', OwnC e k w' b' a' cap' (n + m) (cs ++ ds) → Kept (Of ao b) w w' → ((b' = b ∧ (a' = none ∨ ao ≠ none)) ∨ w.heap.size ≤ b') → (a' = none ↔ ao = none ∧ m = 0) → wpList P ops Q rest (a.put o.dst (.slice a' (n + m) cap')) w') : wpList P ops Q (o :: rest) a w :=
  wpList_plain hgd fun _ hK => wp_append_cells s x t ho e k i z by_ ht hi hz hsize hby hzs b ao cap n cs hs own a2 cap2 m ds hx hsh h1c hle hle2 fun b' a' cap' w' h2 h3 h4 h5 => hK _ _ (h b' a' cap' w' h2 h3 h4 h5)
end Go.Proofs.YtbheofibdogabaaGreat.Mem
end
section
/- Walks of the reference's and the keeper's functions of values. -/
namespace Go.Proofs.YtbheofibdogabaaGreat.Vl
open Go Go.RowKit Go.Proofs.YtbheofibdogabaaGreat.Nm
attribute [local go_sem] run_bits run_frombits

set_option maxHeartbeats 400000 in
theorem nought_any (a : Nat) (w : World) :
    Calls Tryz.prog 49 #[.float .f64 a] w fun e w' => e = .returned (.bool (decide (a = 0))) ∧ w = w' := by
  go_enter Tryz.func49, Tryz.ntmps49
  go_wp2
  go_ret
  exact ⟨ret_bool (by rw [Bool.eq_iff_iff]; simp), rfl⟩


theorem bits_ne {a : Nat} (h : a ≠ 0) : decide (a = 0) = false := decide_eq_false h
theorem nonempty_ne {s : ByteArray} (h : s.size ≠ 0) : (s.toList == []) = false := by
  rw [beq_eq_false_iff_ne]
  intro e
  rw [Nm.toList_data] at e
  exact h (by rw [← ByteArray.size_data]; simpa using congrArg List.length e)
theorem isNaN_nanBits : isNaN nanBits = true := by kernel_rfl
theorem isNaN_zero : isNaN 0 = false := by kernel_rfl

set_option maxHeartbeats 1600000 in
theorem refCheck_any (v : V) (w : World) :
    Calls Tryz.prog 25 #[v.val] w fun e w' => e = .returned (.int .i64 v.check) ∧ ∃ o, w' = w.alloc o := by
  obtain ⟨k, a, s⟩ := v
  have done : ∀ (n : Int) (o : Obj), (V.mk k a s).check = n → (Ending.returned (.int .i64 n) = .returned (.int .i64 (V.mk k a s).check)) ∧ ∃ o', w.alloc o = w.alloc o' := fun n o h => ⟨ret_int h.symm, o, rfl⟩
  by_cases h1 : k < 0
  · have HC := Lib.hid (show (V.mk k a s).check = 15 by simp [V.check, h1])
    go_enter Tryz.func25, Tryz.ntmps25
    go_wp2_with fail
    go_ret
    exact done _ _ HC.out
  · by_cases h2 : 2 < k
    · have HC := Lib.hid (show (V.mk k a s).check = 15 by simp [V.check, h2])
      go_enter Tryz.func25, Tryz.ntmps25
      go_wp2_with fail
      go_ret
      exact done _ _ HC.out
    · rcases (show k = 0 ∨ k = 1 ∨ k = 2 by omega) with rfl | rfl | rfl
      · clear h1 h2
        by_cases hs : s.size = 0
        · obtain rfl := empty_of hs
          by_cases ha : a = 0
          · subst ha
            have h2 : (FloatKind.f64.format.order 0 0 != some .eq) = false := isNaN_zero
            have HC := Lib.hid (show (V.mk 0 0 (⟨#[]⟩ : ByteArray)).check = 0 by kernel_rfl)
            go_enter Tryz.func25, Tryz.ntmps25
            go_wp2_with (first | (go_at_call 49; refine (nought_any _ _).mono ?_; rintro e w' ⟨rfl, rfl⟩) | (go_at_call 51; refine (refNaN_any _).mono ?_; rintro e w' ⟨rfl, rfl⟩))
            go_ret
            exact done _ _ HC.out
          · have ha2 := bits_ne ha
            have HC := Lib.hid (show (V.mk 0 a (⟨#[]⟩ : ByteArray)).check = 8 by simp [V.check, ha])
            clear ha
            go_enter Tryz.func25, Tryz.ntmps25
            go_wp2_with (first | (go_at_call 49; refine (nought_any _ _).mono ?_; rintro e w' ⟨rfl, rfl⟩))
            go_ret
            exact done _ _ HC.out
        · have hs2 := nonempty_ne hs
          have HC := Lib.hid (show (V.mk 0 a s).check = 8 by simp [V.check, hs])
          clear hs
          go_enter Tryz.func25, Tryz.ntmps25
          go_wp2_with fail
          go_ret
          exact done _ _ HC.out
      · clear h1 h2
        by_cases hs : s.size = 0
        · obtain rfl := empty_of hs
          cases h : isNaN a
          · have h2 : (FloatKind.f64.format.order a a != some .eq) = false := h
            have HC := Lib.hid (show (V.mk 1 a (⟨#[]⟩ : ByteArray)).check = 0 by simp [V.check, canon_num h]; rfl)
            go_enter Tryz.func25, Tryz.ntmps25
            go_wp2_with fail
            go_ret
            exact done _ _ HC.out
          · by_cases ha : a = nanBits
            · subst ha
              have h2 : (FloatKind.f64.format.order nanBits nanBits != some .eq) = true := h
              have HC := Lib.hid (show (V.mk 1 nanBits (⟨#[]⟩ : ByteArray)).check = 0 by kernel_rfl)
              go_enter Tryz.func25, Tryz.ntmps25
              go_wp2_with (first | (go_at_call 51; refine (refNaN_any _).mono ?_; rintro e w' ⟨rfl, rfl⟩))
              go_ret
              exact done _ _ HC.out
            · have h2 : (FloatKind.f64.format.order a a != some .eq) = true := h
              have h3 : ((a : Int) == (nanBits : Int)) = false := by rw [beq_eq_false_iff_ne]; omega
              have HC := Lib.hid (show (V.mk 1 a (⟨#[]⟩ : ByteArray)).check = 8 by simp [V.check, canon_nan h, Ne.symm ha])
              clear ha
              go_enter Tryz.func25, Tryz.ntmps25
              go_wp2_with (first | (go_at_call 51; refine (refNaN_any _).mono ?_; rintro e w' ⟨rfl, rfl⟩))
              go_ret
              exact done _ _ HC.out
        · have hs2 := nonempty_ne hs
          have HC := Lib.hid (show (V.mk 1 a s).check = 8 by simp [V.check, hs])
          clear hs
          go_enter Tryz.func25, Tryz.ntmps25
          go_wp2_with fail
          go_ret
          exact done _ _ HC.out
      · clear h1 h2
        by_cases hs : 32 < s.size
        · have HC := Lib.hid (show (V.mk 2 a s).check = 2 by simp [V.check, hs])
          go_enter Tryz.func25, Tryz.ntmps25
          go_wp2_with fail
          go_ret
          exact done _ _ HC.out
        · by_cases ha : a = 0
          · subst ha
            have h2 : (FloatKind.f64.format.order 0 0 != some .eq) = false := isNaN_zero
            have HC := Lib.hid (show (V.mk 2 0 s).check = 0 by simp [V.check, hs, canon_zero])
            go_enter Tryz.func25, Tryz.ntmps25
            go_wp2_with (first | (go_at_call 49; refine (nought_any _ _).mono ?_; rintro e w' ⟨rfl, rfl⟩))
            go_ret
            exact done _ _ HC.out
          · have ha2 := bits_ne ha
            have HC := Lib.hid (show (V.mk 2 a s).check = 8 by simp [V.check, ha, hs])
            clear ha
            go_enter Tryz.func25, Tryz.ntmps25
            go_wp2_with (first | (go_at_call 49; refine (nought_any _ _).mono ?_; rintro e w' ⟨rfl, rfl⟩))
            go_ret
            exact done _ _ HC.out

theorem text_eq (s t : ByteArray) : (s.toList == t.toList) = decide (s = t) := by
  rw [Bool.eq_iff_iff, beq_iff_eq, decide_eq_true_eq, Nm.toList_data, Nm.toList_data]
  exact ⟨fun h => by cases s; cases t; congr 1; exact Array.ext' h, fun h => by rw [h]⟩
theorem text_lt (s t : ByteArray) : Op.bytesLess s.toList t.toList = decide (s.data.toList < t.data.toList) := by
  rw [bytesLess_eq, Nm.toList_data, Nm.toList_data]

end Go.Proofs.YtbheofibdogabaaGreat.Vl
end
