/- Slices of values of k cells that the call has made itself: appended to. For any program. -/
import Derived.Test.YtakaflbfhpalhaaOwnV
namespace Go.Proofs.Ytakaflbfhpalhaa.Mem
open Go Go.RowKit

/-- (a, n, cap) is the head of block b, which is the call's own: n values, of k cells each -/
def OwnC (e : TypeId) (k : Nat) (w : World) (b : Nat) (a : Option Addr) (cap n : Nat) (cs : List Value) : Prop :=
  cs.length = n * k ∧ ((a = none ∧ cap = 0 ∧ n = 0) ∨
  (a = some ⟨b, 0, none⟩ ∧ n ≤ cap ∧ cap ≤ maxLen ∧ ∃ cur : Array Value, w.heap[b]? = some (.cells cur e (0, 0)) ∧ cur.size = cap * k ∧ cur.toList.take (n * k) = cs))
theorem OwnC.nil (e : TypeId) (k : Nat) (w : World) (b : Nat) : OwnC e k w b none 0 0 [] := ⟨by simp, .inl ⟨rfl, rfl, rfl⟩⟩
theorem OwnC.kept {e : TypeId} {k : Nat} {S : Nat → Prop} {w w' : World} {b : Nat} {a : Option Addr} {cap n : Nat} {cs : List Value} (h : OwnC e k w b a cap n cs) (hk : Kept S w w') (hs : a ≠ none → ¬ S b) : OwnC e k w' b a cap n cs := by
  refine ⟨h.1, ?_⟩
  rcases h.2 with h | ⟨ha, h1, h2, cur, hh, h3⟩
  · exact .inl h
  · exact .inr ⟨ha, h1, h2, cur, hk.heap hh (hs (by rw [ha]; simp)), h3⟩
theorem OwnC.heap {e : TypeId} {k : Nat} {w w' : World} {b : Nat} {a : Option Addr} {cap n : Nat} {cs : List Value} (h : OwnC e k w b a cap n cs) (hw : w'.heap = w.heap) : OwnC e k w' b a cap n cs := by
  unfold OwnC at *; rw [hw]; exact h
theorem OwnC.lt {e : TypeId} {k : Nat} {w : World} {b : Nat} {a : Option Addr} {cap n : Nat} {cs : List Value} (h : OwnC e k w b a cap n cs) (ha : a ≠ none) : b < w.heap.size := by
  rcases h.2 with h | ⟨_, _, _, cur, hh, _⟩
  · exact absurd h.1 ha
  · exact lt_of_heap hh
/-- the cell at a place -/
theorem OwnC.cell {e : TypeId} {k : Nat} {w : World} {b : Nat} {a : Option Addr} {cap n : Nat} {cs : List Value} (h : OwnC e k w b a cap n cs) {j : Nat} (hj : j < cs.length) : a = some ⟨b, 0, none⟩ ∧ w.cell? ⟨b, j, none⟩ = some cs[j] ∧ w.frozen? ⟨b, j, none⟩ = false := by
  have hl := h.1
  rcases h.2 with ⟨_, _, h0⟩ | ⟨ha, h1, h2, cur, hh, h3, h4⟩
  · subst h0; simp at hl; subst hl; simp at hj
  · refine ⟨ha, ?_, ?_⟩
    · have hlt : j < cur.size := by
        have : n * k ≤ cap * k := Nat.mul_le_mul_right k h1
        omega
      have e1 : cs[j] = cur[j] := by
        have : cs[j] = (cur.toList.take (n * k))[j]'(by rw [h4]; exact hj) := by simp only [h4]
        rw [this, List.getElem_take, Array.getElem_toList]
      rw [e1]
      simp [World.cell?, hh, hlt]
    · simp [World.frozen?, hh]
/-- what stands at an address, as the laws of append ask for it -/
def SrcC (k : Nat) (w : World) (a : Option Addr) (cap m : Nat) (cs : List Value) : Prop :=
  cs.length = m * k ∧ (a = none → m = 0 ∧ cap = 0) ∧ ∀ ad, a = some ad → ∀ (j : Nat) (u : Value), cs[j]? = some u → w.cell? (ad.add j) = some u
theorem OwnC.src {e : TypeId} {k : Nat} {w : World} {b : Nat} {a : Option Addr} {cap n : Nat} {cs : List Value} (h : OwnC e k w b a cap n cs) : SrcC k w a cap n cs := by
  refine ⟨h.1, fun ha => ?_, fun ad ha j u hu => ?_⟩
  · rcases h.2 with ⟨_, h1, h2⟩ | ⟨h1, _⟩
    · exact ⟨h2, h1⟩
    · rw [h1] at ha; cases ha
  · obtain ⟨hj, rfl⟩ := List.getElem?_eq_some_iff.1 hu
    obtain ⟨h1, h2, _⟩ := h.cell hj
    rw [h1] at ha
    injection ha with ha; subst ha
    have hadd : (⟨b, 0, none⟩ : Addr).add j = ⟨b, j, none⟩ := by unfold Addr.add; split <;> simp_all
    rw [hadd]; exact h2
theorem own_newC {e : TypeId} {k : Nat} {w : World} {cur : Array Value} {cs : List Value} {cap n : Nat} (h0 : cs.length = n * k) (h1 : n ≤ cap) (h2 : cap ≤ maxLen) (h3 : cur.size = cap * k) (h4 : cur.toList.take (n * k) = cs) :
    OwnC e k (w.alloc (.cells cur e)) w.heap.size (some ⟨w.heap.size, 0, none⟩) cap n cs := ⟨h0, .inr ⟨rfl, h1, h2, cur, heap_alloc_new w _, h3, h4⟩⟩

/-- append of whatever values, to whatever values the call has made itself -/
theorem run_append_cells {P : Program} (w : World) (t ty e : TypeId) (k : Nat) (i : TypeInfo) (z : Value) (by_ : Nat) (ht : P.underlying t = some (.slice e)) (hi : P.info? e = some i) (hz : i.zero = some z) (hsize : i.size = k) (hby : i.bytes = by_) (hzs : z.cells.size = k)
    (b : Nat) (a : Option Addr) (cap n : Nat) (cs : List Value) (own : OwnC e k w b a cap n cs) (a2 : Option Addr) (cap2 m : Nat) (ds : List Value) (hs : SrcC k w a2 cap2 m ds) (h1c : ∀ u ∈ ds, u.oneCell' = true)
    (hle : (n + m) * by_ ≤ 70368744177664) (hle2 : n + m ≤ 70368744177664) :
    ∃ b' a' cap' w', (Builtin.append_ #[t, t] ty #[.slice a n cap, .slice a2 m cap2]).run P w = .ok (.slice a' (n + m) cap') w' ∧
      OwnC e k w' b' a' cap' (n + m) (cs ++ ds) ∧ Kept (Of a b) w w' ∧ ((b' = b ∧ (a' = none ∨ a ≠ none)) ∨ w.heap.size ≤ b') ∧ (a' = none ↔ a = none ∧ m = 0) := by
  have hmx : n + m ≤ maxLen := by unfold maxLen; omega
  have hcl := own.1
  have hdl := hs.1
  have hlen : (cs ++ ds).length = (n + m) * k := by rw [List.length_append, hcl, hdl, Nat.add_mul]
  have made : ∀ old, old < n + m →
      OwnC e k (w.drew.alloc (.cells (cs.toArray ++ ds.toArray ++ Builtin.zeroCells z.cells (grownCap w (n + m) old e - (n + m))) e)) w.heap.size (some ⟨w.heap.size, 0, none⟩) (grownCap w (n + m) old e) (n + m) (cs ++ ds) := by
    intro old ho
    have hge := grownCap_ge w (n + m) old e
    have hcm : grownCap w (n + m) old e ≤ maxLen := grownCap_le_maxLen w _ old e hmx
    refine own_newC (w := w.drew) hlen (by omega) hcm ?_ ?_
    · simp only [Array.size_append, List.size_toArray, size_zeroCells, hzs, hcl, hdl]
      rw [← Nat.add_mul, ← Nat.add_mul]
      congr 1
      omega
    · simp only [Array.toList_append]
      show List.take _ ((cs ++ ds) ++ _) = _
      rw [List.take_append_of_le_length (by omega), List.take_of_length_le (by omega)]
  have kn : ∀ o, Kept (Of a b) w (w.drew.alloc o) := fun o => (Kept.refl _ _).drew.alloc o
  cases a2 with
  | none =>
    obtain ⟨rfl, rfl⟩ := hs.2.1 rfl
    have hd : ds = [] := List.eq_nil_of_length_eq_zero (by simpa using hdl)
    subst hd
    refine ⟨b, a, cap, w, ?_, by simpa using own, Kept.refl _ _, .inl ⟨rfl, by cases a <;> simp⟩, by simp⟩
    have hrow : w.ownsRow 0 e k (.slice a n cap) n cs := by
      refine ⟨hcl, ?_⟩
      rcases own.2 with ⟨rfl, rfl, rfl⟩ | ⟨rfl, h1, h2, cur, hh, h3, h4⟩
      · exact .inl ⟨rfl, rfl⟩
      · exact .inr ⟨b, cap, cur, rfl, Nat.zero_le _, hh, h1, h2, by omega, h4⟩
    simpa using run_append_owned_none (P := P) w 0 t ty e i k ht hi _ _ _ hrow
  | some ad =>
    have hnews := hs.2.2 ad rfl
    have hl : ds.length = m * i.size := by rw [hsize]; exact hdl
    rcases own.2 with ⟨rfl, rfl, rfl⟩ | ⟨rfl, h1, h2, cur, hh, h3, h4⟩
    · have hc0 : cs = [] := List.eq_nil_of_length_eq_zero (by simpa using hcl)
      subst hc0
      by_cases hm : m = 0
      · subst hm
        have hd : ds = [] := List.eq_nil_of_length_eq_zero (by simpa using hdl)
        subst hd
        refine ⟨b, none, 0, w, ?_, by simpa using own, Kept.refl _ _, .inl ⟨rfl, .inl rfl⟩, by simp⟩
        simp [Builtin.append_, run_underlying ht, sizeOf, typeInfo, hi, Builtin.lenOf, Builtin.firstCells, loadCells, loadCellsFrom]
      · have hr := run_append_nil (P := P) w t ty e i _ ht hi hz ad m cap2 _ hl hnews (by omega) (by omega) (by rw [hby]; simp at hle; omega)
        have hm2 := made 0 (by omega)
        simp only [Nat.zero_add, List.nil_append, Array.empty_append] at hm2 ⊢
        refine ⟨w.heap.size, _, _, _, hr, ?_, kn _, .inr (Nat.le_refl _), by simp [hm]⟩
        simpa using hm2
    · by_cases hroom : n + m ≤ cap
      · have hfit : n * i.size + ds.length ≤ cur.size := by
          rw [hsize, h3, hdl, ← Nat.add_mul]; exact Nat.mul_le_mul_right k hroom
        have hr := run_append_room (P := P) w t ty e i ht hi b n cap cur hh ad m cap2 _ hl hnews h1c hroom hfit
        refine ⟨b, _, cap, _, hr, ⟨hlen, .inr ⟨rfl, by omega, h2, _, setRow_heap w b cur _ e _ hh, ?_, ?_⟩⟩, ⟨rfl, rfl, rfl, by simp, fun k' _ hk => setRow_other w b k' _ (fun e => hk ⟨by simp, e⟩)⟩, .inl ⟨rfl, .inr (by simp)⟩, by simp⟩
        · simp only [List.size_toArray, List.length_append, List.length_take, List.length_drop, Array.length_toList, hsize, h3, hdl]
          have : (n + m) * k ≤ cap * k := Nat.mul_le_mul_right k hroom
          rw [Nat.add_mul] at this
          omega
        · rw [hsize, h4]
          show List.take _ ((cs ++ ds) ++ _) = _
          rw [List.take_append_of_le_length (by omega), List.take_of_length_le (by omega)]
      · have own' : OwnC e k w b (some ⟨b, 0, none⟩) cap n cs := own
        have holds := own'.src.2.2 _ rfl
        have hr := run_append_grow (P := P) w t ty e i _ ht hi hz ⟨b, 0, none⟩ n cap cs (by rw [hsize]; exact hcl) holds ad m cap2 _ hl hnews (by omega) (by omega) (growslice_fits (by omega) (by rw [hby]; omega))
        exact ⟨w.heap.size, _, _, _, hr, made cap (by omega), kn _, .inr (Nat.le_refl _), by simp⟩
theorem wp_append_cells {P : Program} {w : World} {o : Oper} {a : Act} {K : Act → World → Prop} {Q : Exit → Act → World → Prop} (s x : Operand) (t : TypeId)
    (ho : o.op = .call { callee := .builtin .append, args := #[s, x], argTypes := #[t, t] })
    (e : TypeId) (k : Nat) (i : TypeInfo) (z : Value) (by_ : Nat) (ht : P.underlying t = some (.slice e)) (hi : P.info? e = some i) (hz : i.zero = some z) (hsize : i.size = k) (hby : i.bytes = by_) (hzs : z.cells.size = k)
    (b : Nat) (ao : Option Addr) (cap n : Nat) (cs : List Value) (hs : a.eval s = .slice ao n cap) (own : OwnC e k w b ao cap n cs)
    (a2 : Option Addr) (cap2 m : Nat) (ds : List Value) (hx : a.eval x = .slice a2 m cap2) (hsh : SrcC k w a2 cap2 m ds) (h1c : ∀ u ∈ ds, u.oneCell' = true) (hle : (n + m) * by_ ≤ 70368744177664) (hle2 : n + m ≤ 70368744177664)
    (h : ∀ b' a' cap' w', OwnC e k w' b' a' cap' (n + m) (cs ++ ds) → Kept (Of ao b) w w' → ((b' = b ∧ (a' = none ∨ ao ≠ none)) ∨ w.heap.size ≤ b') → (a' = none ↔ ao = none ∧ m = 0) → K (a.put o.dst (.slice a' (n + m) cap')) w') : o.wp P a w K Q := by
  obtain ⟨b', a', cap', w', hr, h2, h3, h4, h5⟩ := run_append_cells (P := P) w t o.type e k i z by_ ht hi hz hsize hby hzs b ao cap n cs own a2 cap2 m ds hsh h1c hle hle2
  unfold Oper.wp execOp
  simp only [ho, resolve, invoke, builtin, Sem.run_bind, Sem.run_pure, Result.andThen_ok, List.map_toArray, List.map_cons, List.map_nil, hs, hx, hr]
  exact h b' a' cap' w' h2 h3 h4 h5
theorem wpList_append_cells {P : Program} {w : World} {ops : Array Oper} {rest : List Oper} {o : Oper} {a : Act} {Q : Exit → Act → World → Prop} (hgd : o.guard = none) (s x : Operand) (t : TypeId)
    (ho : o.op = .call { callee := .builtin .append, args := #[s, x], argTypes := #[t, t] })
    (e : TypeId) (k : Nat) (i : TypeInfo) (z : Value) (by_ : Nat) (ht : P.underlying t = some (.slice e)) (hi : P.info? e = some i) (hz : i.zero = some z) (hsize : i.size = k) (hby : i.bytes = by_) (hzs : z.cells.size = k)
    (b : Nat) (ao : Option Addr) (cap n : Nat) (cs : List Value) (hs : a.eval s = .slice ao n cap) (own : OwnC e k w b ao cap n cs)
    (a2 : Option Addr) (cap2 m : Nat) (ds : List Value) (hx : a.eval x = .slice a2 m cap2) (hsh : SrcC k w a2 cap2 m ds) (h1c : ∀ u ∈ ds, u.oneCell' = true) (hle : (n + m) * by_ ≤ 70368744177664) (hle2 : n + m ≤ 70368744177664)
    (h : ∀ b' a' cap' w', OwnC e k w' b' a' cap' (n + m) (cs ++ ds) → Kept (Of ao b) w w' → ((b' = b ∧ (a' = none ∨ ao ≠ none)) ∨ w.heap.size ≤ b') → (a' = none ↔ ao = none ∧ m = 0) → wpList P ops Q rest (a.put o.dst (.slice a' (n + m) cap')) w') : wpList P ops Q (o :: rest) a w :=
  wpList_plain hgd fun _ hK => wp_append_cells s x t ho e k i z by_ ht hi hz hsize hby hzs b ao cap n cs hs own a2 cap2 m ds hx hsh h1c hle hle2 fun b' a' cap' w' h2 h3 h4 h5 => hK _ _ (h b' a' cap' w' h2 h3 h4 h5)
end Go.Proofs.Ytakaflbfhpalhaa.Mem
