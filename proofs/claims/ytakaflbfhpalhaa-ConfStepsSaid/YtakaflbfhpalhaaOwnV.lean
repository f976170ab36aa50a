/- Rows of one-cell values that the call has made itself (slices of slices): appended to. For any program. -/
import Derived.Test.YtakaflbfhpalhaaOwnB
namespace Go.Proofs.Ytakaflbfhpalhaa.Mem
open Go Go.RowKit

def OwnV (e : TypeId) (w : World) (b : Nat) (a : Option Addr) (cap : Nat) (xs : List Value) : Prop :=
  (a = none ∧ cap = 0 ∧ xs = []) ∨
  (a = some ⟨b, 0, none⟩ ∧ xs.length ≤ cap ∧ cap ≤ maxLen ∧ ∃ cur : Array Value, w.heap[b]? = some (.cells cur e (0, 0)) ∧ cur.size = cap ∧ cur.toList.take xs.length = xs)
theorem OwnV.nil (e : TypeId) (w : World) (b : Nat) : OwnV e w b none 0 [] := .inl ⟨rfl, rfl, rfl⟩
theorem OwnV.kept {e : TypeId} {S : Nat → Prop} {w w' : World} {b : Nat} {a : Option Addr} {cap : Nat} {xs : List Value} (h : OwnV e w b a cap xs) (hk : Kept S w w') (hs : a ≠ none → ¬ S b) : OwnV e w' b a cap xs := by
  rcases h with h | ⟨ha, h1, h2, cur, hh, h3⟩
  · exact .inl h
  · exact .inr ⟨ha, h1, h2, cur, hk.heap hh (hs (by rw [ha]; simp)), h3⟩
theorem OwnV.heap {e : TypeId} {w w' : World} {b : Nat} {a : Option Addr} {cap : Nat} {xs : List Value} (h : OwnV e w b a cap xs) (hw : w'.heap = w.heap) : OwnV e w' b a cap xs := by
  unfold OwnV at *; rw [hw]; exact h
theorem OwnV.lt {e : TypeId} {w : World} {b : Nat} {a : Option Addr} {cap : Nat} {xs : List Value} (h : OwnV e w b a cap xs) (ha : a ≠ none) : b < w.heap.size := by
  rcases h with h | ⟨_, _, _, cur, hh, _⟩
  · exact absurd h.1 ha
  · exact lt_of_heap hh
theorem OwnV.row {e : TypeId} {w : World} {b : Nat} {a : Option Addr} {cap : Nat} {xs : List Value} (h : OwnV e w b a cap xs) : w.ownsRow 0 e 1 (.slice a xs.length cap) xs.length xs := by
  refine ⟨by simp, ?_⟩
  rcases h with ⟨rfl, rfl, rfl⟩ | ⟨rfl, h1, h2, cur, hh, h3, h4⟩
  · exact .inl ⟨rfl, rfl⟩
  · exact .inr ⟨b, cap, cur, rfl, Nat.zero_le _, hh, h1, h2, by omega, by rw [Nat.mul_one]; exact h4⟩
theorem OwnV.cellAt {e : TypeId} {w : World} {b : Nat} {a : Option Addr} {cap : Nat} {xs : List Value} (h : OwnV e w b a cap xs) (i : Nat) (hi : i < xs.length) : a = some ⟨b, 0, none⟩ ∧ w.cell? ⟨b, i, none⟩ = some (xs.getD i undef) := by
  have hc := h
  rcases h with ⟨_, _, rfl⟩ | ⟨rfl, _⟩
  · simp at hi
  · refine ⟨rfl, ?_⟩
    rw [hc.row.cellAt i (by omega)]
    simp [hi]
theorem ownV_new {e : TypeId} {w : World} {cur : Array Value} {xs : List Value} {cap : Nat} (h1 : xs.length ≤ cap) (h2 : cap ≤ maxLen) (h3 : cur.size = cap) (h4 : cur.toList.take xs.length = xs) :
    OwnV e (w.alloc (.cells cur e)) w.heap.size (some ⟨w.heap.size, 0, none⟩) cap xs := .inr ⟨rfl, h1, h2, cur, heap_alloc_new w _, h3, h4⟩
/-- append of one value -/
theorem run_append_val {P : Program} (w : World) (t ty e : TypeId) (i : TypeInfo) (z : Value) (by_ : Nat) (ht : P.underlying t = some (.slice e)) (hi : P.info? e = some i) (hz : i.zero = some z) (hsize : i.size = 1) (hby : i.bytes = by_) (hzs : z.cells.size = 1)
    (b : Nat) (a : Option Addr) (cap : Nat) (xs : List Value) (own : OwnV e w b a cap xs) (ad : Addr) (c : Nat) (u : Value) (hu : w.cell? ad = some u) (hu1 : u.oneCell' = true) (hspot : ad.spot = none) (hle : (xs.length + 1) * by_ ≤ 70368744177664) (hle2 : xs.length ≤ 70368744177664) :
    ∃ b' a' cap' w', (Builtin.append_ #[t, t] ty #[.slice a xs.length cap, .slice (some ad) 1 c]).run P w = .ok (.slice a' (xs.length + 1) cap') w' ∧
      OwnV e w' b' a' cap' (xs ++ [u]) ∧ Kept (Of a b) w w' ∧ ((b' = b ∧ a ≠ none) ∨ w.heap.size ≤ b') := by
  have hmx : xs.length + 1 ≤ maxLen := by unfold maxLen; omega
  have hnews : ∀ j v, ([u] : List Value)[j]? = some v → w.cell? (ad.add j) = some v := by
    intro j v hv
    cases j with
    | zero =>
      simp at hv; subst hv
      obtain ⟨bb, off, spot⟩ := ad
      simp at hspot; subst hspot
      simpa [Addr.add] using hu
    | succ j => simp at hv
  have h1c : ∀ v ∈ [u], v.oneCell' = true := by intro v hv; simp at hv; subst hv; exact hu1
  have hl : ([u] : List Value).length = 1 * i.size := by rw [hsize]; rfl
  have made : ∀ old, old < xs.length + 1 →
      OwnV e (w.drew.alloc (.cells (xs.toArray ++ [u].toArray ++ Builtin.zeroCells z.cells (grownCap w (xs.length + 1) old e - (xs.length + 1))) e)) w.heap.size (some ⟨w.heap.size, 0, none⟩) (grownCap w (xs.length + 1) old e) (xs ++ [u]) := by
    intro old ho
    have hge := grownCap_ge w (xs.length + 1) old e
    have hcm : grownCap w (xs.length + 1) old e ≤ maxLen := grownCap_le_maxLen w _ old e hmx
    refine ownV_new (w := w.drew) (by simp; omega) hcm ?_ ?_
    · simp only [Array.size_append, List.size_toArray, size_zeroCells, hzs, Nat.mul_one, List.length_singleton]
      omega
    · simp only [Array.toList_append]
      rw [List.take_append_of_le_length (by simp)]
      exact List.take_of_length_le (by simp)
  have kn : ∀ o, Kept (Of a b) w (w.drew.alloc o) := fun o => (Kept.refl _ _).drew.alloc o
  rcases own with ⟨rfl, rfl, rfl⟩ | ⟨rfl, h1, h2, cur, hh, h3, h4⟩
  · have hr := run_append_nil (P := P) w t ty e i _ ht hi hz ad 1 c _ hl hnews (by omega) (by omega) (by rw [hby]; simp at hle; omega)
    have hm2 := made 0 (by simp)
    simp only [List.length_nil, Nat.zero_add, List.nil_append] at hm2 ⊢
    refine ⟨w.heap.size, _, _, _, hr, ?_, kn _, .inr (Nat.le_refl _)⟩
    simpa using hm2
  · by_cases hroom : xs.length + 1 ≤ cap
    · have hfit : xs.length * i.size + ([u] : List Value).length ≤ cur.size := by rw [hsize, h3]; simp; omega
      have hr := run_append_room (P := P) w t ty e i ht hi b xs.length cap cur hh ad 1 c _ hl hnews h1c hroom hfit
      refine ⟨b, _, cap, _, hr, .inr ⟨rfl, by simp; omega, h2, _, setRow_heap w b cur _ e _ hh, ?_, ?_⟩, ⟨rfl, rfl, rfl, by simp, fun k _ hk => setRow_other w b k _ (fun e => hk ⟨by simp, e⟩)⟩, .inl ⟨rfl, by simp⟩⟩
      · simp only [List.size_toArray, List.length_append, List.length_take, List.length_drop, Array.length_toList, hsize, List.length_singleton]
        omega
      · rw [hsize, Nat.mul_one, h4]
        show List.take _ ((xs ++ [u]) ++ _) = _
        rw [List.take_append_of_le_length (by simp)]
        exact List.take_of_length_le (by simp)
    · have own' : OwnV e w b (some ⟨b, 0, none⟩) cap xs := .inr ⟨rfl, h1, h2, cur, hh, h3, h4⟩
      have holds : ∀ j v, xs[j]? = some v → w.cell? ((⟨b, 0, none⟩ : Addr).add j) = some v := own'.row.cells (g := b) rfl
      have hr := run_append_grow (P := P) w t ty e i _ ht hi hz ⟨b, 0, none⟩ xs.length cap xs (by rw [hsize]; simp) holds ad 1 c _ hl hnews (by omega) (by omega) (growslice_fits (by omega) (by rw [hby]; omega))
      exact ⟨w.heap.size, _, _, _, hr, made cap (by omega), kn _, .inr (Nat.le_refl _)⟩
theorem wpList_append_val {P : Program} {w : World} {ops : Array Oper} {rest : List Oper} {o : Oper} {a : Act} {Q : Exit → Act → World → Prop} (hgd : o.guard = none) (s x : Operand) (t : TypeId)
    (ho : o.op = .call { callee := .builtin .append, args := #[s, x], argTypes := #[t, t] })
    (e : TypeId) (i : TypeInfo) (z : Value) (by_ : Nat) (ht : P.underlying t = some (.slice e)) (hi : P.info? e = some i) (hz : i.zero = some z) (hsize : i.size = 1) (hby : i.bytes = by_) (hzs : z.cells.size = 1)
    (b : Nat) (ao : Option Addr) (cap : Nat) (xs : List Value) (n : Nat) (hs : a.eval s = .slice ao n cap) (own : OwnV e w b ao cap xs) (hn : xs.length = n)
    (ad : Addr) (c : Nat) (u : Value) (hx : a.eval x = .slice (some ad) 1 c) (hu : w.cell? ad = some u) (hu1 : u.oneCell' = true) (hspot : ad.spot = none) (hle : (n + 1) * by_ ≤ 70368744177664) (hle2 : n ≤ 70368744177664)
    (h : ∀ b' a' cap' w', OwnV e w' b' a' cap' (xs ++ [u]) → Kept (Of ao b) w w' → ((b' = b ∧ ao ≠ none) ∨ w.heap.size ≤ b') → wpList P ops Q rest (a.put o.dst (.slice a' (n + 1) cap')) w') : wpList P ops Q (o :: rest) a w := by
  subst hn
  refine wpList_plain hgd fun K hK => ?_
  obtain ⟨b', a', cap', w', hr, h2, h3, h4⟩ := run_append_val (P := P) w t o.type e i z by_ ht hi hz hsize hby hzs b ao cap xs own ad c u hu hu1 hspot hle hle2
  unfold Oper.wp execOp
  simp only [ho, resolve, invoke, builtin, Sem.run_bind, Sem.run_pure, Result.andThen_ok, List.map_toArray, List.map_cons, List.map_nil, hs, hx, hr]
  exact hK _ _ (h b' a' cap' w' h2 h3 h4)
end Go.Proofs.Ytakaflbfhpalhaa.Mem
