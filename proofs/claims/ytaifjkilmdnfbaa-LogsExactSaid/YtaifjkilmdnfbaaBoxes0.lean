import Derived.Test.YtaifjkilmdnfbaaMergeLgV
/- Blocks of a call's own, behind a call that leaves alone what there was. No program. -/
namespace Go.Proofs.Ytaifjkilmdnfbaa.Vl
open Go Go.RowKit Go.Proofs.Ytaifjkilmdnfbaa.Nm
theorem heap_lt {w : World} {n : Nat} {v : Obj} (h : w.heap[n]? = some v) : n < w.heap.size := by
  rcases Nat.lt_or_ge n w.heap.size with h' | h'
  · exact h'
  · rw [Array.getElem?_eq_none h'] at h; cases h
theorem box_on {w w' : World} {n : Nat} {v : Obj} (h : w.heap[n]? = some v) (hb : Below w.heap.size w w') : w'.heap[n]? = some v := (hb.block n (heap_lt h)).trans h
theorem old_alloc {w : World} {n : Nat} {v : Obj} (o : Obj) (h : w.heap[n]? = some v) : (w.alloc o).heap[n]? = some v := box_on h (below_alloc w o)
theorem size_alloc (w : World) (o : Obj) : (w.alloc o).heap.size = w.heap.size + 1 := by simp
/-- behind a call: one, two, three blocks that were laid ahead of it -/
theorem one_on {w w' : World} {a : Obj} (hb : Below (w.alloc a).heap.size (w.alloc a) w') :
    w'.heap[w.heap.size]? = some a ∧ Below w.heap.size w w' ∧ w.heap.size + 1 ≤ w'.heap.size :=
  ⟨box_on (alloc_here a rfl) hb, (below_alloc w a).trans (hb.mono (below_alloc w a).size), by have := hb.size; rwa [size_alloc] at this⟩
theorem two_on {w w' : World} {a b : Obj} (hb : Below ((w.alloc a).alloc b).heap.size ((w.alloc a).alloc b) w') :
    w'.heap[w.heap.size]? = some a ∧ w'.heap[w.heap.size + 1]? = some b ∧ Below w.heap.size w w' ∧ w.heap.size + 2 ≤ w'.heap.size := by
  obtain ⟨h1, h2, h3⟩ := one_on hb
  rw [size_alloc] at h1 h3
  exact ⟨box_on (old_alloc b (alloc_here a rfl)) hb, h1, (below_alloc w a).trans (h2.mono (below_alloc w a).size), h3⟩
theorem three_on {w w' : World} {a b c : Obj} (hb : Below (((w.alloc a).alloc b).alloc c).heap.size (((w.alloc a).alloc b).alloc c) w') :
    w'.heap[w.heap.size]? = some a ∧ w'.heap[w.heap.size + 1]? = some b ∧ w'.heap[w.heap.size + 1 + 1]? = some c ∧ Below w.heap.size w w' ∧ w.heap.size + 3 ≤ w'.heap.size := by
  obtain ⟨h1, h2, h3⟩ := one_on hb
  rw [size_alloc, size_alloc] at h1 h3
  exact ⟨box_on (old_alloc c (old_alloc b (alloc_here a rfl))) hb, box_on (old_alloc c (by rw [← size_alloc w a]; exact alloc_here b rfl)) hb, h1, (below_alloc2 w a b).trans (h2.mono (below_alloc2 w a b).size), h3⟩
theorem below_on {w w1 w2 : World} {n : Nat} (h : Below n w w1) (hn : n ≤ w1.heap.size) (hb : Below w1.heap.size w1 w2) : Below n w w2 := h.trans (hb.mono hn)
/-- the cells of a block, once another block is laid -/
theorem cells3_on {w : World} {b : Nat} {x y z : Value} {t : TypeId} (h : w.heap[b]? = some (.cells #[x, y, z] t)) :
    (∀ o, (w.alloc o).cell? ⟨b, 0, none⟩ = some x) ∧ (∀ o, (w.alloc o).cell? ⟨b, 1, none⟩ = some y) ∧ (∀ o, (w.alloc o).cell? ⟨b, 2, none⟩ = some z) ∧
    (∀ o, (w.alloc o).frozen? ⟨b, 0, none⟩ = false) ∧ (∀ o, (w.alloc o).frozen? ⟨b, 1, none⟩ = false) ∧ (∀ o, (w.alloc o).frozen? ⟨b, 2, none⟩ = false) :=
  ⟨fun o => (cells3 (old_alloc o h)).1, fun o => (cells3 (old_alloc o h)).2.1, fun o => (cells3 (old_alloc o h)).2.2.1, fun o => (cells3 (old_alloc o h)).2.2.2.1, fun o => (cells3 (old_alloc o h)).2.2.2.2.1, fun o => (cells3 (old_alloc o h)).2.2.2.2.2⟩
theorem blw {w w1 w2 : World} (h : Below w.heap.size w w1) (k : Below w1.heap.size w1 w2) : Below w.heap.size w w2 := h.trans (k.mono h.size)
end Go.Proofs.Ytaifjkilmdnfbaa.Vl
