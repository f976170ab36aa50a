/- Worlds behind a world, blocks, results: for any program, no program's function. -/
import Derived.Test.YtaifjkilmdnfbaaProg
import Derived.Below
import Derived.WalkKit
import Derived.Laws.ResultCell
import Derived.Deep.Quiet
import Derived.Deep.QuietTactic
import Derived.StillTailTactics
import Derived.BigGuardPart
import Derived.Lib.Hide
import Derived.BigQuiet
import Derived.LoopTactic
namespace Go.Proofs.Ytaifjkilmdnfbaa.Bh
open Go Go.RowKit

theorem ret_int {k : IntKind} {a b : Int} (h : a = b) : Ending.returned (.int k a) = .returned (.int k b) := by rw [h]
theorem ret_bool {a b : Bool} (h : a = b) : Ending.returned (.bool a) = .returned (.bool b) := by rw [h]
theorem ret_str {a b : ByteArray} (h : a = b) : Ending.returned (.string a) = .returned (.string b) := by rw [h]
theorem ret_val {a b : Value} (h : a = b) : Ending.returned a = .returned b := by rw [h]
theorem below_alloc (w : World) (o : Obj) : Below w.heap.size w (w.alloc o) := (Below.refl _ _).alloc (Nat.le_refl _) _
theorem below_alloc2 (w : World) (o p : Obj) : Below w.heap.size w ((w.alloc o).alloc p) := (below_alloc w o).alloc (below_alloc w o).size _
theorem below_drewN {B : Nat} {a w : World} (h : Below B a w) (n : Nat) : Below B a (w.drewN n) := ⟨h.os, h.tape, h.output, h.size, h.block⟩
theorem blw {w w1 w2 : World} (h : Below w.heap.size w w1) (k : Below w1.heap.size w1 w2) : Below w.heap.size w w2 := h.trans (k.mono h.size)
theorem heap_lt {w : World} {n : Nat} {v : Obj} (h : w.heap[n]? = some v) : n < w.heap.size := (Array.getElem?_eq_some_iff.1 h).1
theorem box_on {w w' : World} {n : Nat} {v : Obj} (h : w.heap[n]? = some v) (hb : Below w.heap.size w w') : w'.heap[n]? = some v := (hb.block n (heap_lt h)).trans h
theorem size_alloc (w : World) (o : Obj) : (w.alloc o).heap.size = w.heap.size + 1 := by simp
theorem alloc_here {w : World} {n : Nat} (o : Obj) (h : n = w.heap.size) : (w.alloc o).heap[n]? = some o := by
  subst h
  show (w.heap.push o)[w.heap.size]? = some o
  simp
theorem alloc_old {w : World} {n : Nat} {v : Obj} (o : Obj) (h : w.heap[n]? = some v) : (w.alloc o).heap[n]? = some v := box_on h (below_alloc w o)
theorem quiet_move2 {P : Program} {C : World → Prop} {a : Go.Act} {o : Oper} {K : Go.Act → Prop} {v : Value} (x : Operand) (h : o.op = .move x) (hv : a.eval x = v) (hk : K (a.put o.dst v)) : o.quiet P a C K :=
  BigFrame.quiet_move x h (hv ▸ hk)
/-- the worlds behind a world, which leave alone what there was -/
def Beh (w0 w : World) : Prop := Below w0.heap.size w0 w
theorem Beh.start (w : World) : Beh w w := Below.refl _ _
theorem Beh.on {w0 w w' : World} (h : Beh w0 w) (hb : Below w.heap.size w w') : Beh w0 w' := blw h hb
theorem Beh.alloc {w0 w : World} (h : Beh w0 w) (o : Obj) : Beh w0 (w.alloc o) := h.on (below_alloc _ _)
theorem Beh.drew {w0 w : World} (h : Beh w0 w) : Beh w0 w.drew := below_drewN h 1
theorem Beh.drewN {w0 w : World} (h : Beh w0 w) (n : Nat) : Beh w0 (w.drewN n) := below_drewN h n
theorem Beh.set {w0 w : World} (h : Beh w0 w) {b : Nat} (hb : w0.heap.size ≤ b) (i : Nat) (v : Value) : Beh w0 (w.setCell ⟨b, i, none⟩ v) := Below.setCell h hb v
theorem Beh.below {w0 w : World} (h : Beh w0 w) : Below w0.heap.size w0 w := h
theorem Beh.size {w0 w : World} (h : Beh w0 w) : w0.heap.size ≤ w.heap.size := h.below.size
theorem Beh.trans {w0 w w' : World} (h : Beh w0 w) (k : Beh w w') : Beh w0 w' := h.on k
theorem Beh.box {w0 w : World} (h : Beh w0 w) {n : Nat} {v : Obj} (hv : w0.heap[n]? = some v) : w.heap[n]? = some v := box_on hv h
theorem results_cell_one {fn : Func} {p : Tmp} {ty : TypeId} (h : fn.results = #[.cell p ty]) (tmps : Array Value) (P : Program) (w : World) :
    (results fn tmps).run P w = ((asAddr (tmps.getD p undef)).run P w).andThen fun a w₁ => (loadVar ty a).run P w₁ := by
  simp only [results, h]
  simp [Sem.run_bind, Result.andThen]
theorem cells4 {w : World} {b : Nat} {x0 x1 x2 x3 : Value} {t : TypeId} (h : w.heap[b]? = some (.cells #[x0, x1, x2, x3] t)) :
    w.cell? ⟨b, 0, none⟩ = some x0 ∧ w.cell? ⟨b, 1, none⟩ = some x1 ∧ w.cell? ⟨b, 2, none⟩ = some x2 ∧ w.cell? ⟨b, 3, none⟩ = some x3 := by
  refine ⟨?_, ?_, ?_, ?_⟩ <;> simp [World.cell?, h]
theorem cells1 {w : World} {b : Nat} {x0 : Value} {t : TypeId} (h : w.heap[b]? = some (.cells #[x0] t)) : w.cell? ⟨b, 0, none⟩ = some x0 := by simp [World.cell?, h]
theorem frozen_of {w : World} {b : Nat} {cs : Array Value} {t : TypeId} (h : w.heap[b]? = some (.cells cs t)) (j : Nat) : w.frozen? ⟨b, j, none⟩ = false := by simp [World.frozen?, h]
theorem heap_set {w : World} {b i : Nat} {cs : Array Value} {t : TypeId} (v : Value) (h : w.heap[b]? = some (.cells cs t)) : (w.setCell ⟨b, i, none⟩ v).heap[b]? = some (.cells (cs.setIfInBounds i v) t) := by
  simp [World.setCell, Array.getElem?_modify, h]
/-- two blocks of a call's own, the first two that it lays -/
structure Two (w : World) (p q : Obj) (w' : World) : Prop where
  beh : Beh w w'
  a : w'.heap[w.heap.size]? = some p
  b : w'.heap[w.heap.size + 1]? = some q
theorem Two.start (w : World) (p q : Obj) : Two w p q ((w.alloc p).alloc q) :=
  ⟨below_alloc2 w p q, alloc_old q (alloc_here p rfl), alloc_here q (by simp)⟩
theorem Two.on {w w' w'' : World} {p q : Obj} (h : Two w p q w') (hb : Below w'.heap.size w' w'') : Two w p q w'' := ⟨h.beh.on hb, box_on h.a hb, box_on h.b hb⟩
theorem Two.alloc {w w' : World} {p q : Obj} (h : Two w p q w') (o : Obj) : Two w p q (w'.alloc o) := h.on (below_alloc _ _)
theorem Two.drewN {w w' : World} {p q : Obj} (h : Two w p q w') (n : Nat) : Two w p q (w'.drewN n) := ⟨h.beh.drewN n, h.a, h.b⟩
/-- a block of four cells, all four stored -/
def set4 (w : World) (b : Nat) (x0 x1 x2 x3 : Value) : World := (((w.setCell ⟨b, 0, none⟩ x0).setCell ⟨b, 1, none⟩ x1).setCell ⟨b, 2, none⟩ x2).setCell ⟨b, 3, none⟩ x3
theorem set4_heap {w : World} {b : Nat} {a0 a1 a2 a3 x0 x1 x2 x3 : Value} {t : TypeId} (h : w.heap[b]? = some (.cells #[a0, a1, a2, a3] t)) : (set4 w b x0 x1 x2 x3).heap[b]? = some (.cells #[x0, x1, x2, x3] t) := by
  have h1 := heap_set (i := 0) x0 h
  have h2 := heap_set (i := 1) x1 h1
  have h3 := heap_set (i := 2) x2 h2
  exact heap_set (i := 3) x3 h3
theorem set4_other {w : World} {b n : Nat} {x0 x1 x2 x3 : Value} (h : n ≠ b) : (set4 w b x0 x1 x2 x3).heap[n]? = w.heap[n]? := by
  unfold set4
  rw [Below.heap_setCell _ _ _ _ h, Below.heap_setCell _ _ _ _ h, Below.heap_setCell _ _ _ _ h, Below.heap_setCell _ _ _ _ h]
theorem Beh.set4 {w0 w : World} (h : Beh w0 w) {b : Nat} (hb : w0.heap.size ≤ b) (x0 x1 x2 x3 : Value) : Beh w0 (Bh.set4 w b x0 x1 x2 x3) := (((h.set hb 0 x0).set hb 1 x1).set hb 2 x2).set hb 3 x3
theorem Two.set {w w' : World} {p : Obj} {a0 a1 a2 a3 : Value} {t : TypeId} (h : Two w p (.cells #[a0, a1, a2, a3] t) w') (x0 x1 x2 x3 : Value) : Two w p (.cells #[x0, x1, x2, x3] t) (set4 w' (w.heap.size + 1) x0 x1 x2 x3) :=
  ⟨h.beh.set4 (by omega) _ _ _ _, (set4_other (by omega)).trans h.a, set4_heap h.b⟩
theorem set4_eq (w : World) (b : Nat) (x0 x1 x2 x3 : Value) : (((w.setCell ⟨b, 0, none⟩ x0).setCell ⟨b, 1, none⟩ x1).setCell ⟨b, 2, none⟩ x2).setCell ⟨b, 3, none⟩ x3 = set4 w b x0 x1 x2 x3 := rfl
end Go.Proofs.Ytaifjkilmdnfbaa.Bh
