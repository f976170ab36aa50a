/- Worlds behind a world; a drawn region's moves; a result in one cell. -/
import Derived.Test.YtaifjkilmdnfbaaPairs0
import Derived.Laws.ResultCell
import Derived.Deep.Quiet
import Derived.Deep.QuietTactic
import Derived.BigQuiet
namespace Go.Proofs.Ytaifjkilmdnfbaa.Kv
open Go Go.RowKit Vl Nm Mem
theorem quiet_move2 {P : Program} {C : World → Prop} {a : Go.Act} {o : Oper} {K : Go.Act → Prop} {v : Value} (x : Operand) (h : o.op = .move x) (hv : a.eval x = v) (hk : K (a.put o.dst v)) : o.quiet P a C K :=
  BigFrame.quiet_move x h (hv ▸ hk)
/-- the worlds behind a world, which leave alone what there was -/
def Beh (w0 w : World) : Prop := Below w0.heap.size w0 w
theorem Beh.start (w : World) : Beh w w := Below.refl _ _
theorem Beh.on {w0 w w' : World} (h : Beh w0 w) (hb : Below w.heap.size w w') : Beh w0 w' := blw h hb
theorem Beh.alloc {w0 w : World} (h : Beh w0 w) (o : Obj) : Beh w0 (w.alloc o) := h.on (below_alloc _ _)
theorem Beh.drew {w0 w : World} (h : Beh w0 w) : Beh w0 w.drew := below_drewN h 1
theorem Beh.drewN {w0 w : World} (h : Beh w0 w) (n : Nat) : Beh w0 (w.drewN n) := below_drewN h n
theorem Beh.set {w0 w : World} (h : Beh w0 w) {b : Nat} (hb : w0.heap.size ≤ b) (i : Nat) (v : Value) : Beh w0 (w.setCell ⟨b, i, none⟩ v) := Below.setCell h hb v
theorem Beh.below {w0 w : World} (h : Beh w0 w) : Below w0.heap.size w0 w := h
theorem Beh.size {w0 w : World} (h : Beh w0 w) : w0.heap.size ≤ w.heap.size := h.below.size
theorem Beh.trans {w0 w w' : World} (h : Beh w0 w) (k : Beh w w') : Beh w0 w' := h.on k
theorem Beh.box {w0 w : World} (h : Beh w0 w) {n : Nat} {v : Obj} (hv : w0.heap[n]? = some v) : w.heap[n]? = some v := box_on hv h
theorem results_cell_one {fn : Func} {p : Tmp} {ty : TypeId} (h : fn.results = #[.cell p ty]) (tmps : Array Value) (P : Program) (w : World) :
    (results fn tmps).run P w = ((asAddr (tmps.getD p undef)).run P w).andThen fun a w₁ => (loadVar ty a).run P w₁ := by
  simp only [results, h]
  simp [Sem.run_bind, Result.andThen]
theorem key_test (s t : ByteArray) : (s.toList == t.toList) = decide (s = t) := text_eq s t
def Vobj (v : V) : Obj := .cells #[.int .i64 v.kind, .float .f64 v.num, .string v.text] 34
def Cm.obj (c : Cm) : Obj := .cells #[.int .i64 c.kind, .string c.key, .int .i64 c.old.kind, .float .f64 c.old.num, .string c.old.text, .int .i64 c.val.kind, .float .f64 c.val.num, .string c.val.text] 36
theorem cells8 {w : World} {b : Nat} {x0 x1 x2 x3 x4 x5 x6 x7 : Value} {t : TypeId} (h : w.heap[b]? = some (.cells #[x0, x1, x2, x3, x4, x5, x6, x7] t)) :
    w.cell? ⟨b, 0, none⟩ = some x0 ∧ w.cell? ⟨b, 1, none⟩ = some x1 ∧ w.cell? ⟨b, 2, none⟩ = some x2 ∧ w.cell? ⟨b, 3, none⟩ = some x3 ∧ w.cell? ⟨b, 4, none⟩ = some x4 ∧ w.cell? ⟨b, 5, none⟩ = some x5 ∧ w.cell? ⟨b, 6, none⟩ = some x6 ∧ w.cell? ⟨b, 7, none⟩ = some x7 := by
  refine ⟨?_, ?_, ?_, ?_, ?_, ?_, ?_, ?_⟩ <;> simp [World.cell?, h]
theorem cells4 {w : World} {b : Nat} {x0 x1 x2 x3 : Value} {t : TypeId} (h : w.heap[b]? = some (.cells #[x0, x1, x2, x3] t)) :
    w.cell? ⟨b, 0, none⟩ = some x0 ∧ w.cell? ⟨b, 1, none⟩ = some x1 ∧ w.cell? ⟨b, 2, none⟩ = some x2 ∧ w.cell? ⟨b, 3, none⟩ = some x3 := by
  refine ⟨?_, ?_, ?_, ?_⟩ <;> simp [World.cell?, h]
theorem cells1 {w : World} {b : Nat} {x0 : Value} {t : TypeId} (h : w.heap[b]? = some (.cells #[x0] t)) : w.cell? ⟨b, 0, none⟩ = some x0 := by simp [World.cell?, h]
theorem frozen_of {w : World} {b : Nat} {cs : Array Value} {t : TypeId} (h : w.heap[b]? = some (.cells cs t)) (j : Nat) : w.frozen? ⟨b, j, none⟩ = false := by simp [World.frozen?, h]
theorem int_gt {a : Nat} {n : Nat} : decide ((n : Int) < (a : Int)) = decide (n < a) := by apply decide_eq_decide.2; omega
end Go.Proofs.Ytaifjkilmdnfbaa.Kv
