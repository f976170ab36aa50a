/- Two values that a law lays into blocks of its own, kept through its calls. -/
import Derived.Test.YtekbeicoeoajoaaDoorOpenV
namespace Go.Proofs.YtekbeicoeoajoaaDoor.Vl
open Go Go.RowKit Go.Proofs.YtekbeicoeoajoaaDoor.Nm
attribute [local go_sem] run_bits run_frombits run_store_float

structure Two (w : World) (A B : Obj) (w' : World) : Prop where
  a : w'.heap[w.heap.size]? = some A
  b : w'.heap[w.heap.size + 1]? = some B
  below : Below w.heap.size w w'
theorem Two.start (w : World) (A B : Obj) : Two w A B ((w.alloc A).alloc B) :=
  ⟨old_alloc B (alloc_here A rfl), by rw [← size_alloc w A]; exact alloc_here B rfl, below_alloc2 w A B⟩
theorem Two.on {w w1 w2 : World} {A B : Obj} (h : Two w A B w1) (k : Below w1.heap.size w1 w2) : Two w A B w2 := ⟨box_on h.a k, box_on h.b k, blw h.below k⟩
theorem Two.alloc {w w1 : World} {A B : Obj} (h : Two w A B w1) (o : Obj) : Two w A B (w1.alloc o) := h.on (below_alloc _ _)
theorem Two.drew {w w1 : World} {A B : Obj} (h : Two w A B w1) : Two w A B w1.drew := h.on (Below.drew (Below.refl _ _))
theorem Two.drewN {w w1 : World} {A B : Obj} (h : Two w A B w1) (n : Nat) : Two w A B (w1.drewN n) := h.on (below_drewN (Below.refl _ _) _)
end Go.Proofs.YtekbeicoeoajoaaDoor.Vl
