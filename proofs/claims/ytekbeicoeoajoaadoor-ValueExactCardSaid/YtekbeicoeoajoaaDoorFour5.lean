/- Two values that a law lays, and two that it was told, each in a block of its own, kept through its calls. -/
import Derived.Test.YtekbeicoeoajoaaDoorTwo5
import Derived.Test.YtekbeicoeoajoaaDoorOwnM
namespace Go.Proofs.YtekbeicoeoajoaaDoor.Vl
open Go Go.RowKit Go.Proofs.YtekbeicoeoajoaaDoor.Nm

/-- a call that answers a value and an error -/
def Gives (f : Nat) (a b x : V) (xe : Int) : Prop := ∀ W : World, Calls Tryd.prog f #[a.val, b.val] W fun e w' => e = .returned (.tuple #[x.val, .int .i64 xe]) ∧ Below W.heap.size W w'
/-- the two values of the law, and what it was told of them, each in its block -/
structure Four (w : World) (A B : Obj) (X : Nat) (XB : Obj) (Y : Nat) (YB : Obj) (w' : World) : Prop where
  two : Two w A B w'
  x : w'.heap[X]? = some XB
  y : w'.heap[Y]? = some YB
  lx : w.heap.size + 1 < X
  ly : X < Y
theorem Four.on {w w1 w2 : World} {A B XB YB : Obj} {X Y : Nat} (h : Four w A B X XB Y YB w1) (k : Below w1.heap.size w1 w2) : Four w A B X XB Y YB w2 := ⟨h.two.on k, box_on h.x k, box_on h.y k, h.lx, h.ly⟩
theorem heap3 {w : World} {n : Nat} {a b c : Value} {t : TypeId} (h : w.heap[n]? = some (.cells #[a, b, c] t)) (p q r : Value) :
    (((w.setCell ⟨n, 0, none⟩ p).setCell ⟨n, 1, none⟩ q).setCell ⟨n, 2, none⟩ r).heap[n]? = some (.cells #[p, q, r] t) := Kp.heap_set (Kp.heap_set (Kp.heap_set h 0 p) 1 q) 2 r
theorem heap3_other {w : World} {n m : Nat} {o : Obj} (h : w.heap[n]? = some o) (hn : m ≠ n) (p q r : Value) :
    (((w.setCell ⟨m, 0, none⟩ p).setCell ⟨m, 1, none⟩ q).setCell ⟨m, 2, none⟩ r).heap[n]? = some o := Kp.heap_set_other (Kp.heap_set_other (Kp.heap_set_other h hn p) hn q) hn r
theorem below3set {w w1 : World} {m : Nat} (h : Below w.heap.size w w1) (hm : w.heap.size ≤ m) (p q r : Value) : Below w.heap.size w (((w1.setCell ⟨m, 0, none⟩ p).setCell ⟨m, 1, none⟩ q).setCell ⟨m, 2, none⟩ r) :=
  ((h.setCell hm _).setCell hm _).setCell hm _
theorem Four.setX {w w1 : World} {A B YB : Obj} {X Y : Nat} {a b c : Value} {t : TypeId} (h : Four w A B X (.cells #[a, b, c] t) Y YB w1) (p q r : Value) :
    Four w A B X (.cells #[p, q, r] t) Y YB (((w1.setCell ⟨X, 0, none⟩ p).setCell ⟨X, 1, none⟩ q).setCell ⟨X, 2, none⟩ r) := by
  have h1 := h.lx
  have h2 := h.ly
  exact ⟨⟨heap3_other h.two.a (by omega) p q r, heap3_other h.two.b (by omega) p q r, below3set h.two.below (by omega) p q r⟩, heap3 h.x p q r, heap3_other h.y (by omega) p q r, h1, h2⟩
theorem Four.setY {w w1 : World} {A B XB : Obj} {X Y : Nat} {a b c : Value} {t : TypeId} (h : Four w A B X XB Y (.cells #[a, b, c] t) w1) (p q r : Value) :
    Four w A B X XB Y (.cells #[p, q, r] t) (((w1.setCell ⟨Y, 0, none⟩ p).setCell ⟨Y, 1, none⟩ q).setCell ⟨Y, 2, none⟩ r) := by
  have h1 := h.lx
  have h2 := h.ly
  exact ⟨⟨heap3_other h.two.a (by omega) p q r, heap3_other h.two.b (by omega) p q r, below3set h.two.below (by omega) p q r⟩, heap3_other h.x (by omega) p q r, heap3 h.y p q r, h1, h2⟩
theorem Two.size {w w' : World} {A B : Obj} (h : Two w A B w') : w.heap.size + 1 < w'.heap.size := heap_lt h.b
end Go.Proofs.YtekbeicoeoajoaaDoor.Vl
