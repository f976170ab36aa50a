/- A configuration that is handed in. -/
import Derived.Test.YtakaflbfhpalhaaConfMath
import Derived.WideShapes
import Derived.ChangeArms
import Derived.OpenShut
import Derived.Deep.Fields
namespace Go.Proofs.Ytakaflbfhpalhaa.Cn
open Go Go.ChangeShapes Go.WideShapes Go.RowKit
theorem trod_int1 {H : Type} {enc : TypeId × Value → H} {P : Program} {w : World} {base : Nat} {spare : Nat → Bool} {held : Bool} {n : Nat} {t : TypeId} {v : Value} {x : DataW H × List MemPlace}
    (ht : P.underlying t = some (.int .i64)) (h : DataW.trod enc P w base spare held n t [v] = some x) : ∃ q, v = .int .i64 q ∧ -9223372036854775808 ≤ q ∧ q ≤ 9223372036854775807 := by
  obtain ⟨q, hq, _, hw⟩ := DataW.trod_int ht h
  have h2 : IntKind.i64.min ≤ q ∧ q ≤ IntKind.i64.max := by simpa [Lit.wf] using hw
  exact ⟨q, by simpa using hq, h2⟩
def I64 (q : Int) : Prop := -9223372036854775808 ≤ q ∧ q ≤ 9223372036854775807
/-- what is known of a configuration that came in -/
structure C.Came (c : C) : Prop where
  f : I64 c.f
  w : I64 c.w
  l : I64 c.l
  x : I64 c.x
theorem in_conf {H : Type} {enc : TypeId × Value → H} {w w0 : World} {r : Reach} {b0 base : Nat} {spare : Nat → Bool} {held : Bool} {x : Value} {d : DataW H} {ps : List MemPlace}
    (hv : Value.okWide Try.prog w0 r b0 23 x) (h : DataW.Trod enc Try.prog w base spare held 23 x d ps) : ∃ c : C, x = c.val ∧ c.Came := by
  obtain ⟨cs, rfl, hsz⟩ := okWide_struct Try.underlying23 hv
  obtain ⟨fuel, hf⟩ := h
  obtain ⟨ys, n', _, _, hlen, hyl, hat⟩ := DataW.trod_struct Try.underlying23 hf
  have hC : Try.prog.cellsOf 23 = 4 := by kernel_rfl
  have c3 : Try.prog.cellsOf 3 = 1 := by kernel_rfl
  rw [hC] at hsz
  obtain ⟨l⟩ := cs
  match l, hsz, ys, hyl with
  | [v0, v1, v2, v3], _, [y0, y1, y2, y3], _ =>
    have t0 : DataW.trod enc Try.prog w base spare held n' 3 (([v0, v1, v2, v3].drop 0).take (Try.prog.cellsOf 3)) = some y0 := hat 0 _ rfl
    have t1 : DataW.trod enc Try.prog w base spare held n' 3 (([v0, v1, v2, v3].drop 1).take (Try.prog.cellsOf 3)) = some y1 := hat 1 _ rfl
    have t2 : DataW.trod enc Try.prog w base spare held n' 3 (([v0, v1, v2, v3].drop 2).take (Try.prog.cellsOf 3)) = some y2 := hat 2 _ rfl
    have t3 : DataW.trod enc Try.prog w base spare held n' 3 (([v0, v1, v2, v3].drop 3).take (Try.prog.cellsOf 3)) = some y3 := hat 3 _ rfl
    rw [c3] at t0 t1 t2 t3
    obtain ⟨q0, rfl, b0, e0⟩ := trod_int1 Try.underlying3 (x := y0) t0
    obtain ⟨q1, rfl, b1, e1⟩ := trod_int1 Try.underlying3 (x := y1) t1
    obtain ⟨q2, rfl, b2, e2⟩ := trod_int1 Try.underlying3 (x := y2) t2
    obtain ⟨q3, rfl, b3, e3⟩ := trod_int1 Try.underlying3 (x := y3) t3
    exact ⟨⟨q0, q1, q2, q3⟩, rfl, ⟨b0, e0⟩, ⟨b1, e1⟩, ⟨b2, e2⟩, ⟨b3, e3⟩⟩
end Go.Proofs.Ytakaflbfhpalhaa.Cn
