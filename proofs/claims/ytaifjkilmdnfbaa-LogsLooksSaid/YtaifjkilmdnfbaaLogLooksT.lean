/- LogsLooks, in the form that its card wants. -/
import Derived.Test.YtaifjkilmdnfbaaLogLooksL
namespace Go.Proofs.Ytaifjkilmdnfbaa.Lg
open Go Go.RowKit
theorem int_hi {m : Int} (h : (Lit.int IntKind.i64 m).wf = true) : m ≤ 9223372036854775807 := by
  have h2 : IntKind.i64.min ≤ m ∧ m ≤ IntKind.i64.max := by simpa [Lit.wf] using h
  exact h2.2
theorem LogsLooks_card (x : H × Hp) (i m u t : Int) (w : World) (hx : HardAt w x.1 x.2) (_ : (Lit.int .i64 i).wf = true) (hm : (Lit.int .i64 m).wf = true) (_ : (Lit.int .i64 u).wf = true) (_ : (Lit.int .i64 t).wf = true) :
    Calls Try.prog 3 #[x.1.val x.2, .int .i64 i, .int .i64 m, .int .i64 u, .int .i64 t] w fun e w' => e = .returned (.bool true) ∧ Below w.heap.size w w' := LogsLooks_law x.1 x.2 i m u t w hx (int_hi hm)
end Go.Proofs.Ytaifjkilmdnfbaa.Lg
