/- WireBack, in the form that its card wants. -/
import Derived.Test.YtjdebdfbjcpjgaaWireBackL
namespace Go.Proofs.Ytjdebdfbjcpjgaa.Wr
open Go Go.RowKit Lg
theorem WireBack_told (e0 : E) (y : H × Hp) (x : Mr) (w : World) (he : RE e0) (hy : HardAt w y.1 y.2 ∧ RH y.1) (hx : MsgD w 2 x) :
    Calls Try.prog 5 #[e0.agg, y.1.val y.2, x.val] w fun e w' => e = .returned (.bool true) ∧ Below w.heap.size w w' := by
  obtain ⟨L, h1, h2, h3⟩ := hx.open_
  exact WireBack_law e0 y.1 y.2 x L w he hy.1 hy.2 h1 h2 h3
end Go.Proofs.Ytjdebdfbjcpjgaa.Wr
