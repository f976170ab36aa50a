/- WireCuts, in the form that its card wants. -/
import Derived.Test.YtjdebdfbjcpjgaaWireCutsL
namespace Go.Proofs.Ytjdebdfbjcpjgaa.Wr
open Go Go.RowKit Lg
theorem WireCuts_told (y : H × Hp) (x : Mr) (AT MO : Int) (w : World) (hy : HardAt w y.1 y.2 ∧ RH y.1) (hx : MsgD w 2 x) (_ : (Lit.int .i64 AT).wf = true) (hm : (Lit.int .u8 MO).wf = true) :
    Calls Try.prog 7 #[y.1.val y.2, x.val, .int .i64 AT, .int .u8 MO] w fun e w' => e = .returned (.bool true) ∧ Below w.heap.size w w' := by
  obtain ⟨L, h1, h2, h3⟩ := hx.open_
  have hm : IntKind.u8.min ≤ MO ∧ MO ≤ IntKind.u8.max := by simpa [Lit.wf] using hm
  have h4 : 0 ≤ MO ∧ MO ≤ 255 := hm
  obtain ⟨m, rfl⟩ : ∃ m : Nat, MO = (m : Int) := ⟨MO.toNat, by omega⟩
  exact WireCuts_law y.1 y.2 x L AT m w hy.1 hy.2 h1 h2 h3 (by omega)
end Go.Proofs.Ytjdebdfbjcpjgaa.Wr
