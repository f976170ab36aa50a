/- WireOnly, in the form that its card wants. -/
import Derived.Test.YtjdebdfbjcpjgaaWireOnlyL
import Derived.Test.YtjdebdfbjcpjgaaOpenB
namespace Go.Proofs.Ytjdebdfbjcpjgaa.Wr
open Go Go.RowKit Mem
theorem WireOnly_told (a : Option Addr) (len cap : Nat) (w : World) (hx : Pk.BytesIn w a len cap) :
    Calls Try.prog 6 #[.slice a len cap] w fun e w' => e = .returned (.bool true) ∧ Below w.heap.size w w' := by
  obtain ⟨b, l, rfl, h, h8⟩ := hx
  exact WireOnly_law b a cap l w h h8
end Go.Proofs.Ytjdebdfbjcpjgaa.Wr
