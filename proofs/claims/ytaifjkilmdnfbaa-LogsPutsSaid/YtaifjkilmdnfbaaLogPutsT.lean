/- LogsPuts, in the form that its card wants. -/
import Derived.Test.YtaifjkilmdnfbaaLogPutsL
namespace Go.Proofs.Ytaifjkilmdnfbaa.Lg
open Go Go.RowKit
theorem LogsPuts_card (x : H × Hp) (i : Int) (a : Option Addr) (len cap : Nat) (w : World) (hx : HardAt w x.1 x.2) (_ : (Lit.int .i64 i).wf = true) (hl : EntsIn w a len cap) :
    Calls Try.prog 5 #[x.1.val x.2, .int .i64 i, .slice a len cap] w fun e w' => e = .returned (.bool true) ∧ Below w.heap.size w w' := LogsPuts_told x i a len cap w hx hl
end Go.Proofs.Ytaifjkilmdnfbaa.Lg
