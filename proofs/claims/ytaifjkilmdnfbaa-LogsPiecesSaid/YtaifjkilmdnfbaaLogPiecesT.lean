/- LogsPieces, in the form that its card wants. -/
import Derived.Test.YtaifjkilmdnfbaaLogPiecesL
namespace Go.Proofs.Ytaifjkilmdnfbaa.Lg
open Go Go.RowKit
theorem LogsPieces_card (x : H × Hp) (i n m : Int) (w : World) (hx : HardAt w x.1 x.2) (_ : (Lit.int .i64 i).wf = true) (_ : (Lit.int .i64 n).wf = true) (_ : (Lit.int .i64 m).wf = true) :
    Calls Try.prog 10 #[x.1.val x.2, .int .i64 i, .int .i64 n, .int .i64 m] w fun e w' => e = .returned (.bool true) ∧ Below w.heap.size w w' := LogsPieces_law x.1 x.2 i n m w hx
end Go.Proofs.Ytaifjkilmdnfbaa.Lg
