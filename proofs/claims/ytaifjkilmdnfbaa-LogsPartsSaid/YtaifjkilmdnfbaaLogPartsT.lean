/- LogsParts, in the form that its card wants. -/
import Derived.Test.YtaifjkilmdnfbaaLogPartsL
namespace Go.Proofs.Ytaifjkilmdnfbaa.Lg
open Go Go.RowKit
theorem LogsParts_told (x : H × Hp) (i : Int) (a : Option Addr) (len cap : Nat) (at_ : Int) (w : World) (hx : HardAt w x.1 x.2) (_ : (Lit.int .i64 i).wf = true) (hl : EntsIn w a len cap) (_ : (Lit.int .i64 at_).wf = true) :
    Calls Try.prog 9 #[x.1.val x.2, .int .i64 i, .slice a len cap, .int .i64 at_] w fun e w' => e = .returned (.bool true) ∧ Below w.heap.size w w' := by
  obtain ⟨L, rfl, hL⟩ := hl
  exact LogsParts_law x.1 x.2 i a cap L at_ w hx hL
end Go.Proofs.Ytaifjkilmdnfbaa.Lg
