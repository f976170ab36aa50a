/- LogsCompacts, in the form that its card wants. -/
import Derived.Test.YtaifjkilmdnfbaaLogCompsL
namespace Go.Proofs.Ytaifjkilmdnfbaa.Lg
open Go Go.RowKit Mem
theorem LogsCompacts_told (x : H × Hp) (i : Int) (a : Option Addr) (len cap : Nat) (k : Int) (w : World) (hx : HardAt w x.1 x.2) (_ : (Lit.int .i64 i).wf = true) (hl : Pk.BytesIn w a len cap) (_ : (Lit.int .i64 k).wf = true) :
    Calls Try.prog 6 #[x.1.val x.2, .int .i64 i, .slice a len cap, .int .i64 k] w fun e w' => e = .returned (.bool true) ∧ Below w.heap.size w w' := by
  obtain ⟨b, l, rfl, hL, _⟩ := hl
  exact LogsCompacts_law x.1 x.2 i b a cap l k w hx hL
end Go.Proofs.Ytaifjkilmdnfbaa.Lg
