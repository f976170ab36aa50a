/- LogsInstalls, in the form that its card wants. -/
import Derived.Test.YtaifjkilmdnfbaaLogInstsL
namespace Go.Proofs.Ytaifjkilmdnfbaa.Lg
open Go Go.RowKit Mem Cn
theorem LogsInstalls_told (x : H × Hp) (i t : Int) (c : C) (a : Option Addr) (len cap : Nat) (w : World) (hx : HardAt w x.1 x.2) (_ : (Lit.int .i64 i).wf = true) (_ : (Lit.int .i64 t).wf = true) (_ : c.Came) (hl : Pk.BytesIn w a len cap) :
    Calls Try.prog 7 #[x.1.val x.2, .int .i64 i, .int .i64 t, c.val, .slice a len cap] w fun e w' => e = .returned (.bool true) ∧ Below w.heap.size w w' := by
  obtain ⟨b, l, rfl, hL, _⟩ := hl
  exact LogsInstalls_law x.1 x.2 i t c b a cap l w hx hL
end Go.Proofs.Ytaifjkilmdnfbaa.Lg
