/- LogsExact, in the form that its card wants. -/
import Derived.Test.YtaifjkilmdnfbaaLogExactL
namespace Go.Proofs.Ytaifjkilmdnfbaa.Lg
open Go Go.RowKit Mem Cn
theorem LogsExact_told (x : H × Hp) (c : C) (i t : Int) (a : Option Addr) (len cap : Nat) (a5 : Option Addr) (len5 cap5 : Nat) (w : World) (hx : HardAt w x.1 x.2) (_ : c.Came) (_ : (Lit.int .i64 i).wf = true) (_ : (Lit.int .i64 t).wf = true) (hl : EntsIn w a len cap) (hs : Pk.BytesIn w a5 len5 cap5) :
    Calls Try.prog 4 #[x.1.val x.2, c.val, .int .i64 i, .int .i64 t, .slice a len cap, .slice a5 len5 cap5] w fun e w' => e = .returned (.bool true) ∧ Below w.heap.size w w' := by
  obtain ⟨L, rfl, hL⟩ := hl
  obtain ⟨b, l, rfl, hB, _⟩ := hs
  exact LogsExact_law x.1 x.2 c i t a cap L b a5 cap5 l w hx hL hB
end Go.Proofs.Ytaifjkilmdnfbaa.Lg
