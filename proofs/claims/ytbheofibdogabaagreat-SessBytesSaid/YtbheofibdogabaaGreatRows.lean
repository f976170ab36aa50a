/-
  No cell of these rows narrows 'for every input' (looked for: loops, veiled, ifaces, maps, wideKeys, modest, calm, conditions, laid).
  DERIVED. THE GIVEN ROWS OF THIS SEAT. 3 by the template 'for every input the law returns true; each argument reads behind the call as it read before'; 0 by the template 'total and deterministic' (their statements: YtbheofibdogabaaGreatTotals.lean).
  GIVEN WITH THE SEED: the statements are not yours to turn. If you find one false, say at which input.
  Laid BY PROGRAM, IN A SANDBOX (cutbox-rows.mjs): the forced cells as the released guide's own fill.sh prints them over the translation bdf461174cfbf910… (all of the seat's roots in one cut). By AI agents, Wed Nov 11 2026. No macro, syntax, notation, axiom, sorry.
-/
import Derived.Test.YtbheofibdogabaaGreatChecked
import GoSem.Claim
import GoSem.ClaimJoined
import GoSem.ClaimMapViews
import Derived.JoinedTies
import Derived.KernelRfl
namespace Go.Proofs.YtbheofibdogabaaGreat
/- THE CELL 'sum', in the pinned program and in every row, IS THE sha256 OF THE DUMP (.gsa) THAT YtbheofibdogabaaGreatProg.lean LOADS. Nothing in Lean hashes anything: it is a label: what it is worth is what the hold of that sum in a sandbox is worth. -/
noncomputable def Tryz.pinned : Pinned := { name := "ytbheofibdogabaagreat", sum := "bdf461174cfbf9107449947dd350c342ba930c4c79f1c5420402e8f58c54dded", checked := Tryz.checked }
namespace Rows
def none {H : Type} : Left H := { results := [], args := [] }

/-- 'skerrylaw07.SessBytes': WHATEVER THE INPUT: true; the input reads as it did. -/
def sessBytesSpec : ChangeSpec := { name := "sessBytes", fn := fun _ => fun
  | [d1, d2] => { results := [.lit (.bool true)], args := [d1, d2] }
  | _ => none }
def sessBytesRow : OpenClaim := { program := "ytbheofibdogabaagreat", sum := "bdf461174cfbf9107449947dd350c342ba930c4c79f1c5420402e8f58c54dded", func := "skerry/skerrylaw07.SessBytes", spec := "sessBytes", inPlace := ["math.Float64frombits", "math.Float64bits", "internal/bytealg.abigen_runtime_cmpstring", "slices.overlaps[skerry/api.Sess]"], unfollowed := true, recurses := true, apart := false }
def SessBytesSaid : Prop := sessBytesRow.holds Tryz.pinned (OpenSpec.ofChange sessBytesSpec)

/-- ITS FALSE NEIGHBOUR: 'it returns false'. Refute it at one input. -/
def sessBytesWrong : ChangeSpec := { name := "sessBytes", fn := fun _ => fun
  | [d1, d2] => { results := [.lit (.bool false)], args := [d1, d2] }
  | _ => none }
def SessBytesWrongFalsely : Prop := sessBytesRow.holds Tryz.pinned (OpenSpec.ofChange sessBytesWrong)

/-- 'skerrylaw07.SessBack': WHATEVER THE INPUT: true; the input reads as it did. -/
def sessBackSpec : ChangeSpec := { name := "sessBack", fn := fun _ => fun
  | [d1, d2] => { results := [.lit (.bool true)], args := [d1, d2] }
  | _ => none }
def sessBackRow : OpenClaim := { program := "ytbheofibdogabaagreat", sum := "bdf461174cfbf9107449947dd350c342ba930c4c79f1c5420402e8f58c54dded", func := "skerry/skerrylaw07.SessBack", spec := "sessBack", inPlace := ["math.Float64bits", "math.Float64frombits", "internal/bytealg.abigen_runtime_cmpstring", "slices.overlaps[skerry/api.Sess]"], unfollowed := true, recurses := true, apart := false }
def SessBackSaid : Prop := sessBackRow.holds Tryz.pinned (OpenSpec.ofChange sessBackSpec)

/-- ITS FALSE NEIGHBOUR: 'it returns false'. Refute it at one input. -/
def sessBackWrong : ChangeSpec := { name := "sessBack", fn := fun _ => fun
  | [d1, d2] => { results := [.lit (.bool false)], args := [d1, d2] }
  | _ => none }
def SessBackWrongFalsely : Prop := sessBackRow.holds Tryz.pinned (OpenSpec.ofChange sessBackWrong)

/-- 'skerrylaw07.SessCuts': WHATEVER THE INPUT: true; the input reads as it did. -/
def sessCutsSpec : ChangeSpec := { name := "sessCuts", fn := fun _ => fun
  | [d1, d2, d3, d4] => { results := [.lit (.bool true)], args := [d1, d2, d3, d4] }
  | _ => none }
def sessCutsRow : OpenClaim := { program := "ytbheofibdogabaagreat", sum := "bdf461174cfbf9107449947dd350c342ba930c4c79f1c5420402e8f58c54dded", func := "skerry/skerrylaw07.SessCuts", spec := "sessCuts", inPlace := ["math.Float64bits", "math.Float64frombits", "internal/bytealg.abigen_runtime_cmpstring", "slices.overlaps[skerry/api.Sess]"], unfollowed := true, recurses := true, apart := false }
def SessCutsSaid : Prop := sessCutsRow.holds Tryz.pinned (OpenSpec.ofChange sessCutsSpec)

/-- ITS FALSE NEIGHBOUR: 'it returns false'. Refute it at one input. -/
def sessCutsWrong : ChangeSpec := { name := "sessCuts", fn := fun _ => fun
  | [d1, d2, d3, d4] => { results := [.lit (.bool false)], args := [d1, d2, d3, d4] }
  | _ => none }
def SessCutsWrongFalsely : Prop := sessCutsRow.holds Tryz.pinned (OpenSpec.ofChange sessCutsWrong)

/- THE SECOND FORM. 'bulk': how many values and letters a reading holds, each counted each time it is reached (what is shared counts as often as it is met; a slice's spare places count too). A statement '..UptoSaid' is the law's where the arguments, and the package variables that the reading takes, are together of bulk at most 1048576: NARROWER than '..Said'. Prove '..Said' where nothing that the law and all that it calls make is longer than what came in: it says more and counts as full. Else prove '..UptoSaid'. A law counts once. -/
mutual
def uptoBulk {H : Type} : DataW H → Nat
  | .lit (.string bytes) => bytes.length + 1
  | .lit _ => 1
  | .nil => 1
  | .ptr d => uptoBulk d + 1
  | .slice elems spare => uptoBulkAll elems + uptoBulkAll spare + 1
  | .agg parts => uptoBulkAll parts + 1
  | .iface _ d => uptoBulk d + 1
  | .map entries => uptoBulkEntries entries + 1
  | .held _ => 1
def uptoBulkAll {H : Type} : List (DataW H) → Nat
  | [] => 0
  | d :: r => uptoBulk d + uptoBulkAll r
def uptoBulkEntries {H : Type} : List (Lit × DataW H) → Nat
  | [] => 0
  | x :: r => uptoBulkEntry x + uptoBulkEntries r
def uptoBulkEntry {H : Type} : Lit × DataW H → Nat
  | (.string bytes, d) => bytes.length + uptoBulk d + 1
  | (_, d) => uptoBulk d + 1
 end
def uptoSmall : (H : Type) → List (DataW H) → Bool := fun _ ds => decide (uptoBulkAll ds ≤ 1048576)
def OpenSpec.upto (s : _root_.Go.ChangeSpec) : _root_.Go.OpenSpec := { _root_.Go.OpenSpec.ofChange s with cond := some uptoSmall }

/-- 'skerrylaw07.SessBytes', WHERE WHAT IT READS IS OF BULK AT MOST 1048576: true; the input reads as it did. -/
def sessBytesUptoRow : OpenClaim := { program := "ytbheofibdogabaagreat", sum := "bdf461174cfbf9107449947dd350c342ba930c4c79f1c5420402e8f58c54dded", func := "skerry/skerrylaw07.SessBytes", spec := "sessBytes", inPlace := ["math.Float64frombits", "math.Float64bits", "internal/bytealg.abigen_runtime_cmpstring", "slices.overlaps[skerry/api.Sess]"], unfollowed := true, recurses := true, apart := false, narrowed := true }
def SessBytesUptoSaid : Prop := sessBytesUptoRow.holds Tryz.pinned (OpenSpec.upto sessBytesSpec)

/-- 'skerrylaw07.SessBack', WHERE WHAT IT READS IS OF BULK AT MOST 1048576: true; the input reads as it did. -/
def sessBackUptoRow : OpenClaim := { program := "ytbheofibdogabaagreat", sum := "bdf461174cfbf9107449947dd350c342ba930c4c79f1c5420402e8f58c54dded", func := "skerry/skerrylaw07.SessBack", spec := "sessBack", inPlace := ["math.Float64bits", "math.Float64frombits", "internal/bytealg.abigen_runtime_cmpstring", "slices.overlaps[skerry/api.Sess]"], unfollowed := true, recurses := true, apart := false, narrowed := true }
def SessBackUptoSaid : Prop := sessBackUptoRow.holds Tryz.pinned (OpenSpec.upto sessBackSpec)

/-- 'skerrylaw07.SessCuts', WHERE WHAT IT READS IS OF BULK AT MOST 1048576: true; the input reads as it did. -/
def sessCutsUptoRow : OpenClaim := { program := "ytbheofibdogabaagreat", sum := "bdf461174cfbf9107449947dd350c342ba930c4c79f1c5420402e8f58c54dded", func := "skerry/skerrylaw07.SessCuts", spec := "sessCuts", inPlace := ["math.Float64bits", "math.Float64frombits", "internal/bytealg.abigen_runtime_cmpstring", "slices.overlaps[skerry/api.Sess]"], unfollowed := true, recurses := true, apart := false, narrowed := true }
def SessCutsUptoSaid : Prop := sessCutsUptoRow.holds Tryz.pinned (OpenSpec.upto sessCutsSpec)

end Rows
end Go.Proofs.YtbheofibdogabaaGreat
