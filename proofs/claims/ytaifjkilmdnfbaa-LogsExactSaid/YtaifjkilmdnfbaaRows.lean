/-
  No cell of these rows narrows 'for every input' (looked for: loops, veiled, ifaces, maps, wideKeys, modest, calm, conditions, laid).
  DERIVED. THE GIVEN ROWS OF THIS SEAT. 8 by the template 'for every input the law returns true; each argument reads behind the call as it read before'; 0 by the template 'total and deterministic' (their statements: YtaifjkilmdnfbaaTotals.lean).
  GIVEN WITH THE SEED: the statements are not yours to turn. If you find one false, say at which input.
  Laid BY PROGRAM, IN A SANDBOX (cutbox-rows.mjs): the forced cells as the released guide's own fill.sh prints them over the translation 5b9fd95cc7bfe0a2… (all of the seat's roots in one cut). By AI agents, Wed Nov 11 2026. No macro, syntax, notation, axiom, sorry.
-/
import Derived.Test.YtaifjkilmdnfbaaChecked
import GoSem.Claim
import GoSem.ClaimJoined
import GoSem.ClaimMapViews
import Derived.JoinedTies
import Derived.KernelRfl
namespace Go.Proofs.Ytaifjkilmdnfbaa
/- THE CELL 'sum', in the pinned program and in every row, IS THE sha256 OF THE DUMP (.gsa) THAT YtaifjkilmdnfbaaProg.lean LOADS. Nothing in Lean hashes anything: it is a label: what it is worth is what the hold of that sum in a sandbox is worth. -/
noncomputable def Try.pinned : Pinned := { name := "ytaifjkilmdnfbaa", sum := "5b9fd95cc7bfe0a20e33955af81b479b9717693a63a2a09ff181b113985fb7fa", checked := Try.checked }
namespace Rows
def none {H : Type} : Left H := { results := [], args := [] }

/-- 'skerrylaw09.LogsLooks': WHATEVER THE INPUT: true; the input reads as it did. -/
def logsLooksSpec : ChangeSpec := { name := "logsLooks", fn := fun _ => fun
  | [d1, d2, d3, d4, d5] => { results := [.lit (.bool true)], args := [d1, d2, d3, d4, d5] }
  | _ => none }
def logsLooksRow : OpenClaim := { program := "ytaifjkilmdnfbaa", sum := "5b9fd95cc7bfe0a20e33955af81b479b9717693a63a2a09ff181b113985fb7fa", func := "skerry/skerrylaw09.LogsLooks", spec := "logsLooks", inPlace := ["math.Float64frombits", "math.Float64bits"], apart := false }
def LogsLooksSaid : Prop := logsLooksRow.holds Try.pinned (OpenSpec.ofChange logsLooksSpec)

/-- ITS FALSE NEIGHBOUR: 'it returns false'. Refute it at one input. -/
def logsLooksWrong : ChangeSpec := { name := "logsLooks", fn := fun _ => fun
  | [d1, d2, d3, d4, d5] => { results := [.lit (.bool false)], args := [d1, d2, d3, d4, d5] }
  | _ => none }
def LogsLooksWrongFalsely : Prop := logsLooksRow.holds Try.pinned (OpenSpec.ofChange logsLooksWrong)

/-- 'skerrylaw09.LogsExact': WHATEVER THE INPUT: true; the input reads as it did. -/
def logsExactSpec : ChangeSpec := { name := "logsExact", fn := fun _ => fun
  | [d1, d2, d3, d4, d5, d6] => { results := [.lit (.bool true)], args := [d1, d2, d3, d4, d5, d6] }
  | _ => none }
def logsExactRow : OpenClaim := { program := "ytaifjkilmdnfbaa", sum := "5b9fd95cc7bfe0a20e33955af81b479b9717693a63a2a09ff181b113985fb7fa", func := "skerry/skerrylaw09.LogsExact", spec := "logsExact", inPlace := ["math.Float64bits", "math.Float64frombits"], apart := false }
def LogsExactSaid : Prop := logsExactRow.holds Try.pinned (OpenSpec.ofChange logsExactSpec)

/-- ITS FALSE NEIGHBOUR: 'it returns false'. Refute it at one input. -/
def logsExactWrong : ChangeSpec := { name := "logsExact", fn := fun _ => fun
  | [d1, d2, d3, d4, d5, d6] => { results := [.lit (.bool false)], args := [d1, d2, d3, d4, d5, d6] }
  | _ => none }
def LogsExactWrongFalsely : Prop := logsExactRow.holds Try.pinned (OpenSpec.ofChange logsExactWrong)

/-- 'skerrylaw09.LogsPuts': WHATEVER THE INPUT: true; the input reads as it did. -/
def logsPutsSpec : ChangeSpec := { name := "logsPuts", fn := fun _ => fun
  | [d1, d2, d3] => { results := [.lit (.bool true)], args := [d1, d2, d3] }
  | _ => none }
def logsPutsRow : OpenClaim := { program := "ytaifjkilmdnfbaa", sum := "5b9fd95cc7bfe0a20e33955af81b479b9717693a63a2a09ff181b113985fb7fa", func := "skerry/skerrylaw09.LogsPuts", spec := "logsPuts", inPlace := ["math.Float64frombits", "math.Float64bits"], apart := false }
def LogsPutsSaid : Prop := logsPutsRow.holds Try.pinned (OpenSpec.ofChange logsPutsSpec)

/-- ITS FALSE NEIGHBOUR: 'it returns false'. Refute it at one input. -/
def logsPutsWrong : ChangeSpec := { name := "logsPuts", fn := fun _ => fun
  | [d1, d2, d3] => { results := [.lit (.bool false)], args := [d1, d2, d3] }
  | _ => none }
def LogsPutsWrongFalsely : Prop := logsPutsRow.holds Try.pinned (OpenSpec.ofChange logsPutsWrong)

/-- 'skerrylaw09.LogsCompacts': WHATEVER THE INPUT: true; the input reads as it did. -/
def logsCompactsSpec : ChangeSpec := { name := "logsCompacts", fn := fun _ => fun
  | [d1, d2, d3, d4] => { results := [.lit (.bool true)], args := [d1, d2, d3, d4] }
  | _ => none }
def logsCompactsRow : OpenClaim := { program := "ytaifjkilmdnfbaa", sum := "5b9fd95cc7bfe0a20e33955af81b479b9717693a63a2a09ff181b113985fb7fa", func := "skerry/skerrylaw09.LogsCompacts", spec := "logsCompacts", inPlace := ["math.Float64frombits", "math.Float64bits"], apart := false }
def LogsCompactsSaid : Prop := logsCompactsRow.holds Try.pinned (OpenSpec.ofChange logsCompactsSpec)

/-- ITS FALSE NEIGHBOUR: 'it returns false'. Refute it at one input. -/
def logsCompactsWrong : ChangeSpec := { name := "logsCompacts", fn := fun _ => fun
  | [d1, d2, d3, d4] => { results := [.lit (.bool false)], args := [d1, d2, d3, d4] }
  | _ => none }
def LogsCompactsWrongFalsely : Prop := logsCompactsRow.holds Try.pinned (OpenSpec.ofChange logsCompactsWrong)

/-- 'skerrylaw09.LogsInstalls': WHATEVER THE INPUT: true; the input reads as it did. -/
def logsInstallsSpec : ChangeSpec := { name := "logsInstalls", fn := fun _ => fun
  | [d1, d2, d3, d4, d5] => { results := [.lit (.bool true)], args := [d1, d2, d3, d4, d5] }
  | _ => none }
def logsInstallsRow : OpenClaim := { program := "ytaifjkilmdnfbaa", sum := "5b9fd95cc7bfe0a20e33955af81b479b9717693a63a2a09ff181b113985fb7fa", func := "skerry/skerrylaw09.LogsInstalls", spec := "logsInstalls", inPlace := ["math.Float64frombits", "math.Float64bits"], apart := false }
def LogsInstallsSaid : Prop := logsInstallsRow.holds Try.pinned (OpenSpec.ofChange logsInstallsSpec)

/-- ITS FALSE NEIGHBOUR: 'it returns false'. Refute it at one input. -/
def logsInstallsWrong : ChangeSpec := { name := "logsInstalls", fn := fun _ => fun
  | [d1, d2, d3, d4, d5] => { results := [.lit (.bool false)], args := [d1, d2, d3, d4, d5] }
  | _ => none }
def LogsInstallsWrongFalsely : Prop := logsInstallsRow.holds Try.pinned (OpenSpec.ofChange logsInstallsWrong)

/-- 'skerrylaw09.LogsNewer': WHATEVER THE INPUT: true; the input reads as it did. -/
def logsNewerSpec : ChangeSpec := { name := "logsNewer", fn := fun _ => fun
  | [d1, d2, d3] => { results := [.lit (.bool true)], args := [d1, d2, d3] }
  | _ => none }
def logsNewerRow : OpenClaim := { program := "ytaifjkilmdnfbaa", sum := "5b9fd95cc7bfe0a20e33955af81b479b9717693a63a2a09ff181b113985fb7fa", func := "skerry/skerrylaw09.LogsNewer", spec := "logsNewer", inPlace := ["math.Float64frombits", "math.Float64bits"], apart := false }
def LogsNewerSaid : Prop := logsNewerRow.holds Try.pinned (OpenSpec.ofChange logsNewerSpec)

/-- ITS FALSE NEIGHBOUR: 'it returns false'. Refute it at one input. -/
def logsNewerWrong : ChangeSpec := { name := "logsNewer", fn := fun _ => fun
  | [d1, d2, d3] => { results := [.lit (.bool false)], args := [d1, d2, d3] }
  | _ => none }
def LogsNewerWrongFalsely : Prop := logsNewerRow.holds Try.pinned (OpenSpec.ofChange logsNewerWrong)

/-- 'skerrylaw09.LogsParts': WHATEVER THE INPUT: true; the input reads as it did. -/
def logsPartsSpec : ChangeSpec := { name := "logsParts", fn := fun _ => fun
  | [d1, d2, d3, d4] => { results := [.lit (.bool true)], args := [d1, d2, d3, d4] }
  | _ => none }
def logsPartsRow : OpenClaim := { program := "ytaifjkilmdnfbaa", sum := "5b9fd95cc7bfe0a20e33955af81b479b9717693a63a2a09ff181b113985fb7fa", func := "skerry/skerrylaw09.LogsParts", spec := "logsParts", inPlace := ["math.Float64frombits", "math.Float64bits"], apart := false }
def LogsPartsSaid : Prop := logsPartsRow.holds Try.pinned (OpenSpec.ofChange logsPartsSpec)

/-- ITS FALSE NEIGHBOUR: 'it returns false'. Refute it at one input. -/
def logsPartsWrong : ChangeSpec := { name := "logsParts", fn := fun _ => fun
  | [d1, d2, d3, d4] => { results := [.lit (.bool false)], args := [d1, d2, d3, d4] }
  | _ => none }
def LogsPartsWrongFalsely : Prop := logsPartsRow.holds Try.pinned (OpenSpec.ofChange logsPartsWrong)

/-- 'skerrylaw09.LogsPieces': WHATEVER THE INPUT: true; the input reads as it did. -/
def logsPiecesSpec : ChangeSpec := { name := "logsPieces", fn := fun _ => fun
  | [d1, d2, d3, d4] => { results := [.lit (.bool true)], args := [d1, d2, d3, d4] }
  | _ => none }
def logsPiecesRow : OpenClaim := { program := "ytaifjkilmdnfbaa", sum := "5b9fd95cc7bfe0a20e33955af81b479b9717693a63a2a09ff181b113985fb7fa", func := "skerry/skerrylaw09.LogsPieces", spec := "logsPieces", inPlace := ["math.Float64bits", "math.Float64frombits"], apart := false }
def LogsPiecesSaid : Prop := logsPiecesRow.holds Try.pinned (OpenSpec.ofChange logsPiecesSpec)

/-- ITS FALSE NEIGHBOUR: 'it returns false'. Refute it at one input. -/
def logsPiecesWrong : ChangeSpec := { name := "logsPieces", fn := fun _ => fun
  | [d1, d2, d3, d4] => { results := [.lit (.bool false)], args := [d1, d2, d3, d4] }
  | _ => none }
def LogsPiecesWrongFalsely : Prop := logsPiecesRow.holds Try.pinned (OpenSpec.ofChange logsPiecesWrong)

/- THE SECOND FORM. 'bulk': how many values and letters a reading holds, each counted each time it is reached (what is shared counts as often as it is met; a slice's spare places count too). A statement '..UptoSaid' is the law's where the arguments, and the package variables that the reading takes, are together of bulk at most 1048576: NARROWER than '..Said'. Prove '..Said' where nothing that the law and all that it calls make is longer than what came in: it says more and counts as full. Else prove '..UptoSaid'. A law counts once. -/
mutual
def uptoBulk {H : Type} : DataW H → Nat
  | .lit (.string bytes) => bytes.length + 1
  | .lit _ => 1
  | .nil => 1
  | .ptr d => uptoBulk d + 1
  | .slice elems spare => uptoBulkAll elems + uptoBulkAll spare + 1
  | .agg parts => uptoBulkAll parts + 1
  | .iface _ d => uptoBulk d + 1
  | .map entries => uptoBulkEntries entries + 1
  | .held _ => 1
def uptoBulkAll {H : Type} : List (DataW H) → Nat
  | [] => 0
  | d :: r => uptoBulk d + uptoBulkAll r
def uptoBulkEntries {H : Type} : List (Lit × DataW H) → Nat
  | [] => 0
  | x :: r => uptoBulkEntry x + uptoBulkEntries r
def uptoBulkEntry {H : Type} : Lit × DataW H → Nat
  | (.string bytes, d) => bytes.length + uptoBulk d + 1
  | (_, d) => uptoBulk d + 1
 end
def uptoSmall : (H : Type) → List (DataW H) → Bool := fun _ ds => decide (uptoBulkAll ds ≤ 1048576)
def OpenSpec.upto (s : _root_.Go.ChangeSpec) : _root_.Go.OpenSpec := { _root_.Go.OpenSpec.ofChange s with cond := some uptoSmall }

/-- 'skerrylaw09.LogsLooks', WHERE WHAT IT READS IS OF BULK AT MOST 1048576: true; the input reads as it did. -/
def logsLooksUptoRow : OpenClaim := { program := "ytaifjkilmdnfbaa", sum := "5b9fd95cc7bfe0a20e33955af81b479b9717693a63a2a09ff181b113985fb7fa", func := "skerry/skerrylaw09.LogsLooks", spec := "logsLooks", inPlace := ["math.Float64frombits", "math.Float64bits"], apart := false, narrowed := true }
def LogsLooksUptoSaid : Prop := logsLooksUptoRow.holds Try.pinned (OpenSpec.upto logsLooksSpec)

/-- 'skerrylaw09.LogsExact', WHERE WHAT IT READS IS OF BULK AT MOST 1048576: true; the input reads as it did. -/
def logsExactUptoRow : OpenClaim := { program := "ytaifjkilmdnfbaa", sum := "5b9fd95cc7bfe0a20e33955af81b479b9717693a63a2a09ff181b113985fb7fa", func := "skerry/skerrylaw09.LogsExact", spec := "logsExact", inPlace := ["math.Float64bits", "math.Float64frombits"], apart := false, narrowed := true }
def LogsExactUptoSaid : Prop := logsExactUptoRow.holds Try.pinned (OpenSpec.upto logsExactSpec)

/-- 'skerrylaw09.LogsPuts', WHERE WHAT IT READS IS OF BULK AT MOST 1048576: true; the input reads as it did. -/
def logsPutsUptoRow : OpenClaim := { program := "ytaifjkilmdnfbaa", sum := "5b9fd95cc7bfe0a20e33955af81b479b9717693a63a2a09ff181b113985fb7fa", func := "skerry/skerrylaw09.LogsPuts", spec := "logsPuts", inPlace := ["math.Float64frombits", "math.Float64bits"], apart := false, narrowed := true }
def LogsPutsUptoSaid : Prop := logsPutsUptoRow.holds Try.pinned (OpenSpec.upto logsPutsSpec)

/-- 'skerrylaw09.LogsCompacts', WHERE WHAT IT READS IS OF BULK AT MOST 1048576: true; the input reads as it did. -/
def logsCompactsUptoRow : OpenClaim := { program := "ytaifjkilmdnfbaa", sum := "5b9fd95cc7bfe0a20e33955af81b479b9717693a63a2a09ff181b113985fb7fa", func := "skerry/skerrylaw09.LogsCompacts", spec := "logsCompacts", inPlace := ["math.Float64frombits", "math.Float64bits"], apart := false, narrowed := true }
def LogsCompactsUptoSaid : Prop := logsCompactsUptoRow.holds Try.pinned (OpenSpec.upto logsCompactsSpec)

/-- 'skerrylaw09.LogsInstalls', WHERE WHAT IT READS IS OF BULK AT MOST 1048576: true; the input reads as it did. -/
def logsInstallsUptoRow : OpenClaim := { program := "ytaifjkilmdnfbaa", sum := "5b9fd95cc7bfe0a20e33955af81b479b9717693a63a2a09ff181b113985fb7fa", func := "skerry/skerrylaw09.LogsInstalls", spec := "logsInstalls", inPlace := ["math.Float64frombits", "math.Float64bits"], apart := false, narrowed := true }
def LogsInstallsUptoSaid : Prop := logsInstallsUptoRow.holds Try.pinned (OpenSpec.upto logsInstallsSpec)

/-- 'skerrylaw09.LogsNewer', WHERE WHAT IT READS IS OF BULK AT MOST 1048576: true; the input reads as it did. -/
def logsNewerUptoRow : OpenClaim := { program := "ytaifjkilmdnfbaa", sum := "5b9fd95cc7bfe0a20e33955af81b479b9717693a63a2a09ff181b113985fb7fa", func := "skerry/skerrylaw09.LogsNewer", spec := "logsNewer", inPlace := ["math.Float64frombits", "math.Float64bits"], apart := false, narrowed := true }
def LogsNewerUptoSaid : Prop := logsNewerUptoRow.holds Try.pinned (OpenSpec.upto logsNewerSpec)

/-- 'skerrylaw09.LogsParts', WHERE WHAT IT READS IS OF BULK AT MOST 1048576: true; the input reads as it did. -/
def logsPartsUptoRow : OpenClaim := { program := "ytaifjkilmdnfbaa", sum := "5b9fd95cc7bfe0a20e33955af81b479b9717693a63a2a09ff181b113985fb7fa", func := "skerry/skerrylaw09.LogsParts", spec := "logsParts", inPlace := ["math.Float64frombits", "math.Float64bits"], apart := false, narrowed := true }
def LogsPartsUptoSaid : Prop := logsPartsUptoRow.holds Try.pinned (OpenSpec.upto logsPartsSpec)

/-- 'skerrylaw09.LogsPieces', WHERE WHAT IT READS IS OF BULK AT MOST 1048576: true; the input reads as it did. -/
def logsPiecesUptoRow : OpenClaim := { program := "ytaifjkilmdnfbaa", sum := "5b9fd95cc7bfe0a20e33955af81b479b9717693a63a2a09ff181b113985fb7fa", func := "skerry/skerrylaw09.LogsPieces", spec := "logsPieces", inPlace := ["math.Float64bits", "math.Float64frombits"], apart := false, narrowed := true }
def LogsPiecesUptoSaid : Prop := logsPiecesUptoRow.holds Try.pinned (OpenSpec.upto logsPiecesSpec)

end Rows
end Go.Proofs.Ytaifjkilmdnfbaa
