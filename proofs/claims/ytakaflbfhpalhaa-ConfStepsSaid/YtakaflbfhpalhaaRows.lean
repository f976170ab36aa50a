/-
  No cell of these rows narrows 'for every input' (looked for: loops, veiled, ifaces, maps, wideKeys, modest, calm, conditions, laid).
  DERIVED. THE GIVEN ROWS OF THIS SEAT. 5 by the template 'for every input the law returns true; each argument reads behind the call as it read before'; 0 by the template 'total and deterministic' (their statements: YtakaflbfhpalhaaTotals.lean).
  GIVEN WITH THE SEED: the statements are not yours to turn. If you find one false, say at which input.
  Laid BY PROGRAM, IN A SANDBOX (cutbox-rows.mjs): the forced cells as the released guide's own fill.sh prints them over the translation 9d67ad0fb602b89f… (all of the seat's roots in one cut). By AI agents, Wed Nov 11 2026. No macro, syntax, notation, axiom, sorry.
-/
import Derived.Test.YtakaflbfhpalhaaChecked
import GoSem.Claim
import GoSem.ClaimJoined
import GoSem.ClaimMapViews
import Derived.JoinedTies
import Derived.KernelRfl
namespace Go.Proofs.Ytakaflbfhpalhaa
/- THE CELL 'sum', in the pinned program and in every row, IS THE sha256 OF THE DUMP (.gsa) THAT YtakaflbfhpalhaaProg.lean LOADS. Nothing in Lean hashes anything: it is a label: what it is worth is what the hold of that sum in a sandbox is worth. -/
noncomputable def Try.pinned : Pinned := { name := "ytakaflbfhpalhaa", sum := "9d67ad0fb602b89f3076385edb9c0a8cb7fe963b8ce5fb9a28a839c8fe061949", checked := Try.checked }
namespace Rows
def none {H : Type} : Left H := { results := [], args := [] }

/-- 'skerrylaw08.ConfSteps': WHATEVER THE INPUT: true; the input reads as it did. -/
def confStepsSpec : ChangeSpec := { name := "confSteps", fn := fun _ => fun
  | [d1, d2, d3, d4] => { results := [.lit (.bool true)], args := [d1, d2, d3, d4] }
  | _ => none }
def confStepsRow : OpenClaim := { program := "ytakaflbfhpalhaa", sum := "9d67ad0fb602b89f3076385edb9c0a8cb7fe963b8ce5fb9a28a839c8fe061949", func := "skerry/skerrylaw08.ConfSteps", spec := "confSteps", unfollowed := true, recurses := true, apart := false }
def ConfStepsSaid : Prop := confStepsRow.holds Try.pinned (OpenSpec.ofChange confStepsSpec)

/-- ITS FALSE NEIGHBOUR: 'it returns false'. Refute it at one input. -/
def confStepsWrong : ChangeSpec := { name := "confSteps", fn := fun _ => fun
  | [d1, d2, d3, d4] => { results := [.lit (.bool false)], args := [d1, d2, d3, d4] }
  | _ => none }
def ConfStepsWrongFalsely : Prop := confStepsRow.holds Try.pinned (OpenSpec.ofChange confStepsWrong)

/-- 'skerrylaw08.ConfMeets': WHATEVER THE INPUT: true; the input reads as it did. -/
def confMeetsSpec : ChangeSpec := { name := "confMeets", fn := fun _ => fun
  | [d1, d2, d3, d4] => { results := [.lit (.bool true)], args := [d1, d2, d3, d4] }
  | _ => none }
def confMeetsRow : OpenClaim := { program := "ytakaflbfhpalhaa", sum := "9d67ad0fb602b89f3076385edb9c0a8cb7fe963b8ce5fb9a28a839c8fe061949", func := "skerry/skerrylaw08.ConfMeets", spec := "confMeets", unfollowed := true, recurses := true, apart := false }
def ConfMeetsSaid : Prop := confMeetsRow.holds Try.pinned (OpenSpec.ofChange confMeetsSpec)

/-- ITS FALSE NEIGHBOUR: 'it returns false'. Refute it at one input. -/
def confMeetsWrong : ChangeSpec := { name := "confMeets", fn := fun _ => fun
  | [d1, d2, d3, d4] => { results := [.lit (.bool false)], args := [d1, d2, d3, d4] }
  | _ => none }
def ConfMeetsWrongFalsely : Prop := confMeetsRow.holds Try.pinned (OpenSpec.ofChange confMeetsWrong)

/-- 'skerrylaw08.ConfNear': WHATEVER THE INPUT: true; the input reads as it did. -/
def confNearSpec : ChangeSpec := { name := "confNear", fn := fun _ => fun
  | [d1, d2, d3, d4] => { results := [.lit (.bool true)], args := [d1, d2, d3, d4] }
  | _ => none }
def confNearRow : OpenClaim := { program := "ytakaflbfhpalhaa", sum := "9d67ad0fb602b89f3076385edb9c0a8cb7fe963b8ce5fb9a28a839c8fe061949", func := "skerry/skerrylaw08.ConfNear", spec := "confNear", unfollowed := true, recurses := true, apart := false }
def ConfNearSaid : Prop := confNearRow.holds Try.pinned (OpenSpec.ofChange confNearSpec)

/-- ITS FALSE NEIGHBOUR: 'it returns false'. Refute it at one input. -/
def confNearWrong : ChangeSpec := { name := "confNear", fn := fun _ => fun
  | [d1, d2, d3, d4] => { results := [.lit (.bool false)], args := [d1, d2, d3, d4] }
  | _ => none }
def ConfNearWrongFalsely : Prop := confNearRow.holds Try.pinned (OpenSpec.ofChange confNearWrong)

/-- 'skerrylaw08.ConfAll': WHATEVER THE INPUT: true; the input reads as it did. -/
def confAllSpec : ChangeSpec := { name := "confAll", fn := fun _ => fun
  | [d1, d2, d3] => { results := [.lit (.bool true)], args := [d1, d2, d3] }
  | _ => none }
def confAllRow : OpenClaim := { program := "ytakaflbfhpalhaa", sum := "9d67ad0fb602b89f3076385edb9c0a8cb7fe963b8ce5fb9a28a839c8fe061949", func := "skerry/skerrylaw08.ConfAll", spec := "confAll", unfollowed := true, recurses := true, apart := false }
def ConfAllSaid : Prop := confAllRow.holds Try.pinned (OpenSpec.ofChange confAllSpec)

/-- ITS FALSE NEIGHBOUR: 'it returns false'. Refute it at one input. -/
def confAllWrong : ChangeSpec := { name := "confAll", fn := fun _ => fun
  | [d1, d2, d3] => { results := [.lit (.bool false)], args := [d1, d2, d3] }
  | _ => none }
def ConfAllWrongFalsely : Prop := confAllRow.holds Try.pinned (OpenSpec.ofChange confAllWrong)

/-- 'skerrylaw08.ConfRounds': WHATEVER THE INPUT: true; the input reads as it did. -/
def confRoundsSpec : ChangeSpec := { name := "confRounds", fn := fun _ => fun
  | [d1, d2, d3] => { results := [.lit (.bool true)], args := [d1, d2, d3] }
  | _ => none }
def confRoundsRow : OpenClaim := { program := "ytakaflbfhpalhaa", sum := "9d67ad0fb602b89f3076385edb9c0a8cb7fe963b8ce5fb9a28a839c8fe061949", func := "skerry/skerrylaw08.ConfRounds", spec := "confRounds", unfollowed := true, recurses := true, apart := false }
def ConfRoundsSaid : Prop := confRoundsRow.holds Try.pinned (OpenSpec.ofChange confRoundsSpec)

/-- ITS FALSE NEIGHBOUR: 'it returns false'. Refute it at one input. -/
def confRoundsWrong : ChangeSpec := { name := "confRounds", fn := fun _ => fun
  | [d1, d2, d3] => { results := [.lit (.bool false)], args := [d1, d2, d3] }
  | _ => none }
def ConfRoundsWrongFalsely : Prop := confRoundsRow.holds Try.pinned (OpenSpec.ofChange confRoundsWrong)

/- THE SECOND FORM. 'bulk': how many values and letters a reading holds, each counted each time it is reached (what is shared counts as often as it is met; a slice's spare places count too). A statement '..UptoSaid' is the law's where the arguments, and the package variables that the reading takes, are together of bulk at most 1048576: NARROWER than '..Said'. Prove '..Said' where nothing that the law and all that it calls make is longer than what came in: it says more and counts as full. Else prove '..UptoSaid'. A law counts once. -/
mutual
def uptoBulk {H : Type} : DataW H → Nat
  | .lit (.string bytes) => bytes.length + 1
  | .lit _ => 1
  | .nil => 1
  | .ptr d => uptoBulk d + 1
  | .slice elems spare => uptoBulkAll elems + uptoBulkAll spare + 1
  | .agg parts => uptoBulkAll parts + 1
  | .iface _ d => uptoBulk d + 1
  | .map entries => uptoBulkEntries entries + 1
  | .held _ => 1
def uptoBulkAll {H : Type} : List (DataW H) → Nat
  | [] => 0
  | d :: r => uptoBulk d + uptoBulkAll r
def uptoBulkEntries {H : Type} : List (Lit × DataW H) → Nat
  | [] => 0
  | x :: r => uptoBulkEntry x + uptoBulkEntries r
def uptoBulkEntry {H : Type} : Lit × DataW H → Nat
  | (.string bytes, d) => bytes.length + uptoBulk d + 1
  | (_, d) => uptoBulk d + 1
 end
def uptoSmall : (H : Type) → List (DataW H) → Bool := fun _ ds => decide (uptoBulkAll ds ≤ 1048576)
def OpenSpec.upto (s : _root_.Go.ChangeSpec) : _root_.Go.OpenSpec := { _root_.Go.OpenSpec.ofChange s with cond := some uptoSmall }

/-- 'skerrylaw08.ConfSteps', WHERE WHAT IT READS IS OF BULK AT MOST 1048576: true; the input reads as it did. -/
def confStepsUptoRow : OpenClaim := { program := "ytakaflbfhpalhaa", sum := "9d67ad0fb602b89f3076385edb9c0a8cb7fe963b8ce5fb9a28a839c8fe061949", func := "skerry/skerrylaw08.ConfSteps", spec := "confSteps", unfollowed := true, recurses := true, apart := false, narrowed := true }
def ConfStepsUptoSaid : Prop := confStepsUptoRow.holds Try.pinned (OpenSpec.upto confStepsSpec)

/-- 'skerrylaw08.ConfMeets', WHERE WHAT IT READS IS OF BULK AT MOST 1048576: true; the input reads as it did. -/
def confMeetsUptoRow : OpenClaim := { program := "ytakaflbfhpalhaa", sum := "9d67ad0fb602b89f3076385edb9c0a8cb7fe963b8ce5fb9a28a839c8fe061949", func := "skerry/skerrylaw08.ConfMeets", spec := "confMeets", unfollowed := true, recurses := true, apart := false, narrowed := true }
def ConfMeetsUptoSaid : Prop := confMeetsUptoRow.holds Try.pinned (OpenSpec.upto confMeetsSpec)

/-- 'skerrylaw08.ConfNear', WHERE WHAT IT READS IS OF BULK AT MOST 1048576: true; the input reads as it did. -/
def confNearUptoRow : OpenClaim := { program := "ytakaflbfhpalhaa", sum := "9d67ad0fb602b89f3076385edb9c0a8cb7fe963b8ce5fb9a28a839c8fe061949", func := "skerry/skerrylaw08.ConfNear", spec := "confNear", unfollowed := true, recurses := true, apart := false, narrowed := true }
def ConfNearUptoSaid : Prop := confNearUptoRow.holds Try.pinned (OpenSpec.upto confNearSpec)

/-- 'skerrylaw08.ConfAll', WHERE WHAT IT READS IS OF BULK AT MOST 1048576: true; the input reads as it did. -/
def confAllUptoRow : OpenClaim := { program := "ytakaflbfhpalhaa", sum := "9d67ad0fb602b89f3076385edb9c0a8cb7fe963b8ce5fb9a28a839c8fe061949", func := "skerry/skerrylaw08.ConfAll", spec := "confAll", unfollowed := true, recurses := true, apart := false, narrowed := true }
def ConfAllUptoSaid : Prop := confAllUptoRow.holds Try.pinned (OpenSpec.upto confAllSpec)

/-- 'skerrylaw08.ConfRounds', WHERE WHAT IT READS IS OF BULK AT MOST 1048576: true; the input reads as it did. -/
def confRoundsUptoRow : OpenClaim := { program := "ytakaflbfhpalhaa", sum := "9d67ad0fb602b89f3076385edb9c0a8cb7fe963b8ce5fb9a28a839c8fe061949", func := "skerry/skerrylaw08.ConfRounds", spec := "confRounds", unfollowed := true, recurses := true, apart := false, narrowed := true }
def ConfRoundsUptoSaid : Prop := confRoundsUptoRow.holds Try.pinned (OpenSpec.upto confRoundsSpec)

end Rows
end Go.Proofs.Ytakaflbfhpalhaa
