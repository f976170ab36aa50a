/-
  NARROWER THAN 'FOR EVERY INPUT', by the rows' own cells (each row's printed sentence says how): FrameExact: laid · FrameBack: laid · FrameCuts: laid · FrameSpoilt: laid · FrameUnlike: laid · FrameEnds: laid · FrameRows: laid.
  DERIVED. THE GIVEN ROWS OF THIS SEAT. 7 by the template 'for every input the law returns true; each argument reads behind the call as it read before'; 0 by the template 'total and deterministic' (their statements: YtfbibmdjahfneaaDoorTotals.lean).
  GIVEN WITH THE SEED: the statements are not yours to turn. If you find one false, say at which input.
  Laid BY PROGRAM, IN A SANDBOX (cutbox-rows.mjs): the forced cells as the released guide's own fill.sh prints them over the translation 08b2db912d2c4fdd… (all of the seat's roots in one cut). By AI agents, Wed Nov 11 2026. No macro, syntax, notation, axiom, sorry.
-/
import Derived.Test.YtfbibmdjahfneaaDoorChecked
import GoSem.Claim
import GoSem.ClaimJoined
import GoSem.ClaimMapViews
import Derived.JoinedTies
import Derived.KernelRfl
namespace Go.Proofs.YtfbibmdjahfneaaDoor
/- THE CELL 'sum', in the pinned program and in every row, IS THE sha256 OF THE DUMP (.gsa) THAT YtfbibmdjahfneaaDoorProg.lean LOADS. Nothing in Lean hashes anything: it is a label: what it is worth is what the hold of that sum in a sandbox is worth. -/
noncomputable def Tryd.pinned : Pinned := { name := "ytfbibmdjahfneaadoor", sum := "08b2db912d2c4fdd27d2f270ba39e041f84bd2c3e253d145ac839fd821a16ccf", checked := Tryd.checked }
namespace Rows
def none {H : Type} : Left H := { results := [], args := [] }

/- WHAT THE LISTED PACKAGE-LEVEL VARIABLES READ AS WHEN THE CALL BEGINS. Each datum BY PROGRAM (the guide's laid-datum.mjs) off the statement by which the dump's own 'gosem.cut.vars' lays the variable. In a bare row this is a premise. The card (YtfbibmdjahfneaaDoorCards.lean) ties it to the program's text. -/
def laid_skerry_frame_halves {H : Type} : DataW H := .agg [.lit (.int .u32 0), .lit (.int .u32 498536548), .lit (.int .u32 997073096), .lit (.int .u32 651767980), .lit (.int .u32 1994146192), .lit (.int .u32 1802195444), .lit (.int .u32 1303535960), .lit (.int .u32 1342533948), .lit (.int .u32 3988292384), .lit (.int .u32 4027552580), .lit (.int .u32 3604390888), .lit (.int .u32 3412177804), .lit (.int .u32 2607071920), .lit (.int .u32 2262029012), .lit (.int .u32 2685067896), .lit (.int .u32 3183342108)]

/-- 'skerrylaw03.FrameExact': WHATEVER THE INPUT: true; the input reads as it did. -/
def frameExactSpec : ChangeSpec := { name := "frameExact", fn := fun _ => fun
  | [d1, d2] => { results := [.lit (.bool true)], args := [d1, d2] }
  | _ => none }
def frameExactRow : OpenClaim := { program := "ytfbibmdjahfneaadoor", sum := "08b2db912d2c4fdd27d2f270ba39e041f84bd2c3e253d145ac839fd821a16ccf", func := "skerry/skerrylaw03.FrameExact", spec := "frameExact", named := ["skerry/frame.halves"], apart := false, laid := [("skerry/frame.halves", laid_skerry_frame_halves)] }
def FrameExactSaid : Prop := frameExactRow.holds Tryd.pinned (OpenSpec.ofChange frameExactSpec)

/-- ITS FALSE NEIGHBOUR: 'it returns false'. Refute it at one input. -/
def frameExactWrong : ChangeSpec := { name := "frameExact", fn := fun _ => fun
  | [d1, d2] => { results := [.lit (.bool false)], args := [d1, d2] }
  | _ => none }
def FrameExactWrongFalsely : Prop := frameExactRow.holds Tryd.pinned (OpenSpec.ofChange frameExactWrong)

/-- 'skerrylaw03.FrameBack': WHATEVER THE INPUT: true; the input reads as it did. -/
def frameBackSpec : ChangeSpec := { name := "frameBack", fn := fun _ => fun
  | [d1, d2] => { results := [.lit (.bool true)], args := [d1, d2] }
  | _ => none }
def frameBackRow : OpenClaim := { program := "ytfbibmdjahfneaadoor", sum := "08b2db912d2c4fdd27d2f270ba39e041f84bd2c3e253d145ac839fd821a16ccf", func := "skerry/skerrylaw03.FrameBack", spec := "frameBack", named := ["skerry/frame.halves"], apart := false, laid := [("skerry/frame.halves", laid_skerry_frame_halves)] }
def FrameBackSaid : Prop := frameBackRow.holds Tryd.pinned (OpenSpec.ofChange frameBackSpec)

/-- ITS FALSE NEIGHBOUR: 'it returns false'. Refute it at one input. -/
def frameBackWrong : ChangeSpec := { name := "frameBack", fn := fun _ => fun
  | [d1, d2] => { results := [.lit (.bool false)], args := [d1, d2] }
  | _ => none }
def FrameBackWrongFalsely : Prop := frameBackRow.holds Tryd.pinned (OpenSpec.ofChange frameBackWrong)

/-- 'skerrylaw03.FrameCuts': WHATEVER THE INPUT: true; the input reads as it did. -/
def frameCutsSpec : ChangeSpec := { name := "frameCuts", fn := fun _ => fun
  | [d1, d2] => { results := [.lit (.bool true)], args := [d1, d2] }
  | _ => none }
def frameCutsRow : OpenClaim := { program := "ytfbibmdjahfneaadoor", sum := "08b2db912d2c4fdd27d2f270ba39e041f84bd2c3e253d145ac839fd821a16ccf", func := "skerry/skerrylaw03.FrameCuts", spec := "frameCuts", named := ["skerry/frame.halves"], apart := false, laid := [("skerry/frame.halves", laid_skerry_frame_halves)] }
def FrameCutsSaid : Prop := frameCutsRow.holds Tryd.pinned (OpenSpec.ofChange frameCutsSpec)

/-- ITS FALSE NEIGHBOUR: 'it returns false'. Refute it at one input. -/
def frameCutsWrong : ChangeSpec := { name := "frameCuts", fn := fun _ => fun
  | [d1, d2] => { results := [.lit (.bool false)], args := [d1, d2] }
  | _ => none }
def FrameCutsWrongFalsely : Prop := frameCutsRow.holds Tryd.pinned (OpenSpec.ofChange frameCutsWrong)

/-- 'skerrylaw03.FrameSpoilt': WHATEVER THE INPUT: true; the input reads as it did. -/
def frameSpoiltSpec : ChangeSpec := { name := "frameSpoilt", fn := fun _ => fun
  | [d1, d2, d3, d4] => { results := [.lit (.bool true)], args := [d1, d2, d3, d4] }
  | _ => none }
def frameSpoiltRow : OpenClaim := { program := "ytfbibmdjahfneaadoor", sum := "08b2db912d2c4fdd27d2f270ba39e041f84bd2c3e253d145ac839fd821a16ccf", func := "skerry/skerrylaw03.FrameSpoilt", spec := "frameSpoilt", named := ["skerry/frame.halves"], apart := false, laid := [("skerry/frame.halves", laid_skerry_frame_halves)] }
def FrameSpoiltSaid : Prop := frameSpoiltRow.holds Tryd.pinned (OpenSpec.ofChange frameSpoiltSpec)

/-- ITS FALSE NEIGHBOUR: 'it returns false'. Refute it at one input. -/
def frameSpoiltWrong : ChangeSpec := { name := "frameSpoilt", fn := fun _ => fun
  | [d1, d2, d3, d4] => { results := [.lit (.bool false)], args := [d1, d2, d3, d4] }
  | _ => none }
def FrameSpoiltWrongFalsely : Prop := frameSpoiltRow.holds Tryd.pinned (OpenSpec.ofChange frameSpoiltWrong)

/-- 'skerrylaw03.FrameUnlike': WHATEVER THE INPUT: true; the input reads as it did. -/
def frameUnlikeSpec : ChangeSpec := { name := "frameUnlike", fn := fun _ => fun
  | [d1, d2] => { results := [.lit (.bool true)], args := [d1, d2] }
  | _ => none }
def frameUnlikeRow : OpenClaim := { program := "ytfbibmdjahfneaadoor", sum := "08b2db912d2c4fdd27d2f270ba39e041f84bd2c3e253d145ac839fd821a16ccf", func := "skerry/skerrylaw03.FrameUnlike", spec := "frameUnlike", named := ["skerry/frame.halves"], apart := false, laid := [("skerry/frame.halves", laid_skerry_frame_halves)] }
def FrameUnlikeSaid : Prop := frameUnlikeRow.holds Tryd.pinned (OpenSpec.ofChange frameUnlikeSpec)

/-- ITS FALSE NEIGHBOUR: 'it returns false'. Refute it at one input. -/
def frameUnlikeWrong : ChangeSpec := { name := "frameUnlike", fn := fun _ => fun
  | [d1, d2] => { results := [.lit (.bool false)], args := [d1, d2] }
  | _ => none }
def FrameUnlikeWrongFalsely : Prop := frameUnlikeRow.holds Tryd.pinned (OpenSpec.ofChange frameUnlikeWrong)

/-- 'skerrylaw03.FrameEnds': WHATEVER THE INPUT: true; the input reads as it did. -/
def frameEndsSpec : ChangeSpec := { name := "frameEnds", fn := fun _ => fun
  | [d1, d2] => { results := [.lit (.bool true)], args := [d1, d2] }
  | _ => none }
def frameEndsRow : OpenClaim := { program := "ytfbibmdjahfneaadoor", sum := "08b2db912d2c4fdd27d2f270ba39e041f84bd2c3e253d145ac839fd821a16ccf", func := "skerry/skerrylaw03.FrameEnds", spec := "frameEnds", named := ["skerry/frame.halves"], apart := false, laid := [("skerry/frame.halves", laid_skerry_frame_halves)] }
def FrameEndsSaid : Prop := frameEndsRow.holds Tryd.pinned (OpenSpec.ofChange frameEndsSpec)

/-- ITS FALSE NEIGHBOUR: 'it returns false'. Refute it at one input. -/
def frameEndsWrong : ChangeSpec := { name := "frameEnds", fn := fun _ => fun
  | [d1, d2] => { results := [.lit (.bool false)], args := [d1, d2] }
  | _ => none }
def FrameEndsWrongFalsely : Prop := frameEndsRow.holds Tryd.pinned (OpenSpec.ofChange frameEndsWrong)

/-- 'skerrylaw03.FrameRows': WHATEVER THE INPUT: true; the input reads as it did. -/
def frameRowsSpec : ChangeSpec := { name := "frameRows", fn := fun _ => fun
  | [d1, d2, d3] => { results := [.lit (.bool true)], args := [d1, d2, d3] }
  | _ => none }
def frameRowsRow : OpenClaim := { program := "ytfbibmdjahfneaadoor", sum := "08b2db912d2c4fdd27d2f270ba39e041f84bd2c3e253d145ac839fd821a16ccf", func := "skerry/skerrylaw03.FrameRows", spec := "frameRows", named := ["skerry/frame.halves"], apart := false, laid := [("skerry/frame.halves", laid_skerry_frame_halves)] }
def FrameRowsSaid : Prop := frameRowsRow.holds Tryd.pinned (OpenSpec.ofChange frameRowsSpec)

/-- ITS FALSE NEIGHBOUR: 'it returns false'. Refute it at one input. -/
def frameRowsWrong : ChangeSpec := { name := "frameRows", fn := fun _ => fun
  | [d1, d2, d3] => { results := [.lit (.bool false)], args := [d1, d2, d3] }
  | _ => none }
def FrameRowsWrongFalsely : Prop := frameRowsRow.holds Tryd.pinned (OpenSpec.ofChange frameRowsWrong)

/- THE SECOND FORM. 'bulk': how many values and letters a reading holds, each counted each time it is reached (what is shared counts as often as it is met; a slice's spare places count too). A statement '..UptoSaid' is the law's where the arguments, and the package variables that the reading takes, are together of bulk at most 1048576: NARROWER than '..Said'. Prove '..Said' where nothing that the law and all that it calls make is longer than what came in: it says more and counts as full. Else prove '..UptoSaid'. A law counts once. -/
mutual
def uptoBulk {H : Type} : DataW H → Nat
  | .lit (.string bytes) => bytes.length + 1
  | .lit _ => 1
  | .nil => 1
  | .ptr d => uptoBulk d + 1
  | .slice elems spare => uptoBulkAll elems + uptoBulkAll spare + 1
  | .agg parts => uptoBulkAll parts + 1
  | .iface _ d => uptoBulk d + 1
  | .map entries => uptoBulkEntries entries + 1
  | .held _ => 1
def uptoBulkAll {H : Type} : List (DataW H) → Nat
  | [] => 0
  | d :: r => uptoBulk d + uptoBulkAll r
def uptoBulkEntries {H : Type} : List (Lit × DataW H) → Nat
  | [] => 0
  | x :: r => uptoBulkEntry x + uptoBulkEntries r
def uptoBulkEntry {H : Type} : Lit × DataW H → Nat
  | (.string bytes, d) => bytes.length + uptoBulk d + 1
  | (_, d) => uptoBulk d + 1
 end
def uptoSmall : (H : Type) → List (DataW H) → Bool := fun _ ds => decide (uptoBulkAll ds ≤ 1048576)
def OpenSpec.upto (s : _root_.Go.ChangeSpec) : _root_.Go.OpenSpec := { _root_.Go.OpenSpec.ofChange s with cond := some uptoSmall }

/-- 'skerrylaw03.FrameExact', WHERE WHAT IT READS IS OF BULK AT MOST 1048576: true; the input reads as it did. -/
def frameExactUptoRow : OpenClaim := { program := "ytfbibmdjahfneaadoor", sum := "08b2db912d2c4fdd27d2f270ba39e041f84bd2c3e253d145ac839fd821a16ccf", func := "skerry/skerrylaw03.FrameExact", spec := "frameExact", named := ["skerry/frame.halves"], apart := false, laid := [("skerry/frame.halves", laid_skerry_frame_halves)], narrowed := true }
def FrameExactUptoSaid : Prop := frameExactUptoRow.holds Tryd.pinned (OpenSpec.upto frameExactSpec)

/-- 'skerrylaw03.FrameBack', WHERE WHAT IT READS IS OF BULK AT MOST 1048576: true; the input reads as it did. -/
def frameBackUptoRow : OpenClaim := { program := "ytfbibmdjahfneaadoor", sum := "08b2db912d2c4fdd27d2f270ba39e041f84bd2c3e253d145ac839fd821a16ccf", func := "skerry/skerrylaw03.FrameBack", spec := "frameBack", named := ["skerry/frame.halves"], apart := false, laid := [("skerry/frame.halves", laid_skerry_frame_halves)], narrowed := true }
def FrameBackUptoSaid : Prop := frameBackUptoRow.holds Tryd.pinned (OpenSpec.upto frameBackSpec)

/-- 'skerrylaw03.FrameCuts', WHERE WHAT IT READS IS OF BULK AT MOST 1048576: true; the input reads as it did. -/
def frameCutsUptoRow : OpenClaim := { program := "ytfbibmdjahfneaadoor", sum := "08b2db912d2c4fdd27d2f270ba39e041f84bd2c3e253d145ac839fd821a16ccf", func := "skerry/skerrylaw03.FrameCuts", spec := "frameCuts", named := ["skerry/frame.halves"], apart := false, laid := [("skerry/frame.halves", laid_skerry_frame_halves)], narrowed := true }
def FrameCutsUptoSaid : Prop := frameCutsUptoRow.holds Tryd.pinned (OpenSpec.upto frameCutsSpec)

/-- 'skerrylaw03.FrameSpoilt', WHERE WHAT IT READS IS OF BULK AT MOST 1048576: true; the input reads as it did. -/
def frameSpoiltUptoRow : OpenClaim := { program := "ytfbibmdjahfneaadoor", sum := "08b2db912d2c4fdd27d2f270ba39e041f84bd2c3e253d145ac839fd821a16ccf", func := "skerry/skerrylaw03.FrameSpoilt", spec := "frameSpoilt", named := ["skerry/frame.halves"], apart := false, laid := [("skerry/frame.halves", laid_skerry_frame_halves)], narrowed := true }
def FrameSpoiltUptoSaid : Prop := frameSpoiltUptoRow.holds Tryd.pinned (OpenSpec.upto frameSpoiltSpec)

/-- 'skerrylaw03.FrameUnlike', WHERE WHAT IT READS IS OF BULK AT MOST 1048576: true; the input reads as it did. -/
def frameUnlikeUptoRow : OpenClaim := { program := "ytfbibmdjahfneaadoor", sum := "08b2db912d2c4fdd27d2f270ba39e041f84bd2c3e253d145ac839fd821a16ccf", func := "skerry/skerrylaw03.FrameUnlike", spec := "frameUnlike", named := ["skerry/frame.halves"], apart := false, laid := [("skerry/frame.halves", laid_skerry_frame_halves)], narrowed := true }
def FrameUnlikeUptoSaid : Prop := frameUnlikeUptoRow.holds Tryd.pinned (OpenSpec.upto frameUnlikeSpec)

/-- 'skerrylaw03.FrameEnds', WHERE WHAT IT READS IS OF BULK AT MOST 1048576: true; the input reads as it did. -/
def frameEndsUptoRow : OpenClaim := { program := "ytfbibmdjahfneaadoor", sum := "08b2db912d2c4fdd27d2f270ba39e041f84bd2c3e253d145ac839fd821a16ccf", func := "skerry/skerrylaw03.FrameEnds", spec := "frameEnds", named := ["skerry/frame.halves"], apart := false, laid := [("skerry/frame.halves", laid_skerry_frame_halves)], narrowed := true }
def FrameEndsUptoSaid : Prop := frameEndsUptoRow.holds Tryd.pinned (OpenSpec.upto frameEndsSpec)

/-- 'skerrylaw03.FrameRows', WHERE WHAT IT READS IS OF BULK AT MOST 1048576: true; the input reads as it did. -/
def frameRowsUptoRow : OpenClaim := { program := "ytfbibmdjahfneaadoor", sum := "08b2db912d2c4fdd27d2f270ba39e041f84bd2c3e253d145ac839fd821a16ccf", func := "skerry/skerrylaw03.FrameRows", spec := "frameRows", named := ["skerry/frame.halves"], apart := false, laid := [("skerry/frame.halves", laid_skerry_frame_halves)], narrowed := true }
def FrameRowsUptoSaid : Prop := frameRowsUptoRow.holds Tryd.pinned (OpenSpec.upto frameRowsSpec)

end Rows
end Go.Proofs.YtfbibmdjahfneaaDoor
