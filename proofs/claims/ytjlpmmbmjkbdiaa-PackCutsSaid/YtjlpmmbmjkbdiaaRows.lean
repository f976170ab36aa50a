/-
  No cell of these rows narrows 'for every input' (looked for: loops, veiled, ifaces, maps, wideKeys, modest, calm, conditions, laid).
  DERIVED. THE GIVEN ROWS OF THIS SEAT. 6 by the template 'for every input the law returns true; each argument reads behind the call as it read before'; 0 by the template 'total and deterministic' (their statements: YtjlpmmbmjkbdiaaTotals.lean).
  GIVEN WITH THE SEED: the statements are not yours to turn. If you find one false, say at which input.
  Laid BY PROGRAM, IN A SANDBOX (cutbox-rows.mjs): the forced cells as the released guide's own fill.sh prints them over the translation 5c58e42d5a468722… (all of the seat's roots in one cut). By AI agents, Wed Nov 11 2026. No macro, syntax, notation, axiom, sorry.
-/
import Derived.Test.YtjlpmmbmjkbdiaaChecked
import GoSem.Claim
import GoSem.ClaimJoined
import GoSem.ClaimMapViews
import Derived.JoinedTies
import Derived.KernelRfl
namespace Go.Proofs.Ytjlpmmbmjkbdiaa
/- THE CELL 'sum', in the pinned program and in every row, IS THE sha256 OF THE DUMP (.gsa) THAT YtjlpmmbmjkbdiaaProg.lean LOADS. Nothing in Lean hashes anything: it is a label: what it is worth is what the hold of that sum in a sandbox is worth. -/
noncomputable def Try.pinned : Pinned := { name := "ytjlpmmbmjkbdiaa", sum := "5c58e42d5a468722ff484e591e140715e921d68a906abe1c6de62827ab376c7d", checked := Try.checked }
namespace Rows
def none {H : Type} : Left H := { results := [], args := [] }

/-- 'skerrylaw02.PackWrites': WHATEVER THE INPUT: true; the input reads as it did. -/
def packWritesSpec : ChangeSpec := { name := "packWrites", fn := fun _ => fun
  | [d] => { results := [.lit (.bool true)], args := [d] }
  | _ => none }
def packWritesRow : OpenClaim := { program := "ytjlpmmbmjkbdiaa", sum := "5c58e42d5a468722ff484e591e140715e921d68a906abe1c6de62827ab376c7d", func := "skerry/skerrylaw02.PackWrites", spec := "packWrites", inPlace := ["math.Float64frombits", "math.Float64bits"], apart := false }
def PackWritesSaid : Prop := packWritesRow.holds Try.pinned (OpenSpec.ofChange packWritesSpec)

/-- ITS FALSE NEIGHBOUR: 'it returns false'. Refute it at one input. -/
def packWritesWrong : ChangeSpec := { name := "packWrites", fn := fun _ => fun
  | [d] => { results := [.lit (.bool false)], args := [d] }
  | _ => none }
def PackWritesWrongFalsely : Prop := packWritesRow.holds Try.pinned (OpenSpec.ofChange packWritesWrong)

/-- 'skerrylaw02.PackBack': WHATEVER THE INPUT: true; the input reads as it did. -/
def packBackSpec : ChangeSpec := { name := "packBack", fn := fun _ => fun
  | [d] => { results := [.lit (.bool true)], args := [d] }
  | _ => none }
def packBackRow : OpenClaim := { program := "ytjlpmmbmjkbdiaa", sum := "5c58e42d5a468722ff484e591e140715e921d68a906abe1c6de62827ab376c7d", func := "skerry/skerrylaw02.PackBack", spec := "packBack", inPlace := ["math.Float64frombits", "math.Float64bits"], apart := false }
def PackBackSaid : Prop := packBackRow.holds Try.pinned (OpenSpec.ofChange packBackSpec)

/-- ITS FALSE NEIGHBOUR: 'it returns false'. Refute it at one input. -/
def packBackWrong : ChangeSpec := { name := "packBack", fn := fun _ => fun
  | [d] => { results := [.lit (.bool false)], args := [d] }
  | _ => none }
def PackBackWrongFalsely : Prop := packBackRow.holds Try.pinned (OpenSpec.ofChange packBackWrong)

/-- 'skerrylaw02.PackOnly': WHATEVER THE INPUT: true; the input reads as it did. -/
def packOnlySpec : ChangeSpec := { name := "packOnly", fn := fun _ => fun
  | [d1, d2] => { results := [.lit (.bool true)], args := [d1, d2] }
  | _ => none }
def packOnlyRow : OpenClaim := { program := "ytjlpmmbmjkbdiaa", sum := "5c58e42d5a468722ff484e591e140715e921d68a906abe1c6de62827ab376c7d", func := "skerry/skerrylaw02.PackOnly", spec := "packOnly", inPlace := ["math.Float64frombits", "math.Float64bits"], apart := false }
def PackOnlySaid : Prop := packOnlyRow.holds Try.pinned (OpenSpec.ofChange packOnlySpec)

/-- ITS FALSE NEIGHBOUR: 'it returns false'. Refute it at one input. -/
def packOnlyWrong : ChangeSpec := { name := "packOnly", fn := fun _ => fun
  | [d1, d2] => { results := [.lit (.bool false)], args := [d1, d2] }
  | _ => none }
def PackOnlyWrongFalsely : Prop := packOnlyRow.holds Try.pinned (OpenSpec.ofChange packOnlyWrong)

/-- 'skerrylaw02.PackCuts': WHATEVER THE INPUT: true; the input reads as it did. -/
def packCutsSpec : ChangeSpec := { name := "packCuts", fn := fun _ => fun
  | [d1, d2, d3] => { results := [.lit (.bool true)], args := [d1, d2, d3] }
  | _ => none }
def packCutsRow : OpenClaim := { program := "ytjlpmmbmjkbdiaa", sum := "5c58e42d5a468722ff484e591e140715e921d68a906abe1c6de62827ab376c7d", func := "skerry/skerrylaw02.PackCuts", spec := "packCuts", inPlace := ["math.Float64frombits", "math.Float64bits"], apart := false }
def PackCutsSaid : Prop := packCutsRow.holds Try.pinned (OpenSpec.ofChange packCutsSpec)

/-- ITS FALSE NEIGHBOUR: 'it returns false'. Refute it at one input. -/
def packCutsWrong : ChangeSpec := { name := "packCuts", fn := fun _ => fun
  | [d1, d2, d3] => { results := [.lit (.bool false)], args := [d1, d2, d3] }
  | _ => none }
def PackCutsWrongFalsely : Prop := packCutsRow.holds Try.pinned (OpenSpec.ofChange packCutsWrong)

/-- 'skerrylaw02.PackFloats': WHATEVER THE INPUT: true; the input reads as it did. -/
def packFloatsSpec : ChangeSpec := { name := "packFloats", fn := fun _ => fun
  | [d1, d2] => { results := [.lit (.bool true)], args := [d1, d2] }
  | _ => none }
def packFloatsRow : OpenClaim := { program := "ytjlpmmbmjkbdiaa", sum := "5c58e42d5a468722ff484e591e140715e921d68a906abe1c6de62827ab376c7d", func := "skerry/skerrylaw02.PackFloats", spec := "packFloats", inPlace := ["math.Float64frombits", "math.Float64bits"], apart := false }
def PackFloatsSaid : Prop := packFloatsRow.holds Try.pinned (OpenSpec.ofChange packFloatsSpec)

/-- ITS FALSE NEIGHBOUR: 'it returns false'. Refute it at one input. -/
def packFloatsWrong : ChangeSpec := { name := "packFloats", fn := fun _ => fun
  | [d1, d2] => { results := [.lit (.bool false)], args := [d1, d2] }
  | _ => none }
def PackFloatsWrongFalsely : Prop := packFloatsRow.holds Try.pinned (OpenSpec.ofChange packFloatsWrong)

/-- 'skerrylaw02.PackSticks': WHATEVER THE INPUT: true; the input reads as it did. -/
def packSticksSpec : ChangeSpec := { name := "packSticks", fn := fun _ => fun
  | [d1, d2] => { results := [.lit (.bool true)], args := [d1, d2] }
  | _ => none }
def packSticksRow : OpenClaim := { program := "ytjlpmmbmjkbdiaa", sum := "5c58e42d5a468722ff484e591e140715e921d68a906abe1c6de62827ab376c7d", func := "skerry/skerrylaw02.PackSticks", spec := "packSticks", inPlace := ["math.Float64frombits", "math.Float64bits"], apart := false }
def PackSticksSaid : Prop := packSticksRow.holds Try.pinned (OpenSpec.ofChange packSticksSpec)

/-- ITS FALSE NEIGHBOUR: 'it returns false'. Refute it at one input. -/
def packSticksWrong : ChangeSpec := { name := "packSticks", fn := fun _ => fun
  | [d1, d2] => { results := [.lit (.bool false)], args := [d1, d2] }
  | _ => none }
def PackSticksWrongFalsely : Prop := packSticksRow.holds Try.pinned (OpenSpec.ofChange packSticksWrong)

/- THE SECOND FORM. 'bulk': how many values and letters a reading holds, each counted each time it is reached (what is shared counts as often as it is met; a slice's spare places count too). A statement '..UptoSaid' is the law's where the arguments, and the package variables that the reading takes, are together of bulk at most 1048576: NARROWER than '..Said'. Prove '..Said' where nothing that the law and all that it calls make is longer than what came in: it says more and counts as full. Else prove '..UptoSaid'. A law counts once. -/
mutual
def uptoBulk {H : Type} : DataW H → Nat
  | .lit (.string bytes) => bytes.length + 1
  | .lit _ => 1
  | .nil => 1
  | .ptr d => uptoBulk d + 1
  | .slice elems spare => uptoBulkAll elems + uptoBulkAll spare + 1
  | .agg parts => uptoBulkAll parts + 1
  | .iface _ d => uptoBulk d + 1
  | .map entries => uptoBulkEntries entries + 1
  | .held _ => 1
def uptoBulkAll {H : Type} : List (DataW H) → Nat
  | [] => 0
  | d :: r => uptoBulk d + uptoBulkAll r
def uptoBulkEntries {H : Type} : List (Lit × DataW H) → Nat
  | [] => 0
  | x :: r => uptoBulkEntry x + uptoBulkEntries r
def uptoBulkEntry {H : Type} : Lit × DataW H → Nat
  | (.string bytes, d) => bytes.length + uptoBulk d + 1
  | (_, d) => uptoBulk d + 1
 end
def uptoSmall : (H : Type) → List (DataW H) → Bool := fun _ ds => decide (uptoBulkAll ds ≤ 1048576)
def OpenSpec.upto (s : _root_.Go.ChangeSpec) : _root_.Go.OpenSpec := { _root_.Go.OpenSpec.ofChange s with cond := some uptoSmall }

/-- 'skerrylaw02.PackWrites', WHERE WHAT IT READS IS OF BULK AT MOST 1048576: true; the input reads as it did. -/
def packWritesUptoRow : OpenClaim := { program := "ytjlpmmbmjkbdiaa", sum := "5c58e42d5a468722ff484e591e140715e921d68a906abe1c6de62827ab376c7d", func := "skerry/skerrylaw02.PackWrites", spec := "packWrites", inPlace := ["math.Float64frombits", "math.Float64bits"], apart := false, narrowed := true }
def PackWritesUptoSaid : Prop := packWritesUptoRow.holds Try.pinned (OpenSpec.upto packWritesSpec)

/-- 'skerrylaw02.PackBack', WHERE WHAT IT READS IS OF BULK AT MOST 1048576: true; the input reads as it did. -/
def packBackUptoRow : OpenClaim := { program := "ytjlpmmbmjkbdiaa", sum := "5c58e42d5a468722ff484e591e140715e921d68a906abe1c6de62827ab376c7d", func := "skerry/skerrylaw02.PackBack", spec := "packBack", inPlace := ["math.Float64frombits", "math.Float64bits"], apart := false, narrowed := true }
def PackBackUptoSaid : Prop := packBackUptoRow.holds Try.pinned (OpenSpec.upto packBackSpec)

/-- 'skerrylaw02.PackOnly', WHERE WHAT IT READS IS OF BULK AT MOST 1048576: true; the input reads as it did. -/
def packOnlyUptoRow : OpenClaim := { program := "ytjlpmmbmjkbdiaa", sum := "5c58e42d5a468722ff484e591e140715e921d68a906abe1c6de62827ab376c7d", func := "skerry/skerrylaw02.PackOnly", spec := "packOnly", inPlace := ["math.Float64frombits", "math.Float64bits"], apart := false, narrowed := true }
def PackOnlyUptoSaid : Prop := packOnlyUptoRow.holds Try.pinned (OpenSpec.upto packOnlySpec)

/-- 'skerrylaw02.PackCuts', WHERE WHAT IT READS IS OF BULK AT MOST 1048576: true; the input reads as it did. -/
def packCutsUptoRow : OpenClaim := { program := "ytjlpmmbmjkbdiaa", sum := "5c58e42d5a468722ff484e591e140715e921d68a906abe1c6de62827ab376c7d", func := "skerry/skerrylaw02.PackCuts", spec := "packCuts", inPlace := ["math.Float64frombits", "math.Float64bits"], apart := false, narrowed := true }
def PackCutsUptoSaid : Prop := packCutsUptoRow.holds Try.pinned (OpenSpec.upto packCutsSpec)

/-- 'skerrylaw02.PackFloats', WHERE WHAT IT READS IS OF BULK AT MOST 1048576: true; the input reads as it did. -/
def packFloatsUptoRow : OpenClaim := { program := "ytjlpmmbmjkbdiaa", sum := "5c58e42d5a468722ff484e591e140715e921d68a906abe1c6de62827ab376c7d", func := "skerry/skerrylaw02.PackFloats", spec := "packFloats", inPlace := ["math.Float64frombits", "math.Float64bits"], apart := false, narrowed := true }
def PackFloatsUptoSaid : Prop := packFloatsUptoRow.holds Try.pinned (OpenSpec.upto packFloatsSpec)

/-- 'skerrylaw02.PackSticks', WHERE WHAT IT READS IS OF BULK AT MOST 1048576: true; the input reads as it did. -/
def packSticksUptoRow : OpenClaim := { program := "ytjlpmmbmjkbdiaa", sum := "5c58e42d5a468722ff484e591e140715e921d68a906abe1c6de62827ab376c7d", func := "skerry/skerrylaw02.PackSticks", spec := "packSticks", inPlace := ["math.Float64frombits", "math.Float64bits"], apart := false, narrowed := true }
def PackSticksUptoSaid : Prop := packSticksUptoRow.holds Try.pinned (OpenSpec.upto packSticksSpec)

end Rows
end Go.Proofs.Ytjlpmmbmjkbdiaa
