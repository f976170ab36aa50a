/-
  No cell of these rows narrows 'for every input' (looked for: loops, veiled, ifaces, maps, wideKeys, modest, calm, conditions, laid).
  DERIVED. THE GIVEN ROWS OF THIS SEAT. 8 by the template 'for every input the law returns true; each argument reads behind the call as it read before'; 0 by the template 'total and deterministic' (their statements: YtilebpenfdgdmaaTotals.lean).
  GIVEN WITH THE SEED: the statements are not yours to turn. If you find one false, say at which input.
  Laid BY PROGRAM, IN A SANDBOX (cutbox-rows.mjs): the forced cells as the released guide's own fill.sh prints them over the translation 45cb2ba912abe2eb… (all of the seat's roots in one cut). By AI agents, Wed Nov 11 2026. No macro, syntax, notation, axiom, sorry.
-/
import Derived.Test.YtilebpenfdgdmaaChecked
import GoSem.Claim
import GoSem.ClaimJoined
import GoSem.ClaimMapViews
import Derived.JoinedTies
import Derived.KernelRfl
namespace Go.Proofs.Ytilebpenfdgdmaa
/- THE CELL 'sum', in the pinned program and in every row, IS THE sha256 OF THE DUMP (.gsa) THAT YtilebpenfdgdmaaProg.lean LOADS. Nothing in Lean hashes anything: it is a label: what it is worth is what the hold of that sum in a sandbox is worth. -/
noncomputable def Try.pinned : Pinned := { name := "ytilebpenfdgdmaa", sum := "45cb2ba912abe2ebc99013532ca638af9125b474cbc4f2a9ce4026ee67431f24", checked := Try.checked }
namespace Rows
def none {H : Type} : Left H := { results := [], args := [] }

/-- 'skerrylaw06.KvExact': WHATEVER THE INPUT: true; the input reads as it did. -/
def kvExactSpec : ChangeSpec := { name := "kvExact", fn := fun _ => fun
  | [d1, d2, d3] => { results := [.lit (.bool true)], args := [d1, d2, d3] }
  | _ => none }
def kvExactRow : OpenClaim := { program := "ytilebpenfdgdmaa", sum := "45cb2ba912abe2ebc99013532ca638af9125b474cbc4f2a9ce4026ee67431f24", func := "skerry/skerrylaw06.KvExact", spec := "kvExact", inPlace := ["math.Float64frombits", "math.Float64bits", "internal/bytealg.abigen_runtime_cmpstring"], unfollowed := true, recurses := true, apart := false }
def KvExactSaid : Prop := kvExactRow.holds Try.pinned (OpenSpec.ofChange kvExactSpec)

/-- ITS FALSE NEIGHBOUR: 'it returns false'. Refute it at one input. -/
def kvExactWrong : ChangeSpec := { name := "kvExact", fn := fun _ => fun
  | [d1, d2, d3] => { results := [.lit (.bool false)], args := [d1, d2, d3] }
  | _ => none }
def KvExactWrongFalsely : Prop := kvExactRow.holds Try.pinned (OpenSpec.ofChange kvExactWrong)

/-- 'skerrylaw06.KvSound': WHATEVER THE INPUT: true; the input reads as it did. -/
def kvSoundSpec : ChangeSpec := { name := "kvSound", fn := fun _ => fun
  | [d] => { results := [.lit (.bool true)], args := [d] }
  | _ => none }
def kvSoundRow : OpenClaim := { program := "ytilebpenfdgdmaa", sum := "45cb2ba912abe2ebc99013532ca638af9125b474cbc4f2a9ce4026ee67431f24", func := "skerry/skerrylaw06.KvSound", spec := "kvSound", inPlace := ["math.Float64frombits", "math.Float64bits", "internal/bytealg.abigen_runtime_cmpstring"], unfollowed := true, recurses := true, apart := false }
def KvSoundSaid : Prop := kvSoundRow.holds Try.pinned (OpenSpec.ofChange kvSoundSpec)

/-- ITS FALSE NEIGHBOUR: 'it returns false'. Refute it at one input. -/
def kvSoundWrong : ChangeSpec := { name := "kvSound", fn := fun _ => fun
  | [d] => { results := [.lit (.bool false)], args := [d] }
  | _ => none }
def KvSoundWrongFalsely : Prop := kvSoundRow.holds Try.pinned (OpenSpec.ofChange kvSoundWrong)

/-- 'skerrylaw06.KvOthers': WHATEVER THE INPUT: true; the input reads as it did. -/
def kvOthersSpec : ChangeSpec := { name := "kvOthers", fn := fun _ => fun
  | [d1, d2, d3] => { results := [.lit (.bool true)], args := [d1, d2, d3] }
  | _ => none }
def kvOthersRow : OpenClaim := { program := "ytilebpenfdgdmaa", sum := "45cb2ba912abe2ebc99013532ca638af9125b474cbc4f2a9ce4026ee67431f24", func := "skerry/skerrylaw06.KvOthers", spec := "kvOthers", inPlace := ["math.Float64bits", "math.Float64frombits", "internal/bytealg.abigen_runtime_cmpstring"], unfollowed := true, recurses := true, apart := false }
def KvOthersSaid : Prop := kvOthersRow.holds Try.pinned (OpenSpec.ofChange kvOthersSpec)

/-- ITS FALSE NEIGHBOUR: 'it returns false'. Refute it at one input. -/
def kvOthersWrong : ChangeSpec := { name := "kvOthers", fn := fun _ => fun
  | [d1, d2, d3] => { results := [.lit (.bool false)], args := [d1, d2, d3] }
  | _ => none }
def KvOthersWrongFalsely : Prop := kvOthersRow.holds Try.pinned (OpenSpec.ofChange kvOthersWrong)

/-- 'skerrylaw06.KvPuts': WHATEVER THE INPUT: true; the input reads as it did. -/
def kvPutsSpec : ChangeSpec := { name := "kvPuts", fn := fun _ => fun
  | [d1, d2, d3] => { results := [.lit (.bool true)], args := [d1, d2, d3] }
  | _ => none }
def kvPutsRow : OpenClaim := { program := "ytilebpenfdgdmaa", sum := "45cb2ba912abe2ebc99013532ca638af9125b474cbc4f2a9ce4026ee67431f24", func := "skerry/skerrylaw06.KvPuts", spec := "kvPuts", inPlace := ["math.Float64bits", "math.Float64frombits", "internal/bytealg.abigen_runtime_cmpstring"], unfollowed := true, recurses := true, apart := false }
def KvPutsSaid : Prop := kvPutsRow.holds Try.pinned (OpenSpec.ofChange kvPutsSpec)

/-- ITS FALSE NEIGHBOUR: 'it returns false'. Refute it at one input. -/
def kvPutsWrong : ChangeSpec := { name := "kvPuts", fn := fun _ => fun
  | [d1, d2, d3] => { results := [.lit (.bool false)], args := [d1, d2, d3] }
  | _ => none }
def KvPutsWrongFalsely : Prop := kvPutsRow.holds Try.pinned (OpenSpec.ofChange kvPutsWrong)

/-- 'skerrylaw06.KvCas': WHATEVER THE INPUT: true; the input reads as it did. -/
def kvCasSpec : ChangeSpec := { name := "kvCas", fn := fun _ => fun
  | [d1, d2, d3, d4] => { results := [.lit (.bool true)], args := [d1, d2, d3, d4] }
  | _ => none }
def kvCasRow : OpenClaim := { program := "ytilebpenfdgdmaa", sum := "45cb2ba912abe2ebc99013532ca638af9125b474cbc4f2a9ce4026ee67431f24", func := "skerry/skerrylaw06.KvCas", spec := "kvCas", inPlace := ["math.Float64bits", "math.Float64frombits", "internal/bytealg.abigen_runtime_cmpstring"], unfollowed := true, recurses := true, apart := false }
def KvCasSaid : Prop := kvCasRow.holds Try.pinned (OpenSpec.ofChange kvCasSpec)

/-- ITS FALSE NEIGHBOUR: 'it returns false'. Refute it at one input. -/
def kvCasWrong : ChangeSpec := { name := "kvCas", fn := fun _ => fun
  | [d1, d2, d3, d4] => { results := [.lit (.bool false)], args := [d1, d2, d3, d4] }
  | _ => none }
def KvCasWrongFalsely : Prop := kvCasRow.holds Try.pinned (OpenSpec.ofChange kvCasWrong)

/-- 'skerrylaw06.KvAdds': WHATEVER THE INPUT: true; the input reads as it did. -/
def kvAddsSpec : ChangeSpec := { name := "kvAdds", fn := fun _ => fun
  | [d1, d2, d3, d4] => { results := [.lit (.bool true)], args := [d1, d2, d3, d4] }
  | _ => none }
def kvAddsRow : OpenClaim := { program := "ytilebpenfdgdmaa", sum := "45cb2ba912abe2ebc99013532ca638af9125b474cbc4f2a9ce4026ee67431f24", func := "skerry/skerrylaw06.KvAdds", spec := "kvAdds", inPlace := ["math.Float64bits", "math.Float64frombits", "internal/bytealg.abigen_runtime_cmpstring"], unfollowed := true, recurses := true, apart := false }
def KvAddsSaid : Prop := kvAddsRow.holds Try.pinned (OpenSpec.ofChange kvAddsSpec)

/-- ITS FALSE NEIGHBOUR: 'it returns false'. Refute it at one input. -/
def kvAddsWrong : ChangeSpec := { name := "kvAdds", fn := fun _ => fun
  | [d1, d2, d3, d4] => { results := [.lit (.bool false)], args := [d1, d2, d3, d4] }
  | _ => none }
def KvAddsWrongFalsely : Prop := kvAddsRow.holds Try.pinned (OpenSpec.ofChange kvAddsWrong)

/-- 'skerrylaw06.KvFull': WHATEVER THE INPUT: true; the input reads as it did. -/
def kvFullSpec : ChangeSpec := { name := "kvFull", fn := fun _ => fun
  | [d1, d2] => { results := [.lit (.bool true)], args := [d1, d2] }
  | _ => none }
def kvFullRow : OpenClaim := { program := "ytilebpenfdgdmaa", sum := "45cb2ba912abe2ebc99013532ca638af9125b474cbc4f2a9ce4026ee67431f24", func := "skerry/skerrylaw06.KvFull", spec := "kvFull", inPlace := ["math.Float64bits", "math.Float64frombits", "internal/bytealg.abigen_runtime_cmpstring"], unfollowed := true, recurses := true, apart := false }
def KvFullSaid : Prop := kvFullRow.holds Try.pinned (OpenSpec.ofChange kvFullSpec)

/-- ITS FALSE NEIGHBOUR: 'it returns false'. Refute it at one input. -/
def kvFullWrong : ChangeSpec := { name := "kvFull", fn := fun _ => fun
  | [d1, d2] => { results := [.lit (.bool false)], args := [d1, d2] }
  | _ => none }
def KvFullWrongFalsely : Prop := kvFullRow.holds Try.pinned (OpenSpec.ofChange kvFullWrong)

/-- 'skerrylaw06.KvParts': WHATEVER THE INPUT: true; the input reads as it did. -/
def kvPartsSpec : ChangeSpec := { name := "kvParts", fn := fun _ => fun
  | [d1, d2, d3] => { results := [.lit (.bool true)], args := [d1, d2, d3] }
  | _ => none }
def kvPartsRow : OpenClaim := { program := "ytilebpenfdgdmaa", sum := "45cb2ba912abe2ebc99013532ca638af9125b474cbc4f2a9ce4026ee67431f24", func := "skerry/skerrylaw06.KvParts", spec := "kvParts", inPlace := ["math.Float64bits", "math.Float64frombits", "internal/bytealg.abigen_runtime_cmpstring"], unfollowed := true, recurses := true, apart := false }
def KvPartsSaid : Prop := kvPartsRow.holds Try.pinned (OpenSpec.ofChange kvPartsSpec)

/-- ITS FALSE NEIGHBOUR: 'it returns false'. Refute it at one input. -/
def kvPartsWrong : ChangeSpec := { name := "kvParts", fn := fun _ => fun
  | [d1, d2, d3] => { results := [.lit (.bool false)], args := [d1, d2, d3] }
  | _ => none }
def KvPartsWrongFalsely : Prop := kvPartsRow.holds Try.pinned (OpenSpec.ofChange kvPartsWrong)

/- THE SECOND FORM. 'bulk': how many values and letters a reading holds, each counted each time it is reached (what is shared counts as often as it is met; a slice's spare places count too). A statement '..UptoSaid' is the law's where the arguments, and the package variables that the reading takes, are together of bulk at most 1048576: NARROWER than '..Said'. Prove '..Said' where nothing that the law and all that it calls make is longer than what came in: it says more and counts as full. Else prove '..UptoSaid'. A law counts once. -/
mutual
def uptoBulk {H : Type} : DataW H → Nat
  | .lit (.string bytes) => bytes.length + 1
  | .lit _ => 1
  | .nil => 1
  | .ptr d => uptoBulk d + 1
  | .slice elems spare => uptoBulkAll elems + uptoBulkAll spare + 1
  | .agg parts => uptoBulkAll parts + 1
  | .iface _ d => uptoBulk d + 1
  | .map entries => uptoBulkEntries entries + 1
  | .held _ => 1
def uptoBulkAll {H : Type} : List (DataW H) → Nat
  | [] => 0
  | d :: r => uptoBulk d + uptoBulkAll r
def uptoBulkEntries {H : Type} : List (Lit × DataW H) → Nat
  | [] => 0
  | x :: r => uptoBulkEntry x + uptoBulkEntries r
def uptoBulkEntry {H : Type} : Lit × DataW H → Nat
  | (.string bytes, d) => bytes.length + uptoBulk d + 1
  | (_, d) => uptoBulk d + 1
 end
def uptoSmall : (H : Type) → List (DataW H) → Bool := fun _ ds => decide (uptoBulkAll ds ≤ 1048576)
def OpenSpec.upto (s : _root_.Go.ChangeSpec) : _root_.Go.OpenSpec := { _root_.Go.OpenSpec.ofChange s with cond := some uptoSmall }

/-- 'skerrylaw06.KvExact', WHERE WHAT IT READS IS OF BULK AT MOST 1048576: true; the input reads as it did. -/
def kvExactUptoRow : OpenClaim := { program := "ytilebpenfdgdmaa", sum := "45cb2ba912abe2ebc99013532ca638af9125b474cbc4f2a9ce4026ee67431f24", func := "skerry/skerrylaw06.KvExact", spec := "kvExact", inPlace := ["math.Float64frombits", "math.Float64bits", "internal/bytealg.abigen_runtime_cmpstring"], unfollowed := true, recurses := true, apart := false, narrowed := true }
def KvExactUptoSaid : Prop := kvExactUptoRow.holds Try.pinned (OpenSpec.upto kvExactSpec)

/-- 'skerrylaw06.KvSound', WHERE WHAT IT READS IS OF BULK AT MOST 1048576: true; the input reads as it did. -/
def kvSoundUptoRow : OpenClaim := { program := "ytilebpenfdgdmaa", sum := "45cb2ba912abe2ebc99013532ca638af9125b474cbc4f2a9ce4026ee67431f24", func := "skerry/skerrylaw06.KvSound", spec := "kvSound", inPlace := ["math.Float64frombits", "math.Float64bits", "internal/bytealg.abigen_runtime_cmpstring"], unfollowed := true, recurses := true, apart := false, narrowed := true }
def KvSoundUptoSaid : Prop := kvSoundUptoRow.holds Try.pinned (OpenSpec.upto kvSoundSpec)

/-- 'skerrylaw06.KvOthers', WHERE WHAT IT READS IS OF BULK AT MOST 1048576: true; the input reads as it did. -/
def kvOthersUptoRow : OpenClaim := { program := "ytilebpenfdgdmaa", sum := "45cb2ba912abe2ebc99013532ca638af9125b474cbc4f2a9ce4026ee67431f24", func := "skerry/skerrylaw06.KvOthers", spec := "kvOthers", inPlace := ["math.Float64bits", "math.Float64frombits", "internal/bytealg.abigen_runtime_cmpstring"], unfollowed := true, recurses := true, apart := false, narrowed := true }
def KvOthersUptoSaid : Prop := kvOthersUptoRow.holds Try.pinned (OpenSpec.upto kvOthersSpec)

/-- 'skerrylaw06.KvPuts', WHERE WHAT IT READS IS OF BULK AT MOST 1048576: true; the input reads as it did. -/
def kvPutsUptoRow : OpenClaim := { program := "ytilebpenfdgdmaa", sum := "45cb2ba912abe2ebc99013532ca638af9125b474cbc4f2a9ce4026ee67431f24", func := "skerry/skerrylaw06.KvPuts", spec := "kvPuts", inPlace := ["math.Float64bits", "math.Float64frombits", "internal/bytealg.abigen_runtime_cmpstring"], unfollowed := true, recurses := true, apart := false, narrowed := true }
def KvPutsUptoSaid : Prop := kvPutsUptoRow.holds Try.pinned (OpenSpec.upto kvPutsSpec)

/-- 'skerrylaw06.KvCas', WHERE WHAT IT READS IS OF BULK AT MOST 1048576: true; the input reads as it did. -/
def kvCasUptoRow : OpenClaim := { program := "ytilebpenfdgdmaa", sum := "45cb2ba912abe2ebc99013532ca638af9125b474cbc4f2a9ce4026ee67431f24", func := "skerry/skerrylaw06.KvCas", spec := "kvCas", inPlace := ["math.Float64bits", "math.Float64frombits", "internal/bytealg.abigen_runtime_cmpstring"], unfollowed := true, recurses := true, apart := false, narrowed := true }
def KvCasUptoSaid : Prop := kvCasUptoRow.holds Try.pinned (OpenSpec.upto kvCasSpec)

/-- 'skerrylaw06.KvAdds', WHERE WHAT IT READS IS OF BULK AT MOST 1048576: true; the input reads as it did. -/
def kvAddsUptoRow : OpenClaim := { program := "ytilebpenfdgdmaa", sum := "45cb2ba912abe2ebc99013532ca638af9125b474cbc4f2a9ce4026ee67431f24", func := "skerry/skerrylaw06.KvAdds", spec := "kvAdds", inPlace := ["math.Float64bits", "math.Float64frombits", "internal/bytealg.abigen_runtime_cmpstring"], unfollowed := true, recurses := true, apart := false, narrowed := true }
def KvAddsUptoSaid : Prop := kvAddsUptoRow.holds Try.pinned (OpenSpec.upto kvAddsSpec)

/-- 'skerrylaw06.KvFull', WHERE WHAT IT READS IS OF BULK AT MOST 1048576: true; the input reads as it did. -/
def kvFullUptoRow : OpenClaim := { program := "ytilebpenfdgdmaa", sum := "45cb2ba912abe2ebc99013532ca638af9125b474cbc4f2a9ce4026ee67431f24", func := "skerry/skerrylaw06.KvFull", spec := "kvFull", inPlace := ["math.Float64bits", "math.Float64frombits", "internal/bytealg.abigen_runtime_cmpstring"], unfollowed := true, recurses := true, apart := false, narrowed := true }
def KvFullUptoSaid : Prop := kvFullUptoRow.holds Try.pinned (OpenSpec.upto kvFullSpec)

/-- 'skerrylaw06.KvParts', WHERE WHAT IT READS IS OF BULK AT MOST 1048576: true; the input reads as it did. -/
def kvPartsUptoRow : OpenClaim := { program := "ytilebpenfdgdmaa", sum := "45cb2ba912abe2ebc99013532ca638af9125b474cbc4f2a9ce4026ee67431f24", func := "skerry/skerrylaw06.KvParts", spec := "kvParts", inPlace := ["math.Float64bits", "math.Float64frombits", "internal/bytealg.abigen_runtime_cmpstring"], unfollowed := true, recurses := true, apart := false, narrowed := true }
def KvPartsUptoSaid : Prop := kvPartsUptoRow.holds Try.pinned (OpenSpec.upto kvPartsSpec)

end Rows
end Go.Proofs.Ytilebpenfdgdmaa
