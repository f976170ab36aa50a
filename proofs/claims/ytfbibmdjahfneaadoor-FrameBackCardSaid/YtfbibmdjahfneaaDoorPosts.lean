/- What package frame's functions answer, for their contracts; layer 3's wakes. -/
import Derived.Test.YtfbibmdjahfneaaDoorRefScan
import Derived.Lib.SlBytesConst
namespace Go.Proofs.YtfbibmdjahfneaaDoor.Fr
open Go Go.RowKit Mem Kp
def SealPost (p : List Nat) (w : World) (x : Ending) (w' : World) : Prop :=
  if p.length ≤ 16384 then ∃ b a cap, x = .returned (.tuple #[.slice a (p.length + 9) cap, .int .i64 0]) ∧ OwnB 5 w' b a cap (sealB p) ∧ w.heap.size ≤ b ∧ b ≤ w'.heap.size ∧ Kept None w w'
  else x = .returned (.tuple #[.slice none 0 0, .int .i64 2]) ∧ Kept None w w'
def FindPost (l : List Nat) (w : World) (x : Ending) (w' : World) : Prop := match firstB l with
  | none => x = .returned (.tuple #[.slice none 0 0, .int .i64 0, .int .i64 3]) ∧ Kept None w w'
  | some (p, n) => ∃ b a cap, x = .returned (.tuple #[.slice a p.length cap, .int .i64 n, .int .i64 0]) ∧ OwnB 5 w' b a cap p ∧ w.heap.size ≤ b ∧ b ≤ w'.heap.size ∧ Kept None w w'
/-- each row in a block of its own -/
def Apart (R : List Row) : Prop := R.Pairwise (fun r s => r.a ≠ none → s.a ≠ none → r.b ≠ s.b)
def FramesPost (l : List Nat) (w : World) (x : Ending) (w' : World) : Prop := ∃ b a cap R, x = .returned (.tuple #[.slice a R.length cap, .int .i64 (scanB l).2]) ∧ OwnRows w w' b a cap R ∧ Apart R ∧ bytesOf R = (scanB l).1
theorem sealPost_ok {p : List Nat} {w : World} (h : p.length ≤ 16384) : SealPost p w = fun x w' => ∃ b a cap, x = .returned (.tuple #[.slice a (p.length + 9) cap, .int .i64 0]) ∧ OwnB 5 w' b a cap (sealB p) ∧ w.heap.size ≤ b ∧ b ≤ w'.heap.size ∧ Kept None w w' := by
  funext x w'; unfold SealPost; rw [if_pos h]
theorem sealPost_long {p : List Nat} {w : World} (h : ¬ p.length ≤ 16384) : SealPost p w = fun x w' => x = .returned (.tuple #[.slice none 0 0, .int .i64 2]) ∧ Kept None w w' := by
  funext x w'; unfold SealPost; rw [if_neg h]
theorem findPost_some {l p : List Nat} {n : Nat} {w : World} (h : firstB l = some (p, n)) : FindPost l w = fun x w' => ∃ b a cap, x = .returned (.tuple #[.slice a p.length cap, .int .i64 n, .int .i64 0]) ∧ OwnB 5 w' b a cap p ∧ w.heap.size ≤ b ∧ b ≤ w'.heap.size ∧ Kept None w w' := by
  funext x w'; unfold FindPost; rw [h]
theorem findPost_none {l : List Nat} {w : World} (h : firstB l = none) : FindPost l w = fun x w' => x = .returned (.tuple #[.slice none 0 0, .int .i64 0, .int .i64 3]) ∧ Kept None w w' := by
  funext x w'; unfold FindPost; rw [h]
theorem nine : crc [49, 50, 51, 52, 53, 54, 55, 56, 57] = 3421780262 := by decide +kernel
end Go.Proofs.YtfbibmdjahfneaaDoor.Fr
