/- The walk of layer 3's wakes. -/
import Derived.Test.YtfbibmdjahfneaaDoorCode
namespace Go.Proofs.YtfbibmdjahfneaaDoor.Fr
open Go Go.RowKit Mem Kp
set_option maxHeartbeats 1000000 in
theorem wakes_any (w : World) (hT : Tab w := by first | assumption | exact tabH (by assumption) | exact tabK (by assumption) (by assumption) | exact tabD (by assumption) (by assumption) _) : Calls Tryd.prog 22 #[] w fun e w' => e = .returned (.bool true) ∧ Kept None w w' := by
  have HT := Lib.hid hT
  clear hT
  have kc := fun (w : World) (C : Array Value) (n c : Nat) => Lib.run_convert_bytes_const (P := Tryd.prog) w 22 5 C n c Tryd.underlying22 Tryd.underlying5
  go_enter Tryd.func22, Tryd.ntmps22
  go_wp2_with fail
  refine (Sum_any w.heap.size _ 9 [49, 50, 51, 52, 53, 54, 55, 56, 57] _ (shows_made (heap_alloc_new w _) rfl (Nat.le_refl 9) (by decide)).src (by intro y hy; simp at hy; omega) (by decide) (HT.out.kept ((Kept.refl _ _).alloc _))).mono ?_
  rintro x w' ⟨rfl, rfl⟩
  rw [nine]
  go_wp2
  go_ret
  exact ⟨rfl, (Kept.refl _ _).alloc _⟩
end Go.Proofs.YtfbibmdjahfneaaDoor.Fr
