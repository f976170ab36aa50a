/- What a law's row gives of the table of package frame. -/
import Derived.Test.YtfbibmdjahfneaaDoorNib
import Derived.Test.YtfbibmdjahfneaaDoorRows
import Derived.Lib.LaidTab
namespace Go.Proofs.YtfbibmdjahfneaaDoor.Fr
open Go Go.RowKit Mem Kp
/-- what a law's row gives of the table: it stands first on the list -/
theorem tab_of {r : List (String × DataW Unit)} {W : World} (h : laidMet Tryd.prog (("skerry/frame.halves", Rows.laid_skerry_frame_halves) :: r) W) : Tab W := by
  have hT : Lib.TabIs Tryd.prog W "skerry/frame.halves" .u32 [0, 498536548, 997073096, 651767980, 1994146192, 1802195444, 1303535960, 1342533948, 3988292384, 4027552580, 3604390888, 3412177804, 2607071920, 2262029012, 2685067896, 3183342108] :=
    Lib.tabIs_of_head (rest := r) (g := 0) (by kernel_rfl) (by kernel_rfl) Tryd.underlying53 Tryd.underlying32 (by kernel_rfl) (by kernel_rfl) h
  intro k hk
  have := hT.cell (g := 0) (by kernel_rfl) k (by simpa using hk)
  rw [this]
  match k, hk with
  | 0, _ => rfl
  | 1, _ => rfl
  | 2, _ => rfl
  | 3, _ => rfl
  | 4, _ => rfl
  | 5, _ => rfl
  | 6, _ => rfl
  | 7, _ => rfl
  | 8, _ => rfl
  | 9, _ => rfl
  | 10, _ => rfl
  | 11, _ => rfl
  | 12, _ => rfl
  | 13, _ => rfl
  | 14, _ => rfl
  | 15, _ => rfl
  | k + 16, h => exact absurd h (by omega)
end Go.Proofs.YtfbibmdjahfneaaDoor.Fr
