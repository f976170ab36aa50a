/- The walk of layer 4's wakes. -/
import Derived.Test.YtaogpchjkbcjoaaDkOwn
import Derived.Lib.SlBytesConst
import Derived.Laws.BytesArg
namespace Go.Proofs.Ytaogpchjkbcjoaa.Dk
open Go Go.RowKit Mem Kp
theorem none_lt {w : World} : ∀ k, None k → k < w.heap.size := fun _ h => h.elim
theorem str_abc : strOfNums [97, 98, 99] = ⟨#[97, 98, 99]⟩ := by rfl
theorem wk1 : (St.new 100).append [97, 98] = (⟨100, [97, 98], 0, false, 0, 0⟩, 0) := by rfl
theorem wk2 : (⟨100, [97, 98], 0, false, 0, 0⟩ : St).sync = (⟨100, [97, 98], 2, false, 0, 0⟩, 0) := by rfl
theorem wk3 : (⟨100, [97, 98], 2, false, 0, 0⟩ : St).append [99, 100] = (⟨100, [97, 98, 99, 100], 2, false, 0, 0⟩, 0) := by rfl
theorem wk4 : ((⟨100, [97, 98, 99, 100], 2, false, 0, 0⟩ : St).crash 1).start = ⟨100, [97, 98, 99], 3, false, 0, 0⟩ := by rfl
/-- two bytes that the call has written down -/
theorem lit_two (w : World) (x y : Nat) (vx vy : Int) (t : TypeId) (f : Nat × Nat) (hx : vx = (x : Int)) (hy : vy = (y : Int)) : Src (w.alloc (.cells #[.int .u8 vx, .int .u8 vy] t f)) w.heap.size (some ⟨w.heap.size, 0, none⟩) 2 [x, y] := by
  subst hx hy
  exact (shows_made (m := [x, y]) (cap := 2) (heap_alloc_new w _) rfl (Nat.le_refl 2) (by decide)).src
set_option maxHeartbeats 4000000 in
theorem wakes_any (w : World) : Calls Try.prog 12 #[] w fun e w' => e = .returned (.bool true) ∧ Kept None w w' := by
  have kc := fun (w : World) (C : Array Value) (n c : Nat) => Lib.run_convert_bytes_const (P := Try.prog) w 30 5 C n c Try.underlying30 Try.underlying5
  go_enter Try.func12, Try.ntmps12
  go_wp2_with fail
  refine (New_own w w (Kept.refl _ _) 100 (by decide) None none_lt).mono ?_
  rintro x w1 ⟨d, rfl, h1, _⟩
  have H1 := Lib.hid h1
  clear h1
  go_wp2_with fail
  have H2 := Lib.hid (H1.out.add ((Kept.refl _ _).alloc (.cells #[.int .u8 97, .int .u8 98] 5 (2, 3))) w1.heap.size (Nat.le_refl _) (by simp))
  refine (Append_own w _ _ d _ H2.out w1.heap.size (some ⟨w1.heap.size, 0, none⟩) 2 [97, 98] (lit_two w1 97 98 _ _ _ _ rfl rfl) (fun _ => .inr (.inr rfl)) (by intro y hy; simp at hy; omega) (by decide)).mono ?_
  rw [wk1]
  rintro x w2 ⟨rfl, h3, _⟩
  have H3 := Lib.hid h3
  clear h3
  go_wp2_with fail
  refine (Sync_own w _ _ d _ H3.out).mono ?_
  rw [wk2]
  rintro x w3 ⟨rfl, h4, _⟩
  have H4 := Lib.hid h4
  clear h4
  go_wp2_with fail
  have H5 := Lib.hid (H4.out.add ((Kept.refl _ _).alloc (.cells #[.int .u8 99, .int .u8 100] 5 (2, 3))) w3.heap.size (Nat.le_refl _) (by simp))
  refine (Append_own w _ _ d _ H5.out w3.heap.size (some ⟨w3.heap.size, 0, none⟩) 2 [99, 100] (lit_two w3 99 100 _ _ _ _ rfl rfl) (fun _ => .inr (.inr rfl)) (by intro y hy; simp at hy; omega) (by decide)).mono ?_
  rw [wk3]
  rintro x w4 ⟨rfl, h6, _⟩
  have H6 := Lib.hid h6
  clear h6
  go_wp2_with fail
  refine (Crash_own w _ _ d _ H6.out 1 (by decide) (by decide)).mono ?_
  rintro x w5 ⟨rfl, h7, _⟩
  have H7 := Lib.hid h7
  clear h7
  go_wp2_with fail
  refine (Start_own w _ _ d _ H7.out).mono ?_
  rw [wk4]
  rintro x w6 ⟨rfl, h8, _⟩
  have H8 := Lib.hid h8
  clear h8
  go_wp2_with fail
  refine (Read_own w _ _ d _ H8.out rfl).mono ?_
  rintro x w7 ⟨b, a, cap, rfl, ho, _, h9, _⟩
  obtain rfl : a = some ⟨b, 0, none⟩ := by
    rcases ho with h | h
    · cases h.2.2
    · exact h.1
  have hcv := run_convert_bytes_arg (P := Try.prog) w7 30 5 Try.underlying30 Try.underlying5 b 0 3 cap [97, 98, 99] rfl (fun i hi => by
    have := ho.cellAt i hi
    rw [Nat.zero_add, this]
    match i, hi with
    | 0, _ => rfl
    | 1, _ => rfl
    | 2, _ => rfl) 9 Try.underlying9
  rw [str_abc] at hcv
  have H9 := Lib.hid h9
  clear h9 ho
  go_wp2
  go_ret
  exact ⟨rfl, H9.out.kept⟩
end Go.Proofs.Ytaogpchjkbcjoaa.Dk
