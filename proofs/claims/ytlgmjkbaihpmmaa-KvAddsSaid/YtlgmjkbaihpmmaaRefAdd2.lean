/- The reference's Add and Max, whole. -/
import Derived.Test.YtlgmjkbaihpmmaaRefAdd
namespace Go.Proofs.Ytlgmjkbaihpmmaa.Vl
open Go Go.RowKit Go.Proofs.Ytlgmjkbaihpmmaa.Nm
attribute [local go_sem] run_bits run_frombits run_store_float

set_option maxHeartbeats 400000 in
theorem refAdd_v (a b : V) (ha : a.num < 18446744073709551616) (hb : b.num < 18446744073709551616) (w : World) :
    Calls Try.prog 21 #[a.val, b.val] w (JoinTold sumC a b w) := by
  have HJ := fun w => Lib.hid (join_any a b true ha hb w)
  clear ha hb
  unfold JoinTold
  go_enter Try.func21, Try.ntmps21
  go_wp2_with fail
  refine (HJ _).out.mono ?_
  rintro e w' ⟨rfl, hb⟩
  have HB := Lib.hid hb
  obtain ⟨c0, c1, c2, f0, f1, f2⟩ := cells3 ((hb.block (w.heap.size + 1 + 1) (by simp)).trans (alloc_here _ (by simp)))
  clear hb
  go_wp2_with fail
  (try simp only [Exit.inBlock, Exit.then])
  refine bodyPost_ret (v := .tuple #[(joined sumC a b).1.val, .int .i64 (joined sumC a b).2]) ?_ rfl ⟨rfl, by repeat' (first | exact (below3 _ _ _ _).trans (HB.out.mono (below3 _ _ _ _).size) | refine Below.setCell ?_ (show w.heap.size ≤ w.heap.size + 1 + 1 by omega) _)⟩
  rw [results_cell_tmp rfl]
  go_simp
set_option maxHeartbeats 400000 in
theorem refMax_v (a b : V) (ha : a.num < 18446744073709551616) (hb : b.num < 18446744073709551616) (w : World) :
    Calls Try.prog 22 #[a.val, b.val] w (JoinTold maxF a b w) := by
  have HJ := fun w => Lib.hid (join_any a b false ha hb w)
  clear ha hb
  unfold JoinTold
  go_enter Try.func22, Try.ntmps22
  go_wp2_with fail
  refine (HJ _).out.mono ?_
  rintro e w' ⟨rfl, hb⟩
  have HB := Lib.hid hb
  obtain ⟨c0, c1, c2, f0, f1, f2⟩ := cells3 ((hb.block (w.heap.size + 1 + 1) (by simp)).trans (alloc_here _ (by simp)))
  clear hb
  go_wp2_with fail
  (try simp only [Exit.inBlock, Exit.then])
  refine bodyPost_ret (v := .tuple #[(joined maxF a b).1.val, .int .i64 (joined maxF a b).2]) ?_ rfl ⟨rfl, by repeat' (first | exact (below3 _ _ _ _).trans (HB.out.mono (below3 _ _ _ _).size) | refine Below.setCell ?_ (show w.heap.size ≤ w.heap.size + 1 + 1 by omega) _)⟩
  rw [results_cell_tmp rfl]
  go_simp
end Go.Proofs.Ytlgmjkbaihpmmaa.Vl
