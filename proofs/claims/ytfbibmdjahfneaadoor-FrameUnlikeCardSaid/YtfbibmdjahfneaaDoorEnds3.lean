/- FrameEnds' walk. -/
import Derived.Test.YtfbibmdjahfneaaDoorUnlike3
import Derived.Laws.MakeOwn
import Derived.Laws.OwnMore
namespace Go.Proofs.YtfbibmdjahfneaaDoor.Fr
open Go Go.RowKit Mem Kp
/-- bytes that were made and got a first one -/
def firstOf (c n : Nat) : List Nat := c :: List.replicate n 0
theorem made_list (N : Nat) : (madeCells (Value.int .u8 0).cells (N * 1)).toList = (List.replicate N 0).map byteV := by
  rw [Nat.mul_one, List.map_replicate]
  exact toList_madeCells_one (.int .u8 0) N
theorem made_own (w : World) (n c : Nat) (hn : n + 1 ≤ 1048576) : OwnB 5 ((w.alloc (.cells (madeCells (Value.int .u8 0).cells ((n + 1) * 1)) 5)).setCell ⟨w.heap.size, 0, none⟩ (.int .u8 (c : Int))) w.heap.size (some ⟨w.heap.size, 0, none⟩) (n + 1) (firstOf c n) := by
  refine .inr ⟨rfl, by simp [firstOf], by unfold maxLen; omega, _, heap_set (heap_alloc_new w _) 0 _, by simp [size_madeCells], ?_⟩
  rw [Array.toList_setIfInBounds, made_list]
  simp [firstOf, byteV, List.replicate_succ]
theorem firstOf_b8 {c n : Nat} (h : c < 256) : B8 (firstOf c n) := by
  intro y hy
  rcases List.mem_cons.1 hy with rfl | hy
  · exact h
  · rw [List.eq_of_mem_replicate hy]; decide
theorem firstOf_len (c n : Nat) : (firstOf c n).length = n + 1 := by simp [firstOf]
set_option maxHeartbeats 4000000 in
theorem FrameEnds_any (y n : Int) (w : World) (hy0 : 0 ≤ y) (hy1 : y ≤ 255) (hn0 : -9223372036854775808 ≤ n) (hn1 : n ≤ 9223372036854775807) (hT : Tab w) :
    Calls Tryd.prog 8 #[.int .u8 y, .int .i64 n] w fun e w' => e = .returned (.bool true) ∧ Kept None w w' := by
  have HT := Lib.hid hT
  clear hT
  obtain ⟨c, rfl⟩ : ∃ c : Nat, y = (c : Int) := ⟨y.toNat, by omega⟩
  have hc : c < 256 := by omega
  obtain ⟨i0, hi, hz0, hz1, hz2⟩ := info_parts infoU8
  by_cases hneg : n < 0
  · have d1 : decide (n < 0) = true := by simpa using hneg
    go_enter Tryd.func8, Tryd.ntmps8
    go_wp2
    go_ret
    exact ⟨rfl, Kept.refl _ _⟩
  · have d1 : decide (n < 0) = false := by simpa using hneg
    by_cases hbig : 2 < n
    · have d2 : decide (2 < n) = true := by simpa using hbig
      go_enter Tryd.func8, Tryd.ntmps8
      go_wp2
      go_ret
      exact ⟨rfl, Kept.refl _ _⟩
    · have d2 : decide (2 < n) = false := by simpa using hbig
      obtain ⟨k, rfl⟩ : ∃ k : Nat, n = (k : Int) := ⟨n.toNat, by omega⟩
      have hk : k ≤ 2 := by omega
      clear hneg hbig hn0 hn1 hy0 hy1
      obtain ⟨W1, hW1⟩ : ∃ W, W = w.alloc (.cells (madeCells (Value.int .u8 0).cells ((16382 + k + 1) * 1)) 5) := ⟨_, rfl⟩
      have hmk : (Instr.makeSlice 22 (.int .i64 (16383 + (k : Int))) (.int .i64 (16383 + (k : Int)))).run Tryd.prog w = .ok (.slice (some ⟨w.heap.size, 0, none⟩) (16382 + k + 1) (16382 + k + 1)) W1 := by
        have h := run_make (P := Tryd.prog) w 22 5 i0 _ Tryd.underlying22 hi hz0 .i64 .i64 (16383 + (k : Int)) (16383 + (k : Int)) (by omega) (by omega) (by rw [hz2]; omega) (by omega)
        rw [show (16383 + (k : Int)).toNat = 16382 + k + 1 by omega, hz1] at h
        rw [hW1]; exact h
      have hW2 : Hid (OwnB 5 (W1.setCell ⟨w.heap.size, 0, none⟩ (.int .u8 (c : Int))) w.heap.size (some ⟨w.heap.size, 0, none⟩) (16382 + k + 1) (firstOf c (16382 + k))) := by rw [hW1]; exact made_own w (16382 + k) c (by omega)
      have hh : W1.heap[w.heap.size]? = some (.cells (madeCells (Value.int .u8 0).cells ((16382 + k + 1) * 1)) 5 (0, 0)) := by rw [hW1]; exact heap_alloc_new w _
      have c0 : W1.cell? ⟨w.heap.size, 0, none⟩ = some (.int .u8 0) := by
        rw [cell_heap hh 0, ← Array.getElem?_toList, made_list]
        simp [byteV, List.replicate_succ]
      have f0 : W1.frozen? ⟨w.heap.size, 0, none⟩ = false := frozen_heap hh 0
      have HK2 : Hid (Kept None w (W1.setCell ⟨w.heap.size, 0, none⟩ (.int .u8 (c : Int)))) := by rw [hW1]; exact ((Kept.refl _ _).alloc _).setAt (.inr (Nat.le_refl _)) _ _
      have h8 : Hid (B8 (firstOf c (16382 + k))) := firstOf_b8 hc
      have hfl : Hid ((firstOf c (16382 + k)).length = 16382 + k + 1) := firstOf_len _ _
      clear hW1 hh
      go_enter Tryd.func8, Tryd.ntmps8
      go_wp2_with fail
      obtain ⟨W2, hw2⟩ : ∃ W2, W2 = W1.setCell ⟨w.heap.size, 0, none⟩ (.int .u8 (c : Int)) := ⟨_, rfl⟩
      rw [← hw2] at hW2 HK2 ⊢
      obtain ⟨p, hpp⟩ : ∃ p, p = firstOf c (16382 + k) := ⟨_, rfl⟩
      rw [← hpp] at hW2 h8 hfl
      clear hw2 hpp c0 f0 hmk
      by_cases h2 : k = 2
      · have hq : ((k : Int) == 2) = true := by rw [h2]; rfl
        have hseal := Seal_any w.heap.size (some ⟨w.heap.size, 0, none⟩) (16382 + k + 1) p W2 hW2.out.src h8.out
        rw [sealPost_long (by rw [hfl.out]; omega), hfl.out] at hseal
        refine hseal.mono ?_
        clear hseal h2
        rintro x w3 ⟨rfl, hk3⟩
        have HK3 := Lib.hid (HK2.out.trans hk3)
        clear hk3
        go_wp2_with fail
        refine (wakes_any _).mono ?_
        rintro x w4 ⟨rfl, hk4⟩
        have HK4 := Lib.hid (HK3.out.trans hk4)
        clear hk4
        go_wp2
        go_ret
        exact ⟨rfl, HK4.out⟩
      · have hq : ((k : Int) == 2) = false := by simp; omega
        have hp : p.length ≤ 16384 := by rw [hfl.out]; omega
        have HFI : Hid (firstB (sealB p) = some (p, p.length + 9)) := by have := first_seal h8.out hp []; rwa [List.append_nil] at this
        have HSL : Hid ((sealB p).length = p.length + 9) := seal_len p
        have hseal := Seal_any w.heap.size (some ⟨w.heap.size, 0, none⟩) (16382 + k + 1) p W2 hW2.out.src h8.out
        rw [sealPost_ok hp, hfl.out] at hseal
        refine hseal.mono ?_
        clear hseal h2 hp
        rintro x w3 ⟨b3, a3, c3, rfl, ho3, hb3, hb32, hk3⟩
        have HO3 := Lib.hid ho3
        have HP3 : Hid (OwnB 5 w3 w.heap.size (some ⟨w.heap.size, 0, none⟩) (16382 + k + 1) p) := hW2.out.kept hk3 (fun _ h => h)
        have HK3 := Lib.hid (HK2.out.trans hk3)
        clear hk3 ho3
        go_wp2_with fail
        have hfi := First_any b3 a3 c3 (sealB p) w3 HO3.out.src (seal_b8 h8.out) (by rw [HSL.out, hfl.out]; omega)
        rw [findPost_some HFI.out, HSL.out, hfl.out] at hfi
        refine hfi.mono ?_
        clear hfi
        rintro x w4 ⟨b4, a4, c4, rfl, ho4, hb4, hb42, hk4⟩
        have HO4 := Lib.hid ho4
        have HP4 : Hid (OwnB 5 w4 w.heap.size (some ⟨w.heap.size, 0, none⟩) (16382 + k + 1) p) := HP3.out.kept hk4 (fun _ h => h)
        have HK4 := Lib.hid (HK3.out.trans hk4)
        clear hk4 ho4
        go_wp2_with fail
        have hcmp := KBytes_any b4 a4 c4 p w.heap.size (some ⟨w.heap.size, 0, none⟩) (16382 + k + 1) p w4 HO4.out.src HP4.out.src (by rw [hfl.out]; omega) (by rw [hfl.out]; omega)
        rw [hfl.out] at hcmp
        refine hcmp.mono ?_
        clear hcmp
        rintro x w5 ⟨rfl, n5, rfl⟩
        rw [same_refl]
        go_wp2_with fail
        refine (wakes_any _).mono ?_
        rintro x w6 ⟨rfl, hk6⟩
        have HK6 := Lib.hid ((HK4.out.drewN n5).trans hk6)
        clear hk6
        go_wp2
        go_ret
        exact ⟨rfl, HK6.out⟩
end Go.Proofs.YtfbibmdjahfneaaDoor.Fr
