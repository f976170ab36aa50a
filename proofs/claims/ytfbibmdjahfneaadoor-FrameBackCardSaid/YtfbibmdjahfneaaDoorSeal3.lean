/- The walk of package frame's Seal. -/
import Derived.Test.YtfbibmdjahfneaaDoorPut4
import Derived.Test.YtfbibmdjahfneaaDoorCloneB
import Derived.Laws.MakeOwn
import Derived.Laws.OwnMore
namespace Go.Proofs.YtfbibmdjahfneaaDoor.Fr
open Go Go.RowKit Mem Kp
theorem made_list' (N : Nat) : (madeCells (Value.int .u8 0).cells (N * 1)).toList = (List.replicate N 0).map byteV := by
  rw [Nat.mul_one, List.map_replicate]
  exact toList_madeCells_one (.int .u8 0) N
/-- nine bytes that were made, with room for n more, and their first one -/
theorem made_nine (w : World) (n : Nat) (hn : n ≤ 1048576) : OwnB 5 ((w.alloc (.cells (madeCells (Value.int .u8 0).cells ((n + 9) * 1)) 5)).setCell ⟨w.heap.size, 0, none⟩ (.int .u8 157)) w.heap.size (some ⟨w.heap.size, 0, none⟩) (n + 9) ([157] ++ ([0, 0, 0, 0] ++ [0, 0, 0, 0])) := by
  refine .inr ⟨rfl, by simp, by unfold maxLen; omega, _, heap_set (heap_alloc_new w _) 0 _, by simp [size_madeCells], ?_⟩
  rw [Array.toList_setIfInBounds, made_list']
  simp [byteV, List.replicate_succ]
set_option maxHeartbeats 4000000 in
theorem Seal_any (b : Nat) (a : Option Addr) (cap : Nat) (p : List Nat) (w : World) (h : Src w b a cap p) (h8 : B8 p) (hT : Tab w := by first | assumption | exact tabH (by assumption) | exact tabK (by assumption) (by assumption)) : Calls Tryd.prog 11 #[.slice a p.length cap] w (SealPost p w) := by
  obtain ⟨i0, hi, hz0, hz1, hz2⟩ := info_parts infoU8
  have HS := Lib.hid h
  have H8 := Lib.hid h8
  have HT := Lib.hid hT
  have hpl := h.len
  clear h h8 hT
  by_cases hbig : 16384 < p.length
  · have d1 : decide (16384 < p.length) = true := by simpa using hbig
    have d1' : decide ((16384 : Int) < (p.length : Int)) = true := by simp; omega
    rw [sealPost_long (by omega)]
    clear hbig
    go_enter Tryd.func11, Tryd.ntmps11
    go_wp2
    go_ret2
    exact ⟨rfl, Kept.refl _ _⟩
  · have d1 : decide (16384 < p.length) = false := by simpa using hbig
    have d1' : decide ((16384 : Int) < (p.length : Int)) = false := by simp; omega
    have hp : p.length ≤ 16384 := by omega
    rw [sealPost_ok hp]
    clear hbig
    obtain ⟨B, hB⟩ : ∃ B, B = w.heap.size := ⟨_, rfl⟩
    obtain ⟨W1, hW1⟩ : ∃ W, W = w.alloc (.cells (madeCells (Value.int .u8 0).cells ((p.length + 9) * 1)) 5) := ⟨_, rfl⟩
    have hmk : (Instr.makeSlice 22 (.int .i64 9) (.int .i64 (9 + (p.length : Int)))).run Tryd.prog w = .ok (.slice (some ⟨B, 0, none⟩) 9 (p.length + 9)) W1 := by
      have h := run_make (P := Tryd.prog) w 22 5 i0 _ Tryd.underlying22 hi hz0 .i64 .i64 9 (9 + (p.length : Int)) (by omega) (by omega) (by rw [hz2]; omega) (by omega)
      rw [show (9 + (p.length : Int)).toNat = p.length + 9 by omega, hz1] at h
      rw [hW1, hB]; exact h
    have hh : W1.heap[B]? = some (.cells (madeCells (Value.int .u8 0).cells ((p.length + 9) * 1)) 5 (0, 0)) := by rw [hW1, hB]; exact heap_alloc_new w _
    have c0 : W1.cell? ⟨B, 0, none⟩ = some (.int .u8 0) := by
      rw [cell_heap hh 0, ← Array.getElem?_toList, made_list']
      simp [byteV, List.replicate_succ]
    have f0 : W1.frozen? ⟨B, 0, none⟩ = false := frozen_heap hh 0
    obtain ⟨W2, hW2⟩ : ∃ W, W = W1.setCell ⟨B, 0, none⟩ (.int .u8 157) := ⟨_, rfl⟩
    have HO2 : Hid (OwnB 5 W2 B (some ⟨B, 0, none⟩) (p.length + 9) ([157] ++ ([0, 0, 0, 0] ++ [0, 0, 0, 0]))) := by rw [hW2, hW1, hB]; exact made_nine w p.length (by omega)
    have HK2 : Hid (Kept None w W2) := by rw [hW2, hW1, hB]; exact ((Kept.refl _ _).alloc _).setAt (.inr (Nat.le_refl _)) _ _
    have HB := Lib.hid hB
    have HW2 := Lib.hid hW2
    clear hW1 hh hB hW2
    have hcap : ¬ p.length + 9 = 1 := by omega
    have hcap5 : ¬ p.length + 9 = 5 := by omega
    have HD : Hid (Kept None w W2) := HK2
    go_enter Tryd.func11, Tryd.ntmps11
    go_wp2_with fail
    rw [← HW2.out]
    clear c0 f0 hmk
    refine (writeNumber_any B 1 8 (p.length + 8) (p.length + 9) [157] [0, 0, 0, 0] [0, 0, 0, 0] p.length W2 HO2.out rfl rfl (by omega) (by omega)).mono ?_
    rintro x w3 ⟨rfl, ho3, hk3⟩
    have HO3 := Lib.hid ho3
    have HK3 : Hid (Kept None w w3) := HK2.out.trans' hk3 (fun x hx => .inr (by rw [hx, HB.out]; exact Nat.le_refl _))
    clear ho3 hk3
    obtain ⟨CR, hCR⟩ : ∃ CR, CR = crc (be4 p.length ++ p) := ⟨_, rfl⟩
    have hCl : CR < 4294967296 := by rw [hCR]; exact crc_lt ((be4_b8 _).append H8.out)
    have h1 : ∀ v : World, v.heap = w3.heap → Calls Tryd.prog 25 #[.slice (some ⟨B, 0, none⟩) 9 (p.length + 9), .slice a p.length cap] v fun e w' => e = .returned (.int .u32 CR) ∧ v = w' := by
      intro v hv
      have := frameSum_any B (some ⟨B, 0, none⟩) (p.length + 9) ([157] ++ (be4 p.length ++ [0, 0, 0, 0])) b a cap p v (HO3.out.heap hv).src (by
        intro y hy
        simp [be4] at hy
        omega) (by simp [be4]) ((HS.out.kept HK3.out (fun _ h => h)).heap hv) H8.out hpl ((HT.out.kept HK3.out).heap hv)
      have e : (([157] ++ (be4 p.length ++ [0, 0, 0, 0]) : List Nat).drop 1).take 4 = be4 p.length := rfl
      rw [e, ← hCR] at this
      exact this
    have h2 : ∀ v : World, v.heap = w3.heap → Calls Tryd.prog 24 #[.slice (some ⟨B, 5, none⟩) 4 (p.length + 4), .int .u32 CR] v fun e w' => e = .returned (.tuple #[]) ∧ OwnB 5 w' B (some ⟨B, 0, none⟩) (p.length + 9) (157 :: (be4 p.length ++ be4 CR)) ∧ Kept (Only B) v w' := by
      intro v hv
      have := writeNumber_any B 5 4 (p.length + 4) (p.length + 9) ([157] ++ be4 p.length) [0, 0, 0, 0] [] CR v (HO3.out.heap hv) rfl rfl (by omega) hCl
      exact this.mono fun x w' ⟨e1, e2, e3⟩ => ⟨e1, by rw [List.append_nil] at e2; exact e2, e3⟩
    have HFS := Lib.hid h1
    have HWN := Lib.hid h2
    have HCR := Lib.hid hCR
    clear h1 h2 hCR
    have hc5 : (5 : Int) ≤ 9 := by decide
    go_wp2
    go_region_with ((first | (go_at_call 25; refine Calls.mono (HFS.out _ (by exact rfl)) ?_; rintro x w4 ⟨rfl, rfl⟩) | (go_at_call 24; refine Calls.mono (HWN.out _ (by exact rfl)) ?_; rintro x w4 ⟨rfl, ho4, hk4⟩; have HO4 := Lib.hid ho4; have HK4 : Hid (Kept None w w4) := HK3.out.trans' (hk4.heap2 (v := w3) rfl rfl rfl rfl) (fun x hx => .inr (by rw [hx, HB.out]; exact Nat.le_refl _)); clear ho4 hk4)))
    all_goals
      go_wp2_with (at_builtin; refine wpList_append_bytes rfl _ _ 22 rfl 5 i0 Tryd.underlying22 hi hz0 hz1 hz2 B (some ⟨B, 0, none⟩) (p.length + 9) (157 :: (be4 p.length ++ be4 CR)) 9 rfl HO4.out rfl b a cap p _ rfl (HS.out.kept HK4.out (fun _ h => h)) rfl (by omega) ?_)
      intro b2 a2 cap2 w5 h2 h3 h4 h5
      obtain ⟨b3, ho5, hb5, hb52, hk5⟩ := own_next (l2 := sealB p) (by rw [show sealB p = 157 :: (be4 p.length ++ (be4 (crc (be4 p.length ++ p)) ++ p)) from rfl, ← HCR.out]) (by rw [HB.out]; exact Nat.le_refl _) HK4.out h2 h3 (by simpa using h4)
      have HO5 := Lib.hid ho5
      have HK5 := Lib.hid hk5
      clear h2 h3 h4 h5 ho5 hk5
      go_wp2
      go_ret2
      refine ⟨b3, a2, cap2, ?_, HO5.out, hb5, hb52, HK5.out⟩
      show Ending.returned (.tuple #[.slice a2 _ cap2, _]) = _
      congr 4
      simp [be4]
      try omega
end Go.Proofs.YtfbibmdjahfneaaDoor.Fr
