/- The walk of package frame's First. -/
import Derived.Test.YtfbibmdjahfneaaDoorSeal3
import Derived.Deep.RegionLaw
import Derived.Deep.RegionWith
namespace Go.Proofs.YtfbibmdjahfneaaDoor.Fr
open Go Go.RowKit Mem Kp
set_option maxHeartbeats 4000000 in
set_option maxRecDepth 100000 in
theorem First_any (b : Nat) (a : Option Addr) (cap : Nat) (l : List Nat) (w : World) (h : Src w b a cap l) (h8 : B8 l) (hl : l.length ≤ 1048576) (hT : Tab w := by first | assumption | exact tabH (by assumption) | exact tabK (by assumption) (by assumption)) :
    Calls Tryd.prog 14 #[.slice a l.length cap] w (FindPost l w) := by
  have HS := Lib.hid h
  have H8 := Lib.hid h8
  have HT := Lib.hid hT
  clear h h8 hT
  by_cases hshort : l.length < 9
  · have hd : decide (l.length < 9) = true := by simpa using hshort
    have hd' : decide ((l.length : Int) < 9) = true := by simp; omega
    rw [findPost_none (first_none_head (b := l) (.inl hshort))]
    go_enter Tryd.func14, Tryd.ntmps14
    go_wp2
    go_ret3
    exact ⟨rfl, Kept.refl _ _⟩
  · obtain ⟨off, rfl, hc⟩ := HS.out.at_ (by omega)
    have hsh : Hid (Shows w b (some ⟨b, off, Option.none⟩) cap l) := by
      rcases HS.out with h | h
      · exact h
      · exact absurd h.1 (by intro e; rw [e] at hshort; simp at hshort)
    have hcap : 9 ≤ cap := by have := hsh.out.1; omega
    have hcap2 := hsh.out.2.1
    have hlc := hsh.out.1
    have c0 := hc 0 (by omega)
    have hd : decide (l.length < 9) = false := by simpa using hshort
    have hd' : decide ((l.length : Int) < 9) = false := by simp; omega
    simp only [Nat.add_zero] at c0
    have HY : Hid (l.getD 0 0 = l.getD 0 0) := rfl
    clear hc
    by_cases h157 : l.getD 0 0 = 157
    · have HH := Lib.hid h157
      have hq : (((l.getD 0 0 : Nat) : Int) != 157) = false := by rw [h157]; rfl
      obtain ⟨y0, hy0⟩ : ∃ y, y = l.getD 0 0 := ⟨_, rfl⟩
      rw [← hy0] at c0 hq
      clear h157 hy0 HY
      have i1 : ¬ cap = 1 := by omega
      have i5 : ¬ cap = 5 := by omega
      have HP1 : Hid (Shows w b (some ⟨b, off + 1, Option.none⟩) (cap - 1) (l.drop 1)) := fits_rest hsh.out (by omega) (.inl rfl)
      have HP5 : Hid (Shows w b (some ⟨b, off + 5, Option.none⟩) (cap - 5) (l.drop 5)) := fits_rest hsh.out (by omega) (.inl rfl)
      have hl1 : (l.drop 1).length = l.length - 1 := List.length_drop
      have hl5 : (l.drop 5).length = l.length - 5 := List.length_drop
      have hr1 := readNumber_any b _ (cap - 1) (l.drop 1) w HP1.out.src (H8.out.drop 1) (by omega)
      have hr5 : ∀ v : World, v.heap = w.heap → Calls Tryd.prog 27 #[.slice (some ⟨b, off + 5, Option.none⟩) (l.length - 5) (cap - 5)] v fun e w' => e = .returned (.int .u32 (num ((l.drop 5).take 4))) ∧ w' = v := by
        intro v hv
        have := readNumber_any b _ (cap - 5) (l.drop 5) v (HP5.out.src.heap hv) (H8.out.drop 5) (by omega)
        rw [hl5] at this
        exact this.mono fun _ _ ⟨h1, h2⟩ => ⟨h1, h2.symm⟩
      rw [hl1] at hr1
      have hNl : num ((l.drop 1).take 4) ≤ 4294967295 := by have := (be4_num (l := (l.drop 1).take 4) (by simp; omega) ((H8.out.drop 1).take 4)).2; omega
      have hMl : num ((l.drop 5).take 4) ≤ 4294967295 := by have := (be4_num (l := (l.drop 5).take 4) (by simp; omega) ((H8.out.drop 5).take 4)).2; omega
      obtain ⟨N, hN⟩ : ∃ N, N = num ((l.drop 1).take 4) := ⟨_, rfl⟩
      obtain ⟨M, hM⟩ : ∃ M, M = num ((l.drop 5).take 4) := ⟨_, rfl⟩
      have HNN := Lib.hid hN
      have HMM := Lib.hid hM
      rw [← hN] at hNl hr1
      rw [← hM] at hMl hr5
      have HR1 := Lib.hid hr1
      have HR5 := Lib.hid hr5
      clear hN hM hr1 hr5 hl1 hl5
      by_cases hbig : 16384 < N
      · have d1 : decide ((16384 : Int) < (N : Int)) = true := by simp; omega
        have HF : firstB l = none := by
          unfold firstB
          rw [if_neg (fun h => h.elim hshort (fun h => h HH.out)), ← HNN.out, if_pos (.inl hbig)]
        rw [findPost_none HF]
        clear hbig HF
        go_enter Tryd.func14, Tryd.ntmps14
        go_wp2_with fail
        refine HR1.out.mono ?_
        rintro x w' ⟨rfl, rfl⟩
        go_wp2
        go_ret3
        exact ⟨rfl, Kept.refl _ _⟩
      · by_cases hlong : l.length - 9 < N
        · have d1 : decide ((16384 : Int) < (N : Int)) = false := by simp; omega
          have d2 : decide ((l.length : Int) - 9 < (N : Int)) = true := by simp; omega
          have HF : firstB l = none := by
            unfold firstB
            rw [if_neg (fun h => h.elim hshort (fun h => h HH.out)), ← HNN.out, if_pos (.inr hlong)]
          rw [findPost_none HF]
          clear hlong hbig HF
          go_enter Tryd.func14, Tryd.ntmps14
          go_wp2_with fail
          refine HR1.out.mono ?_
          rintro x w' ⟨rfl, rfl⟩
          go_wp2
          go_ret3
          exact ⟨rfl, Kept.refl _ _⟩
        · have d1 : decide ((16384 : Int) < (N : Int)) = false := by simp; omega
          have d2 : decide ((l.length : Int) - 9 < (N : Int)) = false := by simp; omega
          have hN1 : N ≤ 16384 := by omega
          have hN2 : N + 9 ≤ l.length := by omega
          have HF : firstB l = if crc ((l.drop 1).take 4 ++ (l.drop 9).take N) = M then some ((l.drop 9).take N, N + 9) else none := by
            unfold firstB
            rw [if_neg (fun h => h.elim hshort (fun h => h HH.out)), ← HNN.out, if_neg (by omega), ← HMM.out]
          obtain ⟨o9, hA, hB⟩ := rest_at b off cap 9
          obtain ⟨p9, p9l⟩ := fits_part (lo := 9) (hi := N + 9) (o2 := o9) hsh.out (by omega) hN2 hB
          rw [show N + 9 - 9 = N by omega] at p9 p9l
          have HP9 := Lib.hid p9
          have HL9 := Lib.hid p9l
          have h89 : Hid (B8 ((l.drop 9).take N)) := (H8.out.drop 9).take N
          have hfs : ∀ v : World, v.heap = w.heap → Calls Tryd.prog 25 #[.slice (some ⟨b, off, Option.none⟩) l.length cap, .slice (some ⟨b, o9, Option.none⟩) N (cap - 9)] v fun e w' => e = .returned (.int .u32 (crc ((l.drop 1).take 4 ++ (l.drop 9).take N))) ∧ w' = v := by
            intro v hv
            have := frameSum_any b _ cap l b (some ⟨b, o9, Option.none⟩) (cap - 9) ((l.drop 9).take N) v (hsh.out.src.heap hv) H8.out (by omega) (HP9.out.src.heap hv) h89.out (by rw [p9l]; omega) (HT.out.heap hv)
            rw [p9l] at this
            exact this.mono fun _ _ ⟨h1, h2⟩ => ⟨h1, h2.symm⟩
          have hcr : crc ((l.drop 1).take 4 ++ (l.drop 9).take N) ≤ 4294967295 := by have := crc_lt (((H8.out.drop 1).take 4).append h89.out); omega
          obtain ⟨CR, hCR⟩ : ∃ CR, CR = crc ((l.drop 1).take 4 ++ (l.drop 9).take N) := ⟨_, rfl⟩
          rw [← hCR] at hfs hcr HF
          obtain ⟨P9, hP9⟩ : ∃ P, P = (l.drop 9).take N := ⟨_, rfl⟩
          rw [← hP9] at HP9 HL9 h89 HF
          have HFS := Lib.hid hfs
          have HFF := Lib.hid HF
          clear hbig hlong p9 p9l hB hfs hCR hP9 HF
          have i9 : (9 : Int) ≤ 9 + (N : Int) := by omega
          have iN : 9 + (N : Int) ≤ (cap : Int) := by omega
          have iT : (9 + (N : Int)).toNat = 9 + N := by omega
          have i5c : (5 : Int) ≤ (l.length : Int) := by omega
          by_cases heq : CR = M
          · have hq2 : ((CR : Int) != (M : Int)) = false := by simp [heq]
            have hff := HFF.out
            rw [if_pos heq] at hff
            rw [findPost_some hff]
            clear heq hff
            go_enter Tryd.func14, Tryd.ntmps14
            go_wp2_with fail
            refine HR1.out.mono ?_
            rintro x w' ⟨rfl, rfl⟩
            go_wp2
            go_quiet ((first | (go_at_call 25; exact Calls.quiet_of_same (HFS.out _ rfl)) | (go_at_call 27; exact Calls.quiet_of_same (HR5.out _ rfl))))
            obtain ⟨w5, hw5⟩ : ∃ w5, w5 = w.drewN nq := ⟨_, rfl⟩
            rw [← hw5]
            have HK5 : Hid (Kept None w w5) := by rw [hw5]; exact (Kept.refl _ _).drewN nq
            clear hw5
            have hcl := Clone_any b (some ⟨b, o9, Option.none⟩) (cap - 9) P9 w5 (HP9.out.src.kept HK5.out (fun _ h => h)) (by rw [HL9.out]; omega)
            rw [HL9.out] at hcl
            go_wp2_with fail
            refine hcl.mono ?_
            clear hcl
            rintro x w6 ⟨b6, a6, cap6, rfl, ho6, hb6, hk6, hb62⟩
            have HO6 := Lib.hid ho6
            have HK6 := Lib.hid (HK5.out.trans hk6)
            have hb6w : w.heap.size ≤ b6 := Nat.le_trans HK5.out.size hb6
            clear ho6 hk6
            go_wp2
            go_ret3
            refine ⟨b6, a6, cap6, ?_, HO6.out, hb6w, hb62, HK6.out⟩
            rw [HL9.out, show ((N + 9 : Nat) : Int) = 9 + (N : Int) by omega]
            rfl
          · have hq2 : ((CR : Int) != (M : Int)) = true := bne_iff_ne.2 (by omega)
            have hff := HFF.out
            rw [if_neg heq] at hff
            rw [findPost_none hff]
            clear heq hff
            go_enter Tryd.func14, Tryd.ntmps14
            go_wp2_with fail
            refine HR1.out.mono ?_
            rintro x w' ⟨rfl, rfl⟩
            go_wp2
            go_quiet ((first | (go_at_call 25; exact Calls.quiet_of_same (HFS.out _ rfl)) | (go_at_call 27; exact Calls.quiet_of_same (HR5.out _ rfl))))
            go_wp2
            go_ret3
            exact ⟨rfl, (Kept.refl None w).heap_end rfl rfl rfl rfl⟩
    · have hq : (((l.getD 0 0 : Nat) : Int) != 157) = true := bne_iff_ne.2 (by omega)
      rw [findPost_none (first_none_head (b := l) (.inr h157))]
      obtain ⟨y0, hy0⟩ : ∃ y, y = l.getD 0 0 := ⟨_, rfl⟩
      rw [← hy0] at c0 hq
      clear h157 hy0 HY
      go_enter Tryd.func14, Tryd.ntmps14
      go_wp2
      go_ret3
      exact ⟨rfl, Kept.refl _ _⟩
end Go.Proofs.YtfbibmdjahfneaaDoor.Fr
