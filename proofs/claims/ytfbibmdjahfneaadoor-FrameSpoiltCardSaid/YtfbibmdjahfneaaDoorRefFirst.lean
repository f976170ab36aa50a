/- The walk of the reference's First. -/
import Derived.Test.YtfbibmdjahfneaaDoorRefSeal
import Derived.Deep.RegionLaw
import Derived.Deep.RegionWith
namespace Go.Proofs.YtfbibmdjahfneaaDoor.Fr
open Go Go.RowKit Mem Kp
def FirstPost (l : List Nat) (w : World) (x : Ending) (w' : World) : Prop := match firstB l with
  | none => x = .returned (.tuple #[.slice none 0 0, .int .i64 0, .bool false]) ∧ Kept None w w'
  | some (p, n) => ∃ b a cap, x = .returned (.tuple #[.slice a p.length cap, .int .i64 n, .bool true]) ∧ OwnB 5 w' b a cap p ∧ w.heap.size ≤ b ∧ b ≤ w'.heap.size ∧ Kept None w w'
theorem firstPost_none {l : List Nat} {w w' : World} {x : Ending} (h : firstB l = none) (hx : x = .returned (.tuple #[.slice none 0 0, .int .i64 0, .bool false])) (hk : Kept None w w') : FirstPost l w x w' := by
  unfold FirstPost; rw [h]; exact ⟨hx, hk⟩
theorem getD0 {l : List Nat} (h : 0 < l.length) : l.getD 0 0 = l[0] := by simp [h]
set_option maxHeartbeats 4000000 in
set_option maxRecDepth 100000 in
theorem refFirst_any (b : Nat) (a : Option Addr) (cap : Nat) (l : List Nat) (w : World) (h : Src w b a cap l) (h8 : B8 l) (hl : l.length ≤ 1048576) :
    Calls Tryd.prog 15 #[.slice a l.length cap] w (FirstPost l w) := by
  obtain ⟨i0, hi, hz0, hz1, hz2⟩ := info_parts infoU8
  have HS := Lib.hid h
  have H8 := Lib.hid h8
  clear h h8
  by_cases hshort : l.length < 9
  · have hd : decide (l.length < 9) = true := by simpa using hshort
    have hd' : decide ((l.length : Int) < 9) = true := by simp; omega
    have HN := Lib.hid (first_none_head (b := l) (.inl hshort))
    go_enter Tryd.func15, Tryd.ntmps15
    go_wp2
    go_ret3
    exact firstPost_none HN.out rfl (Kept.refl _ _)
  · obtain ⟨off, rfl, hc⟩ := HS.out.at_ (by omega)
    have hsh : Hid (Shows w b (some ⟨b, off, Option.none⟩) cap l) := by
      rcases HS.out with h | h
      · exact h
      · exact absurd h.1 (by intro e; rw [e] at hshort; simp at hshort)
    have hcap : 9 ≤ cap := by have := hsh.out.1; omega
    have hcap2 := hsh.out.2.1
    have hlc := hsh.out.1
    have c0 := hc 0 (by omega)
    have hd : decide (l.length < 9) = false := by simpa using hshort
    have hd' : decide ((l.length : Int) < 9) = false := by simp; omega
    simp only [Nat.add_zero] at c0
    have HY : Hid (l.getD 0 0 = l.getD 0 0) := rfl
    clear hc
    by_cases h157 : l.getD 0 0 = 157
    · have HH := Lib.hid h157
      have hq : (((l.getD 0 0 : Nat) : Int) != 157) = false := by rw [h157]; rfl
      obtain ⟨y0, hy0⟩ : ∃ y, y = l.getD 0 0 := ⟨_, rfl⟩
      rw [← hy0] at c0 hq
      clear h157 hy0 HY
      -- the parts of the head
      obtain ⟨p1, p1l⟩ := fits_part (lo := 1) (hi := 5) (o2 := off + 1) hsh.out (by omega) (by omega) (.inl rfl)
      obtain ⟨p5, p5l⟩ := fits_part (lo := 5) (hi := 9) (o2 := off + 5) hsh.out (by omega) (by omega) (.inl rfl)
      have HP1 : Hid (Shows w b (some ⟨b, off + 1, Option.none⟩) (cap - 1) ((l.drop 1).take 4)) := p1
      have HP5 : Hid (Shows w b (some ⟨b, off + 5, Option.none⟩) (cap - 5) ((l.drop 5).take 4)) := p5
      have HL1 : Hid (((l.drop 1).take 4).length = 4) := p1l
      have HL5 : Hid (((l.drop 5).take 4).length = 4) := p5l
      have h81 : Hid (B8 ((l.drop 1).take 4)) := (H8.out.drop 1).take 4
      have h85 : Hid (B8 ((l.drop 5).take 4)) := (H8.out.drop 5).take 4
      clear p1 p5 p1l p5l
      go_enter Tryd.func15, Tryd.ntmps15
      go_wp2_with fail
      refine (Number4_any b _ (cap - 1) ((l.drop 1).take 4) 4 w HP1.out.src h81.out HL1.out (by omega)).mono ?_
      rintro x w' ⟨rfl, rfl⟩
      have hNl : num ((l.drop 1).take 4) ≤ 4294967295 := by have := (be4_num HL1.out h81.out).2; omega
      obtain ⟨N, hN⟩ : ∃ N, N = num ((l.drop 1).take 4) := ⟨_, rfl⟩
      have HNN := Lib.hid hN
      rw [← hN] at hNl ⊢
      clear hN
      by_cases hbig : 16384 < N
      · have d1 : decide ((16384 : Int) < (N : Int)) = true := by simp; omega
        have HB := Lib.hid hbig
        clear hbig
        go_wp2
        go_ret3
        refine firstPost_none ?_ rfl (Kept.refl _ _)
        unfold firstB
        rw [if_neg (fun h => h.elim hshort (fun h => h HH.out)), ← HNN.out, if_pos (.inl HB.out)]
      · by_cases hlong : l.length - 9 < N
        · have d1 : decide ((16384 : Int) < (N : Int)) = false := by simp; omega
          have d2 : decide ((l.length : Int) - 9 < (N : Int)) = true := by simp; omega
          have HB := Lib.hid hlong
          clear hlong hbig
          go_wp2
          go_ret3
          refine firstPost_none ?_ rfl (Kept.refl _ _)
          unfold firstB
          rw [if_neg (fun h => h.elim hshort (fun h => h HH.out)), ← HNN.out, if_pos (.inr HB.out)]
        · have d1 : decide ((16384 : Int) < (N : Int)) = false := by simp; omega
          have d2 : decide ((l.length : Int) - 9 < (N : Int)) = false := by simp; omega
          have hN1 : N ≤ 16384 := by omega
          have hN2 : N + 9 ≤ l.length := by omega
          obtain ⟨o9, hA, hB⟩ := rest_at b off cap 9
          obtain ⟨p9, p9l⟩ := fits_part (lo := 9) (hi := N + 9) (o2 := o9) hsh.out (by omega) hN2 hB
          rw [show N + 9 - 9 = N by omega] at p9 p9l
          have HP9 := Lib.hid p9
          have HL9 := Lib.hid p9l
          have h89 : Hid (B8 ((l.drop 9).take N)) := (H8.out.drop 9).take N
          clear hbig hlong p9 p9l hB
          have i5 : (5 : Int) ≤ (cap : Int) := by omega
          have i1 : ¬ cap = 1 := by omega
          have i9 : (9 : Int) ≤ (N : Int) + 9 := by omega
          have iN : (N : Int) + 9 ≤ (cap : Int) := by omega
          have iT : ((N : Int) + 9).toNat = N + 9 := by omega
          obtain ⟨P1, hP1⟩ : ∃ P, P = (l.drop 1).take 4 := ⟨_, rfl⟩
          obtain ⟨P5, hP5⟩ : ∃ P, P = (l.drop 5).take 4 := ⟨_, rfl⟩
          obtain ⟨P9, hP9⟩ : ∃ P, P = (l.drop 9).take N := ⟨_, rfl⟩
          rw [← hP1] at HP1 HL1 h81 HNN
          rw [← hP5] at HP5 HL5 h85
          rw [← hP9] at HP9 HL9 h89
          have HP1e := Lib.hid hP1
          have HP5e := Lib.hid hP5
          have HP9e := Lib.hid hP9
          clear hP1 hP5 hP9
          have own0 : ∀ w, OwnB 5 w 0 Option.none 0 [] := fun w => OwnB.nil _ _ _
          go_wp2
          go_region_law ((first
            | (refine step_append_bytes rfl (.tmp 34) (.tmp 36) 22 rfl 5 i0 Tryd.underlying22 hi hz0 hz1 hz2 w.heap.size Option.none 0 [] 0 (by simp [Act.eval, Act.put]) (OwnB.nil _ _ _) rfl b (some ⟨b, off + 1, Option.none⟩) (cap - 1) P1 4 (by simp [Act.eval, Act.put]) (HP1.out.src.heap rfl) HL1.out (by omega) ?_; intro b1 a1 cap1 w1 h2 h3 h4 h5; obtain ⟨b2, ho2, hb2, hb22, hk2⟩ := own_next (w := w) (wa := w) (l2 := P1) (List.nil_append _) (Nat.le_refl _) (Kept.refl _ _) h2 (h3.heap2 rfl rfl rfl rfl) (by simpa using h4); have HO2 := Lib.hid ho2; have HK2 := Lib.hid hk2; clear h2 h3 h4 h5 ho2 hk2)
            | (refine step_append_bytes rfl (.tmp 37) (.tmp 40) 22 rfl 5 i0 Tryd.underlying22 hi hz0 hz1 hz2 b2 a1 cap1 P1 P1.length (by simp [Act.eval]) (HO2.out.heap rfl) rfl b (some ⟨b, o9, Option.none⟩) (cap - 9) P9 N (by simp [Act.eval]) ((HP9.out.src.kept HK2.out (fun _ h => h)).heap rfl) HL9.out (by rw [HL1.out]; omega) ?_; intro b3 a3 cap3 w3 h2 h3 h4 h5; obtain ⟨b4, ho4, hb4, hb42, hk4⟩ := own_next (w := w) (wa := w1) (l2 := P1 ++ P9) rfl hb2 HK2.out h2 (h3.heap2 rfl rfl rfl rfl) (by simpa using h4); have HO4 := Lib.hid ho4; have HK4 := Lib.hid hk4; clear h2 h3 h4 h5 ho4 hk4)))
          have hcr : crc (P1 ++ P9) ≤ 4294967295 := by have := crc_lt (h81.out.append h89.out); omega
          have hlen : (P1 ++ P9).length = P1.length + P9.length := List.length_append
          have hsum : ∀ v : World, v.heap = w3.heap → Calls Tryd.prog 17 #[.slice a3 (P1.length + P9.length) cap3] v fun e w' => e = .returned (.int .u32 (crc (P1 ++ P9))) ∧ w' = v := by
            intro v hv
            have := refSum_any b4 a3 cap3 (P1 ++ P9) v (HO4.out.src.heap hv) (h81.out.append h89.out) (by rw [hlen, HL1.out, HL9.out]; omega)
            rw [hlen] at this
            exact this.mono fun _ _ ⟨h1, h2⟩ => ⟨h1, h2.symm⟩
          have hnum : ∀ v : World, v.heap = w3.heap → Calls Tryd.prog 29 #[.slice (some ⟨b, off + 5, Option.none⟩) 4 (cap - 5)] v fun e w' => e = .returned (.int .u64 (num P5)) ∧ w' = v := by
            intro v hv
            have := Number4_any b (some ⟨b, off + 5, Option.none⟩) (cap - 5) P5 4 v ((HP5.out.src.kept HK4.out (fun _ h => h)).heap hv) h85.out HL5.out (by omega)
            exact this.mono fun _ _ ⟨h1, h2⟩ => ⟨h1, h2.symm⟩
          have HSUM := Lib.hid hsum
          have HNUM := Lib.hid hnum
          have hnl : num P5 ≤ 4294967295 := by have := (be4_num HL5.out h85.out).2; omega
          obtain ⟨cr, hce⟩ : ∃ cr, cr = crc (P1 ++ P9) := ⟨_, rfl⟩
          obtain ⟨nm, hne⟩ : ∃ nm, nm = num P5 := ⟨_, rfl⟩
          have HCE := Lib.hid hce
          have HNE := Lib.hid hne
          rw [← hce] at hcr HSUM
          rw [← hne] at hnl HNUM
          clear hsum hnum hlen hce hne
          have i9c : (9 : Int) ≤ (cap : Int) := by omega
          have i5n : ¬ cap = 5 := by omega
          have hwr : IntKind.u64.wrap (cr : Int) = (cr : Int) := by simp [IntKind.wrap, IntKind.bits, IntKind.signed]; omega
          by_cases heq : cr = nm
          · have hq2 : ((cr : Int) != (nm : Int)) = false := by simp [heq]
            have HEQ := Lib.hid heq
            clear heq
            go_wp2
            go_quiet ((first | (go_at_call 17; exact Calls.quiet_of_same (HSUM.out _ rfl)) | (go_at_call 29; exact Calls.quiet_of_same (HNUM.out _ rfl))))
            obtain ⟨w5, hw5⟩ : ∃ w5, w5 = w3.drewN nq := ⟨_, rfl⟩
            rw [← hw5]
            have HK5 : Hid (Kept None w w5) := by rw [hw5]; exact HK4.out.drewN nq
            clear hw5
            go_wp2_with (at_builtin; refine wpList_append_bytes rfl _ _ 22 rfl 5 i0 Tryd.underlying22 hi hz0 hz1 hz2 w5.heap.size Option.none 0 [] 0 rfl (OwnB.nil _ _ _) rfl b (some ⟨b, o9, Option.none⟩) (cap - 9) P9 N rfl (HP9.out.src.kept HK5.out (fun _ h => h)) HL9.out (by omega) ?_)
            intro b6 a6 cap6 w6 h2 h3 h4 h5
            obtain ⟨b7, ho7, hb7, hb72, hk7⟩ := own_next (w := w) (wa := w5) (l2 := P9) (List.nil_append _) HK5.out.size HK5.out h2 h3 (by simpa using h4)
            have HO7 := Lib.hid ho7
            have HK7 := Lib.hid hk7
            clear h2 h3 h4 h5 ho7 hk7
            go_wp2
            go_ret3
            unfold FirstPost firstB
            rw [if_neg (fun h => h.elim hshort (fun h => h HH.out)), ← HP1e.out, ← HNN.out, if_neg (by omega), ← HP9e.out, ← HP5e.out, ← HCE.out, ← HNE.out, if_pos HEQ.out]
            exact ⟨b7, a6, cap6, by first | rfl | simp, HO7.out, hb7, hb72, HK7.out⟩
          · have hq2 : ((cr : Int) != (nm : Int)) = true := bne_iff_ne.2 (by omega)
            have HEQ := Lib.hid heq
            clear heq
            go_wp2
            go_quiet ((first | (go_at_call 17; exact Calls.quiet_of_same (HSUM.out _ rfl)) | (go_at_call 29; exact Calls.quiet_of_same (HNUM.out _ rfl))))
            go_wp2
            go_ret3
            refine firstPost_none ?_ rfl (HK4.out.heap_end rfl rfl rfl rfl)
            unfold firstB
            rw [if_neg (fun h => h.elim hshort (fun h => h HH.out)), ← HP1e.out, ← HNN.out, if_neg (by omega), ← HP9e.out, ← HP5e.out, ← HCE.out, ← HNE.out, if_neg HEQ.out]
    · have hq : (((l.getD 0 0 : Nat) : Int) != 157) = true := bne_iff_ne.2 (by omega)
      have HN := Lib.hid (first_none_head (b := l) (.inr h157))
      obtain ⟨y0, hy0⟩ : ∃ y, y = l.getD 0 0 := ⟨_, rfl⟩
      rw [← hy0] at c0 hq
      clear h157 hy0 HY
      go_enter Tryd.func15, Tryd.ntmps15
      go_wp2
      go_ret3
      exact firstPost_none HN.out rfl (Kept.refl _ _)
end Go.Proofs.YtfbibmdjahfneaaDoor.Fr
