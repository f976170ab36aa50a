/- FrameRows' walk. -/
import Derived.Test.YtfbibmdjahfneaaDoorFew3
namespace Go.Proofs.YtfbibmdjahfneaaDoor.Fr
open Go Go.RowKit Mem Kp
theorem first_other {y : Nat} (h : y ≠ 157) (r : List Nat) : firstB (y :: r) = none := first_none_head (.inr h)
set_option maxHeartbeats 8000000 in
theorem FrameRows_any (a : Option Addr) (cap : Nat) (R : List Row) (m : Int) (b2 : Nat) (a2 : Option Addr) (cap2 : Nat) (r : List Nat) (w : World) (h : RowsAt w a cap R) (hR : R.length ≤ 9223372036854775807) (hrl : ∀ l ∈ bytesOf R, l.length ≤ 9223372036854775807) (hr8 : ∀ l ∈ bytesOf R, B8 l)
    (hm0 : 0 ≤ m) (hm1 : m ≤ 255) (hs2 : Src w b2 a2 cap2 r) (h82 : B8 r) (hrr : r.length ≤ 9223372036854775807) (hT : Tab w) :
    Calls Tryd.prog 9 #[.slice a R.length cap, .int .u8 m, .slice a2 r.length cap2] w fun e w' => e = .returned (.bool true) ∧ Kept None w w' := by
  have HT := Lib.hid hT
  clear hT
  obtain ⟨i0, hi, hz0, hz1, hz2⟩ := info_parts infoU8
  obtain ⟨c, rfl⟩ : ∃ c : Nat, m = (c : Int) := ⟨m.toNat, by omega⟩
  have hc : c < 256 := by omega
  have HS := Lib.hid h
  have HS2 := Lib.hid hs2
  have H82 := Lib.hid h82
  have HR8 := Lib.hid hr8
  have hfw := few_any a cap R w h hR hrl
  have HF := Lib.hid hfw
  have BL := Lib.hid (bytes_len R)
  clear h hs2 h82 hr8 hrl hfw hm0 hm1
  by_cases hfew : Few (bytesOf R)
  case neg =>
    have HN := Lib.hid hfew
    clear hfew
    go_enter Tryd.func9, Tryd.ntmps9
    go_wp2_with fail
    refine HF.out.mono ?_
    rintro x w' ⟨rfl, ⟨rfl, hh⟩ | ⟨rfl, _⟩⟩
    · exact absurd hh HN.out
    · go_wp2
      go_ret
      exact ⟨rfl, Kept.refl _ _⟩
  case pos =>
    have HFW := Lib.hid hfew
    clear hfew
    by_cases h157 : c = 157
    · subst h157
      go_enter Tryd.func9, Tryd.ntmps9
      go_wp2_with fail
      refine HF.out.mono ?_
      rintro x w' ⟨rfl, ⟨rfl, _⟩ | ⟨rfl, hh⟩⟩
      · go_wp2
        go_ret
        exact ⟨rfl, Kept.refl _ _⟩
      · exact absurd HFW.out hh
    · have hq : ((c : Int) == 157) = false := by simp; omega
      have HC := Lib.hid h157
      clear h157
      by_cases hbig : 65536 < r.length
      · have d1 : decide (65536 < r.length) = true := by simpa using hbig
        have d1' : decide ((65536 : Int) < (r.length : Int)) = true := by simp; omega
        go_enter Tryd.func9, Tryd.ntmps9
        go_wp2_with fail
        refine HF.out.mono ?_
        rintro x w' ⟨rfl, ⟨rfl, _⟩ | ⟨rfl, hh⟩⟩
        · go_wp2
          go_ret
          exact ⟨rfl, Kept.refl _ _⟩
        · exact absurd HFW.out hh
      · have d1 : decide (65536 < r.length) = false := by simpa using hbig
        have d1' : decide ((65536 : Int) < (r.length : Int)) = false := by simp; omega
        have hr : r.length ≤ 65536 := by omega
        have hRl : R.length ≤ 60 := by rw [← BL.out]; exact HFW.out.1
        clear hbig
        go_enter Tryd.func9, Tryd.ntmps9
        go_wp2_with fail
        refine HF.out.mono ?_
        rintro x w' ⟨rfl, ⟨rfl, _⟩ | ⟨rfl, hh⟩⟩
        case inr => exact absurd HFW.out hh
        case inl =>
        go_wp2
        go_loopw [7, 8] (fun v i wr => ∃ (k br cr n : Nat) (ar : Option Addr), k ≤ R.length ∧ n ≤ 30540 ∧ i = .int .i64 k ∧ v = .slice ar n cr ∧ Hid (OwnB 5 wr br ar cr (seals ((bytesOf R).take k)) ∧ n = (seals ((bytesOf R).take k)).length ∧ w.heap.size ≤ br ∧ br ≤ wr.heap.size ∧ Kept None w wr)) (fun _ i _ => R.length - (intOf i).toNat)
        case atStart => exact ⟨0, w.heap.size, 0, 0, none, by omega, by omega, rfl, rfl, OwnB.nil _ _ _, rfl, Nat.le_refl _, Nat.le_refl _, Kept.refl _ _⟩
        case round =>
          obtain ⟨k, br, cr, n, ar, hk, hn, rfl, rfl, hw⟩ := hrel
          by_cases hlt : k < R.length
          · obtain ⟨b1, o1, bi1, ai1, ci1, rfl, dc, s1⟩ := (HS.out.kept hw.out.2.2.2.2).at_ k hlt
            have hkL : k < (bytesOf R).length := by rw [BL.out]; exact hlt
            have hst := Lib.hid (seals_take hkL)
            have hmem : (bytesOf R).getD k [] ∈ bytesOf R := getD_mem hkL
            have h8y := Lib.hid (HR8.out _ hmem)
            have hyl := HFW.out.2 _ hmem
            have hnb := Lib.hid (seals_few_take HFW.out (k + 1))
            have S1 := Lib.hid s1
            clear s1 hmem hkL
            generalize (bytesOf R).getD k [] = y at *
            have HSL : Hid ((sealB y).length = y.length + 9) := seal_len y
            go_wp2_with fail
            have hseal := Seal_any bi1 ai1 ci1 y wr S1.out h8y.out (HT.out.kept hw.out.2.2.2.2)
            rw [sealPost_ok (by omega)] at hseal
            refine hseal.mono ?_
            clear hseal
            rintro x w3 ⟨b3, a3, c3, rfl, ho3, hb3, hb32, hk3⟩
            have HO3 := Lib.hid ho3
            have HB3 : Hid (OwnB 5 w3 br ar cr (seals ((bytesOf R).take k))) := hw.out.1.kept hk3 (fun _ h => h)
            have HK3 := Lib.hid (hw.out.2.2.2.2.trans hk3)
            have hbr := hw.out.2.2.1
            clear ho3 hk3
            go_wp2_with (at_builtin; refine wpList_append_bytes rfl _ _ 22 rfl 5 i0 Tryd.underlying22 hi hz0 hz1 hz2 br ar cr (seals ((bytesOf R).take k)) n rfl HB3.out hw.out.2.1.symm b3 a3 c3 (sealB y) (y.length + 9) rfl HO3.out.src HSL.out (by omega) ?_)
            intro b4 a4 c4 w4 h2 h3 h4 h5
            obtain ⟨b5, ho5, hb5, hb52, hk5⟩ := own_next (l2 := seals ((bytesOf R).take (k + 1))) hst.out.symm hbr HK3.out h2 h3 (by simpa using h4)
            have HO5 := Lib.hid ho5
            have HK5 := Lib.hid hk5
            clear h2 h3 h4 h5 ho5 hk5
            have hnn : Hid (n + (y.length + 9) = (seals ((bytesOf R).take (k + 1))).length) := by rw [hst.out, List.length_append, HSL.out, ← hw.out.2.1]; rfl
            have hnl : n + (y.length + 9) ≤ 30540 := by have := hnb.out; rw [← hnn.out] at this; exact this
            go_wp2
            go_roundw
            case rel => exact ⟨k + 1, b5, c4, n + (y.length + 9), a4, by omega, hnl, by go_num, by first | rfl | (rw [HSL.out, ← hw.out.2.1]), HO5.out, hnn.out, hb5, hb52, HK5.out⟩
            case measure => simp [intOf]; omega
          · obtain rfl : k = R.length := by omega
            have htake : (bytesOf R).take R.length = bytesOf R := by rw [← BL.out, List.take_length]
            have HB := hw
            rw [htake] at HB
            have hfit : Fit (bytesOf R) := few_fit HFW.out HR8.out
            have hS1 := Lib.hid (scan_seals (r := []) hfit first_nil)
            have hS2 := Lib.hid (scan_seals (r := c :: r) hfit (first_other HC.out r))
            have hb8 := Lib.hid (seals_b8 _ HR8.out)
            clear htake hw hfit
            generalize hall : seals (bytesOf R) = all at *
            have HO := Lib.hid HB.out.1
            have HNl := Lib.hid HB.out.2.1
            have hbr := HB.out.2.2.1
            have HK := Lib.hid HB.out.2.2.2.2
            clear HB hall
            go_wp2_with fail
            have hn2 : Hid (all.length = n) := HNl.out.symm
            have htw := Twin_any br ar cr all wr HO.out.src (by rw [hn2.out]; omega)
            rw [hn2.out] at htw
            refine htw.mono ?_
            clear htw
            rintro x w2 ⟨b5, a5, c5, rfl, ho5, hb5, hk5, hb52⟩
            rw [hn2.out]
            have HO5 := Lib.hid ho5
            have HA5 : Hid (OwnB 5 w2 br ar cr all) := HO.out.kept hk5 (fun _ h => h)
            have HK5 := Lib.hid (HK.out.trans hk5)
            have hb5w : w.heap.size ≤ b5 := Nat.le_trans HK.out.size hb5
            have hne : Hid (ar ≠ none → br ≠ b5) := fun h => by have := HO.out.lt h; omega
            clear ho5 hk5
            obtain ⟨W3, hW3⟩ : ∃ W, W = w2.alloc (.cells #[.int .u8 (c : Int)] 5) := ⟨_, rfl⟩
            have k3 : Kept None w2 W3 := by rw [hW3]; exact (Kept.refl _ _).alloc _
            have HL3 : Hid (Src W3 w2.heap.size (some ⟨w2.heap.size, 0, none⟩) 1 [c]) := by rw [hW3]; exact shows_lit w2 _ _ c rfl
            have HO6 : Hid (OwnB 5 W3 b5 a5 c5 all) := HO5.out.kept k3 (fun _ h => h)
            have HA6 : Hid (OwnB 5 W3 br ar cr all) := HA5.out.kept k3 (fun _ h => h)
            have HK6 := Lib.hid (HK5.out.trans k3)
            clear k3
            go_wp2_with (at_builtin; rw [← hW3]; clear hW3; refine wpList_append_bytes rfl _ _ 22 rfl 5 i0 Tryd.underlying22 hi hz0 hz1 hz2 b5 a5 c5 all n rfl HO6.out hn2.out w2.heap.size (some ⟨w2.heap.size, 0, none⟩) 1 [c] 1 rfl HL3.out rfl (by omega) ?_)
            intro b7 a7 c7 w7 h2 h3 h4 h5
            have HA7 : Hid (OwnB 5 w7 br ar cr all) := HA6.out.kept h3 (fun h e => hne.out h e.2)
            have hsz := HK6.out.size
            have hbr6 : ar ≠ none → br < W3.heap.size := fun h => HA6.out.lt h
            have hb7w : w.heap.size ≤ b7 := by rcases h4 with ⟨rfl, _⟩ | h4 <;> omega
            have hne7 : Hid (ar ≠ none → br ≠ b7) := fun h => by
              rcases h4 with ⟨rfl, _⟩ | h4
              · exact hne.out h
              · have := hbr6 h; omega
            obtain ⟨b8, ho8, hb8', hb82, hk8⟩ := own_next (l2 := all ++ [c]) rfl hb5w HK6.out h2 h3 (by simpa using h4)
            have HO8 := Lib.hid h2
            have HK8 := Lib.hid hk8
            have hl1 : Hid ((all ++ [c]).length = all.length + 1) := List.length_append
            have hnl : all.length ≤ 30540 := by rw [hn2.out]; exact hn
            clear h2 h3 h4 h5 ho8 hb8' hb82 hk8 hsz hbr6
            go_wp2_with (at_builtin; refine wpList_append_bytes rfl _ _ 22 rfl 5 i0 Tryd.underlying22 hi hz0 hz1 hz2 b7 a7 c7 (all ++ [c]) (all.length + 1) rfl HO8.out hl1.out b2 a2 cap2 r r.length rfl (HS2.out.kept HK8.out (fun _ h => h)) rfl (by omega) ?_)
            intro b9 a9 c9 w9 h2 h3 h4 h5
            have HA9 : Hid (OwnB 5 w9 br ar cr all) := HA7.out.kept h3 (fun h e => hne7.out h e.2)
            obtain ⟨b10, ho10, hb10, hb102, hk10⟩ := own_next (l2 := all ++ c :: r) rfl hb7w HK8.out h2 h3 (by simpa using h4)
            have HO10 := Lib.hid ho10
            have HK10 := Lib.hid hk10
            clear h2 h3 h4 h5 ho10 hk10
            have hl2 : Hid ((all ++ c :: r).length = all.length + (r.length + 1)) := by rw [List.length_append, List.length_cons]; exact rfl
            go_wp2_with fail
            have hsc := Scan_any b10 a9 c9 (all ++ c :: r) w9 HO10.out.src (hb8.out.append (fun y hy => by rcases List.mem_cons.1 hy with rfl | hy; exact hc; exact H82.out y hy)) (by rw [hl2.out]; omega)
            rw [hl2.out] at hsc
            refine hsc.mono ?_
            clear hsc
            rintro x w11 ⟨b11, a11, c11, R1, rfl, ho11, hap, hR1⟩
            rw [hS2.out] at hR1 ⊢
            have HR1 := Lib.hid hR1
            have HO11 := Lib.hid ho11
            have HA11 : Hid (OwnB 5 w11 br ar cr all) := HA9.out.kept ho11.kept (fun _ h => h)
            have HK11 := Lib.hid (HK10.out.trans ho11.kept)
            clear hap hR1 ho11
            go_wp2_with fail
            have hsc := Scan_any br ar cr all w11 HA11.out.src hb8.out (by rw [hn2.out]; omega)
            rw [hn2.out] at hsc
            refine hsc.mono ?_
            clear hsc
            rintro x w12 ⟨b12, a12, c12, R2, rfl, ho12, hap, hR2⟩
            rw [List.append_nil] at hS1
            rw [hS1.out] at hR2 ⊢
            have HR2 := Lib.hid hR2
            have HO12 := Lib.hid ho12
            have HO11' := Lib.hid (HO11.out.on ho12.kept)
            have HK12 := Lib.hid (HK11.out.trans ho12.kept)
            clear hap hR2 ho12
            have hnn := same_int' n
            have hshR : Hid (Short R) := short_of (L := bytesOf R) rfl 500 (by decide) HFW.out.2
            have hsh1 : Hid (Short R1) := short_of HR1.out 500 (by decide) HFW.out.2
            have hsh2 : Hid (Short R2) := short_of HR2.out 500 (by decide) HFW.out.2
            have hl1 : R1.length = R.length := by rw [← bytes_len, HR1.out, bytes_len]
            have hl2 : R2.length = R.length := by rw [← bytes_len, HR2.out, bytes_len]
            have HL1 := Lib.hid hl1
            have HL2 := Lib.hid hl2
            clear hl1 hl2
            rw [hn2.out, HL2.out]
            rw [HL1.out]
            have HRk : Hid (RowsAt w12 a cap R) := HS.out.kept HK12.out
            clear hn2
            go_wp2_with fail
            have hrw := KRows_any a11 c11 R1 a cap R w12 HO11'.out.rows HRk.out hsh1.out hshR.out (by rw [HL1.out]; omega)
            rw [HL1.out] at hrw
            refine hrw.mono ?_
            clear hrw
            rintro x w13 ⟨rfl, n13, rfl⟩
            rw [HR1.out, show decide (bytesOf R = bytesOf R) = true by simp]
            obtain ⟨w13, hW13⟩ : ∃ W, W = w12.drewN n13 := ⟨_, rfl⟩
            rw [← hW13]
            have k13 : Kept None w12 w13 := by rw [hW13]; exact (Kept.refl _ _).drewN n13
            have HO13 := Lib.hid (HO12.out.on k13)
            have HRl : Hid (RowsAt w13 a cap R) := HRk.out.kept k13
            have HK13 := Lib.hid (HK12.out.trans k13)
            clear hW13 k13
            go_wp2_with fail
            have hrw := KRows_any a12 c12 R2 a cap R w13 HO13.out.rows HRl.out hsh2.out hshR.out (by rw [HL2.out]; omega)
            rw [HL2.out] at hrw
            refine hrw.mono ?_
            clear hrw
            rintro x w14 ⟨rfl, n14, rfl⟩
            rw [HR2.out, show decide (bytesOf R = bytesOf R) = true by simp]
            go_wp2_with fail
            refine (wakes_any _).mono ?_
            rintro x w15 ⟨rfl, hk15⟩
            have HKg := Lib.hid ((HK13.out.drewN n14).trans hk15)
            clear hk15
            go_wp2
            go_ret
            exact ⟨rfl, HKg.out⟩
end Go.Proofs.YtfbibmdjahfneaaDoor.Fr
