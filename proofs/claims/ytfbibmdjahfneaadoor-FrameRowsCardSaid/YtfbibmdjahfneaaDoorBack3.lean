/- FrameBack's walk. -/
import Derived.Test.YtfbibmdjahfneaaDoorWakes3
namespace Go.Proofs.YtfbibmdjahfneaaDoor.Fr
open Go Go.RowKit Mem Kp
theorem same_refl (l : List Nat) : decide (l = l) = true := by simp
set_option maxHeartbeats 4000000 in
theorem FrameBack_any (b : Nat) (a : Option Addr) (cap : Nat) (p : List Nat) (b2 : Nat) (a2 : Option Addr) (cap2 : Nat) (m : List Nat) (w : World) (hs : Src w b a cap p) (h8 : B8 p) (hs2 : Src w b2 a2 cap2 m) (h82 : B8 m) (hpl : p.length ≤ 9223372036854775807) (hml : m.length ≤ 9223372036854775807) (hT : Tab w) :
    Calls Tryd.prog 4 #[.slice a p.length cap, .slice a2 m.length cap2] w fun e w' => e = .returned (.bool true) ∧ Kept None w w' := by
  have HT := Lib.hid hT
  clear hT
  obtain ⟨i0, hi, hz0, hz1, hz2⟩ := info_parts infoU8
  have HS := Lib.hid hs
  have H8 := Lib.hid h8
  have HS2 := Lib.hid hs2
  have H82 := Lib.hid h82
  clear hs h8 hs2 h82
  by_cases hbig : 16384 < p.length
  · have d1 : decide (16384 < p.length) = true := by simpa using hbig
    have d1' : decide ((16384 : Int) < (p.length : Int)) = true := by simp; omega
    go_enter Tryd.func4, Tryd.ntmps4
    go_wp2
    go_ret
    exact ⟨rfl, Kept.refl _ _⟩
  · have d1 : decide (16384 < p.length) = false := by simpa using hbig
    have d1' : decide ((16384 : Int) < (p.length : Int)) = false := by simp; omega
    by_cases hbig2 : 65536 < m.length
    · have d2 : decide (65536 < m.length) = true := by simpa using hbig2
      have d2' : decide ((65536 : Int) < (m.length : Int)) = true := by simp; omega
      go_enter Tryd.func4, Tryd.ntmps4
      go_wp2
      go_ret
      exact ⟨rfl, Kept.refl _ _⟩
    · have d2 : decide (65536 < m.length) = false := by simpa using hbig2
      have d2' : decide ((65536 : Int) < (m.length : Int)) = false := by simp; omega
      have hp : p.length ≤ 16384 := by omega
      have hm : m.length ≤ 65536 := by omega
      clear hbig hbig2
      have hseal := Seal_any b a cap p w HS.out H8.out
      rw [sealPost_ok hp] at hseal
      have HSE := Lib.hid hseal
      have HSL : Hid ((sealB p).length = p.length + 9) := seal_len p
      have HS8 : Hid (B8 (sealB p)) := seal_b8 H8.out
      have HFI : Hid (firstB (sealB p ++ m) = some (p, p.length + 9)) := first_seal H8.out hp m
      clear hseal
      go_enter Tryd.func4, Tryd.ntmps4
      go_wp2_with fail
      refine HSE.out.mono ?_
      rintro x w1 ⟨b1, a1, cap1, rfl, ho1, hb1, hb12, hk1⟩
      have HO1 := Lib.hid ho1
      have HK1 := Lib.hid hk1
      clear ho1 hk1
      go_wp2_with fail
      have htw := Twin_any b1 a1 cap1 (sealB p) w1 HO1.out.src (by rw [HSL.out]; omega)
      rw [HSL.out] at htw
      refine htw.mono ?_
      clear htw
      rintro x w2 ⟨b2', a2', cap2', rfl, ho2, hb2, hk2, hb22⟩
      rw [HSL.out]
      have HO2 := Lib.hid ho2
      have HK2 := Lib.hid (HK1.out.trans hk2)
      have hb2w : w.heap.size ≤ b2' := Nat.le_trans HK1.out.size hb2
      clear ho2 hk2
      go_wp2_with (at_builtin; refine wpList_append_bytes rfl _ _ 22 rfl 5 i0 Tryd.underlying22 hi hz0 hz1 hz2 b2' a2' cap2' (sealB p) (p.length + 9) rfl HO2.out HSL.out b2 a2 cap2 m _ rfl (HS2.out.kept HK2.out (fun _ h => h)) rfl (by omega) ?_)
      intro b3 a3 cap3 w3 h2 h3 h4 h5
      obtain ⟨b4, ho4, hb4, hb42, hk4⟩ := own_next (l2 := sealB p ++ m) rfl hb2w HK2.out h2 h3 (by simpa using h4)
      have HO4 := Lib.hid ho4
      have HK4 := Lib.hid hk4
      clear h2 h3 h4 h5 ho4 hk4
      go_wp2_with fail
      have hfi := First_any b4 a3 cap3 (sealB p ++ m) w3 HO4.out.src (HS8.out.append H82.out) (by rw [List.length_append, HSL.out]; omega)
      rw [findPost_some HFI.out, List.length_append, HSL.out] at hfi
      refine hfi.mono ?_
      clear hfi
      rintro x w5 ⟨b5, a5, cap5, rfl, ho5, hb5, hb52, hk5⟩
      have HO5 := Lib.hid ho5
      have HK5 := Lib.hid (HK4.out.trans hk5)
      clear ho5 hk5
      go_wp2_with fail
      refine (KBytes_any b5 a5 cap5 p b a cap p w5 HO5.out.src (HS.out.kept HK5.out (fun _ h => h)) (by omega) (by omega)).mono ?_
      rintro x w6 ⟨rfl, n6, rfl⟩
      rw [same_refl]
      go_wp2_with fail
      refine (wakes_any _).mono ?_
      rintro x w7 ⟨rfl, hk7⟩
      have HK7 := Lib.hid ((HK5.out.drewN n6).trans hk7)
      clear hk7
      go_wp2
      go_ret
      exact ⟨rfl, HK7.out⟩
end Go.Proofs.YtfbibmdjahfneaaDoor.Fr
