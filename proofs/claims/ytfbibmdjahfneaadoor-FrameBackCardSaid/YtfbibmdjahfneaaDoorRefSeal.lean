/- The walk of the reference's Seal. -/
import Derived.Test.YtfbibmdjahfneaaDoorRefFrame
namespace Go.Proofs.YtfbibmdjahfneaaDoor.Fr
open Go Go.RowKit Mem Kp
theorem Mine.kept {w wr w' : World} {v : Value} {l : List Nat} (h : Mine w wr v l) (hk : Kept None wr w') : Mine w w' v l := by
  obtain ⟨b, a, cap, hv, ho, hb, hb2, hkk⟩ := h
  exact ⟨b, a, cap, hv, ho.kept hk (fun _ h => h), hb, Nat.le_trans hb2 hk.size, hkk.trans hk⟩
theorem NewB.mine {l : List Nat} {w wr w' : World} {x : Ending} (hk : Kept None w wr) (h : NewB l wr x w') : ∃ a cap, x = .returned (.slice a l.length cap) ∧ Mine w w' (.slice a l.length cap) l := by
  obtain ⟨b, a, cap, hx, ho, hb, hk2, hb2⟩ := h
  exact ⟨a, cap, hx, b, a, cap, rfl, ho, Nat.le_trans hk.size hb, hb2, hk.trans hk2⟩
/-- behind an append in the world wa: the bytes are the call's own -/
theorem own_next {w wa w' : World} {b b' : Nat} {a a' : Option Addr} {cap' : Nat} {l l2 : List Nat} (e : l = l2) (hb : w.heap.size ≤ b) (hk : Kept None w wa) (h2 : OwnB 5 w' b' a' cap' l) (h3 : Kept (Of a b) wa w') (h4 : (b' = b ∧ (a' = none ∨ a ≠ none)) ∨ wa.heap.size ≤ b') :
    ∃ b3, OwnB 5 w' b3 a' cap' l2 ∧ w.heap.size ≤ b3 ∧ b3 ≤ w'.heap.size ∧ Kept None w w' := by
  subst e
  obtain ⟨b3, a3, c3, e, ho, h5, h6, h7⟩ := mine_append (w := w) (wr := wa) hb hk (Kept.refl _ _) h2 h3 h4
  cases e
  exact ⟨b3, ho, h5, h6, h7⟩
set_option maxHeartbeats 4000000 in
theorem refSeal_any (b : Nat) (a : Option Addr) (cap : Nat) (p : List Nat) (w : World) (h : Src w b a cap p) (h8 : B8 p) (hl : p.length ≤ 1048576) :
    Calls Tryd.prog 13 #[.slice a p.length cap] w (NewB (sealB p) w) := by
  obtain ⟨i0, hi, hz0, hz1, hz2⟩ := info_parts infoU8
  have HS := Lib.hid h
  have H8 := Lib.hid h8
  have hb4 : ∀ x, (be4 x).length = 4 := fun _ => rfl
  have HB4 := Lib.hid hb4
  clear h h8 hb4
  go_enter Tryd.func13, Tryd.ntmps13
  go_wp2_with fail
  refine (High4_any p.length w).mono ?_
  rintro x w1 ⟨b1, a1, cap1, rfl, ho1, hb1, hk1, hb12⟩
  have HO1 := Lib.hid ho1
  have HK1 := Lib.hid hk1
  clear ho1 hk1
  have own0 : OwnB 5 w1 w1.heap.size Option.none 0 [] := OwnB.nil _ _ _
  go_wp2_with (at_builtin; refine wpList_append_bytes rfl _ _ 22 rfl 5 i0 Tryd.underlying22 hi hz0 hz1 hz2 w1.heap.size Option.none 0 [] 0 rfl own0 rfl b1 a1 cap1 (be4 p.length) _ rfl HO1.out.src rfl (by rw [HB4.out]; omega) ?_)
  intro b2 a2 cap2 w2 h2 h3 h4 h5
  obtain ⟨b3, ho3, hb3, hb32, hk3⟩ := own_next (l2 := be4 p.length) (List.nil_append _) HK1.out.size HK1.out h2 h3 (by simpa using h4)
  have HO3 := Lib.hid ho3
  have HK3 := Lib.hid hk3
  clear h2 h3 h4 h5 own0 ho3 hk3
  go_wp2_with (at_builtin; refine wpList_append_bytes rfl _ _ 22 rfl 5 i0 Tryd.underlying22 hi hz0 hz1 hz2 b3 a2 cap2 (be4 p.length) _ rfl HO3.out rfl b a cap p _ rfl (HS.out.kept HK3.out (fun _ h => h)) rfl (by rw [HB4.out]; omega) ?_)
  intro b4 a4 cap4 w4 h2 h3 h4 h5
  obtain ⟨b5, ho5, hb5, hb52, hk5⟩ := own_next (l2 := be4 p.length ++ p) rfl hb3 HK3.out h2 h3 (by simpa using h4)
  have HO5 := Lib.hid ho5
  have HK5 := Lib.hid hk5
  clear h2 h3 h4 h5 ho5 hk5
  go_wp2_with fail
  -- the frame's own bytes
  obtain ⟨w5, hw5⟩ : ∃ w5, w5 = w4.alloc (.cells #[.int .u8 157] 5) := ⟨_, rfl⟩
  rw [← hw5]
  have k45 : Kept None w4 w5 := by rw [hw5]; exact (Kept.refl _ _).alloc _
  have HO6 : Hid (OwnB 5 w5 w4.heap.size (some ⟨w4.heap.size, 0, Option.none⟩) 1 [157]) := by rw [hw5]; exact own_new (l := [157]) (Nat.le_refl 1) (by decide) rfl rfl
  have HA5 : Hid (OwnB 5 w5 b5 a4 cap4 (be4 p.length ++ p)) := HO5.out.kept k45 (fun _ h => h)
  have HK6 := Lib.hid (HK5.out.trans k45)
  have hb6 : w.heap.size ≤ w4.heap.size := HK5.out.size
  have hlall : (be4 p.length ++ p).length = (be4 p.length).length + p.length := List.length_append
  have HLA := Lib.hid hlall
  have HA8 : Hid (B8 (be4 p.length ++ p)) := (be4_b8 _).append H8.out
  clear hw5 k45 hlall
  refine (High4_any p.length w5).mono ?_
  rintro x w7 ⟨b7, a7, cap7, rfl, ho7, hb7, hk7, hb72⟩
  have HO7 := Lib.hid ho7
  have HK7 := Lib.hid (HK6.out.trans hk7)
  have HO67 : Hid (OwnB 5 w7 w4.heap.size (some ⟨w4.heap.size, 0, Option.none⟩) 1 [157]) := HO6.out.kept hk7 (fun _ h => h)
  have HA7 : Hid (OwnB 5 w7 b5 a4 cap4 (be4 p.length ++ p)) := HA5.out.kept hk7 (fun _ h => h)
  have hne : Hid (a4 ≠ Option.none → b5 ≠ w4.heap.size) := fun ha => by have := HO5.out.lt ha; omega
  clear ho7 hk7
  go_wp2_with (at_builtin; refine wpList_append_bytes rfl _ _ 22 rfl 5 i0 Tryd.underlying22 hi hz0 hz1 hz2 w4.heap.size (some ⟨w4.heap.size, 0, Option.none⟩) 1 [157] 1 rfl HO67.out rfl b7 a7 cap7 (be4 p.length) _ rfl HO7.out.src rfl (by rw [HB4.out]; omega) ?_)
  intro b8 a8 cap8 w8 h2 h3 h4 h5
  have HA9 : Hid (OwnB 5 w8 b5 a4 cap4 (be4 p.length ++ p)) := HA7.out.kept h3 (fun ha e => hne.out ha e.2)
  obtain ⟨b9, ho9, hb9, hb92, hk9⟩ := own_next (l2 := 157 :: be4 p.length) rfl hb6 HK7.out h2 h3 (by simpa using h4)
  have HO9 := Lib.hid ho9
  have HK9 := Lib.hid hk9
  clear h2 h3 h4 h5 ho9 hk9
  go_wp2_with fail
  have hsum := refSum_any b5 a4 cap4 (be4 p.length ++ p) w8 HA9.out.src HA8.out (by rw [HLA.out, HB4.out]; omega)
  rw [HLA.out] at hsum
  refine hsum.mono ?_
  rintro x w' ⟨rfl, rfl⟩
  clear hsum
  have hcl : crc (be4 p.length ++ p) ≤ 4294967295 := by have := crc_lt HA8.out; omega
  generalize hcr : crc (be4 p.length ++ p) = cr at *
  have HCR := Lib.hid hcr
  clear hcr
  go_wp2_with fail
  refine (High4_any cr w8).mono ?_
  rintro x w10 ⟨b10, a10, cap10, rfl, ho10, hb10, hk10, hb102⟩
  have HO10 := Lib.hid ho10
  have HK10 := Lib.hid (HK9.out.trans hk10)
  have HO910 : Hid (OwnB 5 w10 b9 a8 cap8 (157 :: be4 p.length)) := HO9.out.kept hk10 (fun _ h => h)
  clear ho10 hk10
  go_wp2_with (at_builtin; refine wpList_append_bytes rfl _ _ 22 rfl 5 i0 Tryd.underlying22 hi hz0 hz1 hz2 b9 a8 cap8 (157 :: be4 p.length) _ rfl HO910.out rfl b10 a10 cap10 (be4 cr) _ rfl HO10.out.src rfl (by have := HB4.out p.length; have := HB4.out cr; omega) ?_)
  intro b11 a11 cap11 w11 h2 h3 h4 h5
  obtain ⟨b12, ho12, hb12, hb122, hk12⟩ := own_next (l2 := 157 :: (be4 p.length ++ be4 cr)) rfl hb9 HK10.out h2 h3 (by simpa using h4)
  have HO12 := Lib.hid ho12
  have HK12 := Lib.hid hk12
  have hl12 : (157 :: (be4 p.length ++ be4 cr)).length = (be4 p.length).length + (be4 cr).length + 1 := by simp
  have HL12 := Lib.hid hl12
  clear h2 h3 h4 h5 ho12 hk12 hl12
  go_wp2_with (at_builtin; refine wpList_append_bytes rfl _ _ 22 rfl 5 i0 Tryd.underlying22 hi hz0 hz1 hz2 b12 a11 cap11 (157 :: (be4 p.length ++ be4 cr)) _ rfl HO12.out HL12.out b a cap p _ rfl (HS.out.kept HK12.out (fun _ h => h)) rfl (by have := HB4.out p.length; have := HB4.out cr; omega) ?_)
  intro b13 a13 cap13 w13 h2 h3 h4 h5
  obtain ⟨b14, ho14, hb14, hb142, hk14⟩ := own_next (l2 := sealB p) (by rw [show sealB p = 157 :: (be4 p.length ++ (be4 (crc (be4 p.length ++ p)) ++ p)) from rfl, HCR.out]) hb12 HK12.out h2 h3 (by simpa using h4)
  have HO14 := Lib.hid ho14
  have HK14 := Lib.hid hk14
  clear h2 h3 h4 h5 ho14 hk14
  go_wp2
  go_ret
  refine ⟨b14, a13, cap13, ?_, HO14.out, hb14, HK14.out, hb142⟩
  rw [seal_len]
  show Ending.returned (.slice a13 _ cap13) = _
  congr 2
  simp [be4]
  try omega
end Go.Proofs.YtfbibmdjahfneaaDoor.Fr
