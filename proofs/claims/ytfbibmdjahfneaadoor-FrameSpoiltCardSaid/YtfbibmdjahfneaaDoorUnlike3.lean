/- FrameUnlike's walk. -/
import Derived.Test.YtfbibmdjahfneaaDoorBack3
namespace Go.Proofs.YtfbibmdjahfneaaDoor.Fr
open Go Go.RowKit Mem Kp
theorem like_dec (p q : List Nat) : decide (sealB p = sealB q) = decide (p = q) := by
  by_cases h : p = q
  · subst h; simp
  · rw [decide_eq_false h, decide_eq_false (fun e => h (seal_inj e))]
theorem scan_two {p q : List Nat} (hp : B8 p ∧ p.length ≤ 16384) (hq : B8 q ∧ q.length ≤ 16384) : scanB (sealB p ++ sealB q) = ([p, q], p.length + 9 + (q.length + 9)) := by
  have hF : Fit [p, q] := by
    intro x hx
    simp at hx
    rcases hx with rfl | rfl
    · exact hp
    · exact hq
  have h := scan_seals (r := []) hF first_nil
  have e : seals [p, q] = sealB p ++ sealB q := by unfold seals; simp
  rw [List.append_nil, e, List.length_append, seal_len, seal_len] at h
  exact h
/-- two rows in an array that the call has made -/
theorem rows_two (w : World) (t : TypeId) (r s : Row) (f : Nat × Nat) (hr : Src w r.b r.a r.cap r.l) (hs : Src w s.b s.a s.cap s.l) : RowsAt (w.alloc (.cells #[r.val, s.val] t f)) (some ⟨w.heap.size, 0, none⟩) 2 [r, s] := by
  have k : Kept None w (w.alloc (.cells #[r.val, s.val] t f)) := (Kept.refl _ _).alloc _
  refine ⟨w.heap.size, .inl ⟨by simp, by decide, .inr ⟨0, rfl, fun i hi => ?_⟩⟩, fun x hx => ?_⟩
  · rw [Nat.zero_add, cell_heap (heap_alloc_new w _) i]
    simp at hi
    match i, hi with
    | 0, _ => rfl
    | 1, _ => rfl
  · simp at hx
    rcases hx with rfl | rfl
    · exact hr.kept k (fun _ h => h)
    · exact hs.kept k (fun _ h => h)
theorem short_two {r s : Row} (hr : r.l.length ≤ 16384) (hs : s.l.length ≤ 16384) : Short [r, s] := by
  intro x hx
  simp at hx
  rcases hx with rfl | rfl <;> omega
theorem short_of {R : List Row} {L : List (List Nat)} (h : bytesOf R = L) (n : Nat) (hn : n ≤ 35184372088832) (hL : ∀ l ∈ L, l.length ≤ n) : Short R := by
  intro r hr
  have := hL r.l (by rw [← h]; exact List.mem_map.2 ⟨r, hr, rfl⟩)
  omega
set_option maxHeartbeats 8000000 in
theorem FrameUnlike_any (b : Nat) (a : Option Addr) (cap : Nat) (p : List Nat) (b2 : Nat) (a2 : Option Addr) (cap2 : Nat) (m : List Nat) (w : World) (hs : Src w b a cap p) (h8 : B8 p) (hs2 : Src w b2 a2 cap2 m) (h82 : B8 m) (hpl : p.length ≤ 9223372036854775807) (hml : m.length ≤ 9223372036854775807) (hT : Tab w) :
    Calls Tryd.prog 7 #[.slice a p.length cap, .slice a2 m.length cap2] w fun e w' => e = .returned (.bool true) ∧ Kept None w w' := by
  have HT := Lib.hid hT
  clear hT
  obtain ⟨i0, hi, hz0, hz1, hz2⟩ := info_parts infoU8
  have HS := Lib.hid hs
  have H8 := Lib.hid h8
  have HS2 := Lib.hid hs2
  have H82 := Lib.hid h82
  clear hs h8 hs2 h82
  by_cases hbig : 16384 < p.length
  · have d1 : decide (16384 < p.length) = true := by simpa using hbig
    have d1' : decide ((16384 : Int) < (p.length : Int)) = true := by simp; omega
    go_enter Tryd.func7, Tryd.ntmps7
    go_wp2
    go_ret
    exact ⟨rfl, Kept.refl _ _⟩
  · have d1 : decide (16384 < p.length) = false := by simpa using hbig
    have d1' : decide ((16384 : Int) < (p.length : Int)) = false := by simp; omega
    by_cases hbig2 : 16384 < m.length
    · have d2 : decide (16384 < m.length) = true := by simpa using hbig2
      have d2' : decide ((16384 : Int) < (m.length : Int)) = true := by simp; omega
      go_enter Tryd.func7, Tryd.ntmps7
      go_wp2
      go_ret
      exact ⟨rfl, Kept.refl _ _⟩
    · have d2 : decide (16384 < m.length) = false := by simpa using hbig2
      have d2' : decide ((16384 : Int) < (m.length : Int)) = false := by simp; omega
      have hp : p.length ≤ 16384 := by omega
      have hm : m.length ≤ 16384 := by omega
      clear hbig hbig2
      have hseal := Seal_any b a cap p w HS.out H8.out
      rw [sealPost_ok hp] at hseal
      have HSE := Lib.hid hseal
      have HSL : Hid ((sealB p).length = p.length + 9) := seal_len p
      have HSL2 : Hid ((sealB m).length = m.length + 9) := seal_len m
      have HS8 : Hid (B8 (sealB p)) := seal_b8 H8.out
      have HS82 : Hid (B8 (sealB m)) := seal_b8 H82.out
      have HSC : Hid (scanB (sealB p ++ sealB m) = ([p, m], p.length + 9 + (m.length + 9))) := scan_two ⟨H8.out, hp⟩ ⟨H82.out, hm⟩
      have HLK := Lib.hid (like_dec p m)
      clear hseal
      go_enter Tryd.func7, Tryd.ntmps7
      go_wp2_with fail
      refine HSE.out.mono ?_
      rintro x w1 ⟨b1, a1, cap1, rfl, ho1, hb1, hb12, hk1⟩
      have HO1 := Lib.hid ho1
      have HK1 := Lib.hid hk1
      clear ho1 hk1
      go_wp2_with fail
      have hseal2 := Seal_any b2 a2 cap2 m w1 (HS2.out.kept HK1.out (fun _ h => h)) H82.out
      rw [sealPost_ok hm] at hseal2
      refine hseal2.mono ?_
      clear hseal2
      rintro x w2 ⟨b3, a3, cap3, rfl, ho3, hb3, hb32, hk3⟩
      have HO3 := Lib.hid ho3
      have HO2 : Hid (OwnB 5 w2 b1 a1 cap1 (sealB p)) := HO1.out.kept hk3 (fun _ h => h)
      have HK3 := Lib.hid (HK1.out.trans hk3)
      clear ho3 hk3
      go_wp2_with fail
      have hcmp := KBytes_any b1 a1 cap1 (sealB p) b3 a3 cap3 (sealB m) w2 HO2.out.src HO3.out.src (by rw [HSL.out]; omega) (by rw [HSL2.out]; omega)
      rw [HSL.out, HSL2.out] at hcmp
      refine hcmp.mono ?_
      clear hcmp
      rintro x w3 ⟨rfl, n3, rfl⟩
      obtain ⟨W3, hW3⟩ : ∃ W, W = w2.drewN n3 := ⟨_, rfl⟩
      rw [← hW3, HLK.out]
      have k23 : Kept None w2 W3 := by rw [hW3]; exact (Kept.refl _ _).drewN n3
      have HP3 : Hid (OwnB 5 W3 b1 a1 cap1 (sealB p)) := HO2.out.kept k23 (fun _ h => h)
      have HM3 : Hid (OwnB 5 W3 b3 a3 cap3 (sealB m)) := HO3.out.kept k23 (fun _ h => h)
      have HK4 := Lib.hid (HK3.out.trans k23)
      clear hW3 k23
      obtain ⟨q, hq⟩ : ∃ q, decide (p = m) = q := ⟨_, rfl⟩
      rw [hq]
      have HQ := Lib.hid hq
      clear hq
      go_wp2_with fail
      refine (KBytes_any b a cap p b2 a2 cap2 m W3 (HS.out.kept HK4.out (fun _ h => h)) (HS2.out.kept HK4.out (fun _ h => h)) (by omega) (by omega)).mono ?_
      rintro x w4 ⟨rfl, n4, rfl⟩
      rw [HQ.out]
      obtain ⟨W4, hW4⟩ : ∃ W, W = W3.drewN n4 := ⟨_, rfl⟩
      rw [← hW4]
      have k34 : Kept None W3 W4 := by rw [hW4]; exact (Kept.refl _ _).drewN n4
      have HP4 : Hid (OwnB 5 W4 b1 a1 cap1 (sealB p)) := HP3.out.kept k34 (fun _ h => h)
      have HM4 : Hid (OwnB 5 W4 b3 a3 cap3 (sealB m)) := HM3.out.kept k34 (fun _ h => h)
      have HK5 := Lib.hid (HK4.out.trans k34)
      clear hW4 k34
      have hqq : (q != q) = false := by simp
      go_wp2_with fail
      have htw := Twin_any b1 a1 cap1 (sealB p) W4 HP4.out.src (by rw [HSL.out]; omega)
      rw [HSL.out] at htw
      refine htw.mono ?_
      clear htw
      rintro x w5 ⟨b5, a5, cap5, rfl, ho5, hb5, hk5, hb52⟩
      rw [HSL.out]
      have HO5 := Lib.hid ho5
      have HK6 := Lib.hid (HK5.out.trans hk5)
      have HM5 : Hid (OwnB 5 w5 b3 a3 cap3 (sealB m)) := HM4.out.kept hk5 (fun _ h => h)
      have hb5w : w.heap.size ≤ b5 := Nat.le_trans HK5.out.size hb5
      clear ho5 hk5
      go_wp2_with (at_builtin; refine wpList_append_bytes rfl _ _ 22 rfl 5 i0 Tryd.underlying22 hi hz0 hz1 hz2 b5 a5 cap5 (sealB p) (p.length + 9) rfl HO5.out HSL.out b3 a3 cap3 (sealB m) (m.length + 9) rfl HM5.out.src HSL2.out (by omega) ?_)
      intro b6 a6 cap6 w6 h2 h3 h4 h5
      obtain ⟨b7, ho7, hb7, hb72, hk7⟩ := own_next (l2 := sealB p ++ sealB m) rfl hb5w HK6.out h2 h3 (by simpa using h4)
      have HO7 := Lib.hid ho7
      have HK7 := Lib.hid hk7
      clear h2 h3 h4 h5 ho7 hk7
      go_wp2_with fail
      have hsc := Scan_any b7 a6 cap6 (sealB p ++ sealB m) w6 HO7.out.src (HS8.out.append HS82.out) (by rw [List.length_append, HSL.out, HSL2.out]; omega)
      rw [List.length_append, HSL.out, HSL2.out] at hsc
      refine hsc.mono ?_
      clear hsc
      rintro x w8 ⟨b8, a8, cap8, R, rfl, ho8, hap, hR⟩
      rw [HSC.out] at hR ⊢
      have hRl : R.length = 2 := by have := congrArg List.length hR; simpa [bytesOf] using this
      have HR := Lib.hid hR
      have HO8 := Lib.hid ho8
      have HK8 := Lib.hid (HK7.out.trans ho8.kept)
      clear hR ho8 hap
      simp only [Int.natCast_add]
      go_wp2_with fail
      obtain ⟨W8, hW8⟩ : ∃ W, W = w8.alloc (.cells #[.slice a p.length cap, .slice a2 m.length cap2] 22) := ⟨_, rfl⟩
      have h2r : RowsAt W8 (some ⟨w8.heap.size, 0, none⟩) 2 [⟨b, a, cap, p⟩, ⟨b2, a2, cap2, m⟩] := by
        rw [hW8]
        exact rows_two w8 22 ⟨b, a, cap, p⟩ ⟨b2, a2, cap2, m⟩ (0, 0) (HS.out.kept HK8.out (fun _ h => h)) (HS2.out.kept HK8.out (fun _ h => h))
      have k8 : Kept None w8 W8 := by rw [hW8]; exact (Kept.refl _ _).alloc _
      rw [← hW8]
      have HK9 := Lib.hid (HK8.out.trans k8)
      have hrw := KRows_any a8 cap8 R _ 2 [⟨b, a, cap, p⟩, ⟨b2, a2, cap2, m⟩] W8 (HO8.out.rows.kept k8) h2r (short_of HR.out 16384 (by omega) (by intro l hl; simp at hl; rcases hl with rfl | rfl <;> omega)) (short_two hp hm) (by rw [hRl]; decide)
      rw [hRl] at hrw
      refine hrw.mono ?_
      clear hrw hW8 h2r k8
      rintro x w9 ⟨rfl, n9, rfl⟩
      rw [HR.out, show bytesOf [⟨b, a, cap, p⟩, ⟨b2, a2, cap2, m⟩] = [p, m] from rfl, decide_eq_true (rfl : [p, m] = [p, m])]
      go_wp2_with fail
      refine (wakes_any _).mono ?_
      rintro x w10 ⟨rfl, hk10⟩
      have HK10 := Lib.hid ((HK9.out.drewN n9).trans hk10)
      clear hk10
      go_wp2
      go_ret
      exact ⟨rfl, HK10.out⟩
end Go.Proofs.YtfbibmdjahfneaaDoor.Fr
