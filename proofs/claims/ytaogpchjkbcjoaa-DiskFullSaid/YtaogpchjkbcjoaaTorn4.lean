/- DiskTorn's walk. -/
import Derived.Test.YtaogpchjkbcjoaaAgain4
import Derived.Deep.RegionLaw
import Derived.Deep.RegionWith
import Derived.Lib.MinMax
namespace Go.Proofs.Ytaogpchjkbcjoaa.Dk
open Go Go.RowKit Mem Kp
theorem st_tear (a b : List Nat) (k : Int) : (⟨65536, a ++ b, a.length, false, 0, 0⟩ : St).crash k = ⟨65536, a ++ b.take (min k.toNat b.length), a.length + min k.toNat b.length, true, 0, 0⟩ := by
  have e : (⟨65536, a ++ b, a.length, false, 0, 0⟩ : St).left k = a.length + min k.toNat b.length := by
    unfold St.left
    show a.length + min k.toNat ((a ++ b).length - a.length) = _
    rw [List.length_append, Nat.add_sub_cancel_left]
  show (⟨65536, a ++ b, a.length, false, 0, 0⟩ : St).gone k = _
  unfold St.gone
  rw [e]
  show (⟨65536, (a ++ b).take _, _, true, 0, 0⟩ : St) = _
  rw [List.take_append, List.take_of_length_le (by omega), Nat.add_sub_cancel_left]
theorem same_ne (n : Int) : (n != n) = false := by simp
set_option maxHeartbeats 4000000 in
theorem DiskTorn_any (ba : Nat) (aa : Option Addr) (ca : Nat) (a : List Nat) (bb : Nat) (ab : Option Addr) (cb : Nat) (b : List Nat) (keep : Int) (w : World) (hs : Src w ba aa ca a) (h8 : B8 a) (hs2 : Src w bb ab cb b) (h82 : B8 b) (hk0 : -9223372036854775808 ≤ keep) (hk1 : keep ≤ 9223372036854775807) :
    Calls Try.prog 5 #[.slice aa a.length ca, .slice ab b.length cb, .int .i64 keep] w fun e w' => e = .returned (.bool true) ∧ Kept None w w' := by
  obtain ⟨i0, hi, hz0, hz1, hz2⟩ := info_parts infoU8
  have HS := Lib.hid hs
  have H8 := Lib.hid h8
  have HS2 := Lib.hid hs2
  have H82 := Lib.hid h82
  have hal := hs.len
  have hbl := hs2.len
  clear hs h8 hs2 h82
  by_cases hbig : 2000 < a.length
  · have d1 : decide (2000 < a.length) = true := by simpa using hbig
    have d1' : decide ((2000 : Int) < (a.length : Int)) = true := decide_eq_true (by omega)
    go_enter Try.func5, Try.ntmps5
    go_wp2
    go_ret
    exact ⟨rfl, Kept.refl _ _⟩
  · have d1 : decide (2000 < a.length) = false := by simpa using hbig
    have d1' : decide ((2000 : Int) < (a.length : Int)) = false := decide_eq_false (by omega)
    by_cases hbig2 : 2000 < b.length
    · have d2 : decide (2000 < b.length) = true := by simpa using hbig2
      have d2' : decide ((2000 : Int) < (b.length : Int)) = true := decide_eq_true (by omega)
      go_enter Try.func5, Try.ntmps5
      go_wp2
      go_ret
      exact ⟨rfl, Kept.refl _ _⟩
    · have d2 : decide (2000 < b.length) = false := by simpa using hbig2
      have d2' : decide ((2000 : Int) < (b.length : Int)) = false := decide_eq_false (by omega)
      have ha : a.length ≤ 2000 := by omega
      have hb : b.length ≤ 2000 := by omega
      clear hbig hbig2
      go_enter Try.func5, Try.ntmps5
      go_wp2_with fail
      refine (New_own w w (Kept.refl _ _) 65536 (by decide) None none_lt).mono ?_
      rintro x w1 ⟨d, rfl, h1, _⟩
      have H1 := Lib.hid h1
      clear h1
      go_wp2_with fail
      refine (Append_own w _ _ d _ H1.out ba aa ca a (HS.out.kept H1.out.kept (fun _ h => h)) (fun h => .inl (HS.out.lt h)) H8.out (by omega)).mono ?_
      rw [new_append ha]
      rintro x w2 ⟨rfl, h2, _⟩
      have H2 := Lib.hid h2
      clear h2
      go_wp2_with fail
      refine (Sync_own w _ _ d _ H2.out).mono ?_
      rw [st_sync]
      rintro x w3 ⟨rfl, h3, _⟩
      have H3 := Lib.hid h3
      clear h3
      go_wp2_with fail
      refine (Append_own w _ _ d _ H3.out bb ab cb b (HS2.out.kept H3.out.kept (fun _ h => h)) (fun h => .inl (HS2.out.lt h)) H82.out (by omega)).mono ?_
      rw [st_append (by omega)]
      rintro x w4 ⟨rfl, h4, _⟩
      have H4 := Lib.hid h4
      clear h4
      go_wp2_with fail
      refine (Crash_own w _ _ d _ H4.out keep hk0 hk1).mono ?_
      rw [st_tear]
      rintro x w5 ⟨rfl, h5, _⟩
      obtain ⟨n, hn⟩ : ∃ n, n = min keep.toNat b.length := ⟨_, rfl⟩
      rw [← hn] at h5
      have hnb : n ≤ b.length := by rw [hn]; exact Nat.min_le_right _ _
      have hnv : min (max keep 0) (b.length : Int) = (n : Int) := by rw [hn]; omega
      have H5 := Lib.hid h5
      have HN := Lib.hid hn
      clear h5 hn
      go_wp2_with fail
      refine (Off_own w _ _ d _ H5.out).mono ?_
      rintro x w6 ⟨rfl, rfl⟩
      go_wp2_with fail
      refine (Size_own w _ _ d _ H5.out).mono ?_
      rintro x w6 ⟨rfl, rfl⟩
      have hlen : (a ++ b.take n).length = a.length + n := by rw [List.length_append, List.length_take]; omega
      have hq := same_ne ((a.length : Int) + (n : Int))
      simp only [hlen]
      go_wp2_with fail
      refine (Append_own w _ _ d _ H5.out bb ab cb b (HS2.out.kept H5.out.kept (fun _ h => h)) (fun h => .inl (HS2.out.lt h)) H82.out (by omega)).mono ?_
      rw [St.append_off rfl]
      rintro x w6 ⟨rfl, h6, _⟩
      have H6 := Lib.hid h6
      clear h6
      go_wp2_with fail
      refine (Sync_own w _ _ d _ H6.out).mono ?_
      rw [St.sync_off rfl]
      rintro x w7 ⟨rfl, h7, _⟩
      have H7 := Lib.hid h7
      clear h7
      go_wp2_with fail
      refine (Replace_own w _ _ d _ H7.out bb ab cb b (HS2.out.kept H7.out.kept (fun _ h => h)) (fun h => .inl (HS2.out.lt h)) H82.out (by omega)).mono ?_
      rw [St.replace_off rfl]
      rintro x w8 ⟨rfl, h8, _⟩
      have H8' := Lib.hid h8
      clear h8
      go_wp2_with fail
      refine (Crash_own w _ _ d _ H8'.out 0 (by decide) (by decide)).mono ?_
      rintro x w9 ⟨rfl, h9, _⟩
      have H9 : Hid (Own w w9 None d ⟨65536, a ++ b.take n, a.length + n, true, 0, 0⟩) := h9
      clear h9
      go_wp2_with fail
      refine (Start_own w _ _ d _ H9.out).mono ?_
      rintro x w10 ⟨rfl, h10, _⟩
      have H10 : Hid (Own w w10 None d ⟨65536, a ++ b.take n, a.length + n, false, 0, 0⟩) := h10
      clear h10
      go_wp2_with fail
      refine (Read_own w _ _ d _ H10.out rfl).mono ?_
      rintro x w11 ⟨b11, a11, c11, rfl, ho11, _, h11, _⟩
      have H11 := Lib.hid h11
      have HO11 : Hid (OwnB 5 w11 b11 a11 c11 (a ++ b.take n)) := ho11
      clear h11 ho11
      simp only [hlen]
      have HSA : Hid (Src w11 ba aa ca a) := HS.out.kept H11.out.kept (fun _ h => h)
      have hncb : n ≤ cb := by
        rcases HS2.out with h | h
        · have := h.1; omega
        · rw [h.1] at hnb; simp at hnb; omega
      have hncbi : (n : Int) ≤ (cb : Int) := by omega
      have HSB : Hid (Src w11 bb ab cb (b.take n)) := by
        rcases HS2.out with h | h
        · exact .inl (fits_left (h.kept H11.out.kept (fun _ h => h)) hnb)
        · exact .inr ⟨by rw [h.1]; simp, h.2⟩
      have HPL : Hid ((b.take n).length = n) := by show _ = _; rw [List.length_take]; omega
      have HAP : Hid ((a ++ b.take n).length = a.length + n) := hlen
      have hab : Hid (ab = none → n = 0) := fun e => by
        have h := HS2.out
        rw [e] at h
        have h1 := h.bare.1
        rw [h1] at hnb; simp at hnb; exact hnb
      obtain ⟨P, hP⟩ : ∃ P, P = b.take n := ⟨_, rfl⟩
      rw [← hP] at HSB HPL HAP HO11
      clear hP hlen
      go_wp2
      refine wp_region_any (by kernel_rfl) ?_
      change wpAny _ _ _ _ _ _ _ (World.drew _)
      refine wpAny_take (i := 0) (v := ?_) rfl (by kernel_rfl) (by kernel_rfl) (by kernel_rfl) (fun _ _ _ h => h) (Or.inl ⟨by rfl, ?_⟩) ?_
      rotate_left
      · intro w
        go_simp
        try with_reducible rfl
      refine wpAny_take (i := 1) (v := ?_) rfl (by kernel_rfl) (by kernel_rfl) (by kernel_rfl) (fun _ _ _ h => h) (Or.inl ⟨by rfl, ?_⟩) ?_
      rotate_left
      · intro w
        go_simp
        try with_reducible rfl
      refine wpAny_take (i := 2) (v := ?_) rfl (by kernel_rfl) (by kernel_rfl) (by kernel_rfl) (fun _ _ _ h => h) (Or.inl ⟨by rfl, ?_⟩) ?_
      rotate_left
      · intro w
        go_simp
        try with_reducible rfl
      go_simp
      refine wpAny_take (i := 3) (v := ?_) rfl (by kernel_rfl) (by kernel_rfl) (by kernel_rfl) (fun _ _ _ h => h) (Or.inl ⟨by rfl, ?_⟩) ?_
      rotate_left
      · intro w
        go_simp
        try with_reducible rfl
      refine wpAny_take (i := 4) (v := ?_) rfl (by kernel_rfl) (by kernel_rfl) (by kernel_rfl) (fun _ _ _ h => h) (Or.inl ⟨by rfl, ?_⟩) ?_
      rotate_left
      · intro w
        go_simp
        try with_reducible rfl
      go_simp
      refine wpAny_take (i := 6) (v := ?_) rfl (by kernel_rfl) (by kernel_rfl) (by kernel_rfl) (fun _ _ _ h => h) (Or.inl ⟨by rfl, ?_⟩) ?_
      rotate_left
      · intro w
        go_simp
        try with_reducible rfl
      refine wpAny_take (i := 7) (v := ?_) rfl (by kernel_rfl) (by kernel_rfl) (by kernel_rfl) (fun _ _ _ h => h) (Or.inl ⟨by rfl, ?_⟩) ?_
      rotate_left
      · intro w
        go_simp
        try with_reducible rfl
      go_simp
      refine wpAny_ready (rs := [5, 8]) (by kernel_rfl) (by simp) ?_
      refine AllReady.cons rfl (fun K hK => ?_) (AllReady.cons rfl (fun K hK => ?_) AllReady.nil)
      all_goals go_simp
      all_goals first
        | (go_at_call 25; refine Calls.mono (Twin_any ba aa ca a _ (by exact HSA.out.heap rfl) (by omega)) ?_; rintro x w12 ⟨b12, a12, c12, rfl, ho12, hb12, hk12, _⟩; have HO12 := Lib.hid ho12; have HK12 := Lib.hid (hk12.heap2 (v := w11) rfl rfl rfl rfl); have hb12' : w11.heap.size ≤ b12 := hb12; clear ho12 hb12 hk12; refine hK _ _ ?_; clear hK K; refine wpAny_ready (rs := [8]) (by kernel_rfl) (by simp) ?_; refine AllReady.cons rfl (fun K hK => ?_) AllReady.nil; go_simp; refine hK _ _ ?_; clear hK K)
        | (refine hK _ _ ?_; clear hK K; refine wpAny_ready (rs := [5]) (by kernel_rfl) (by simp) ?_; refine AllReady.cons rfl (fun K hK => ?_) AllReady.nil; go_simp; go_at_call 25; refine Calls.mono (Twin_any ba aa ca a _ (by exact HSA.out.heap rfl) (by omega)) ?_; rintro x w12 ⟨b12, a12, c12, rfl, ho12, hb12, hk12, _⟩; have HO12 := Lib.hid ho12; have HK12 := Lib.hid (hk12.heap2 (v := w11) rfl rfl rfl rfl); have hb12' : w11.heap.size ≤ b12 := hb12; clear ho12 hb12 hk12; refine hK _ _ ?_; clear hK K)
      all_goals
        refine wpAny_ready (rs := [9]) (by kernel_rfl) (by simp) ?_
        refine AllReady.cons rfl (fun K hK => ?_) AllReady.nil
        refine step_append_bytes_g (by first | rfl | simp [Region.wanted, yielded]) (.tmp 93) (.tmp 96) 30 rfl 5 i0 Try.underlying30 hi hz0 hz1 hz2 b12 a12 c12 a a.length (by simp [Act.eval]) HO12.out rfl bb ab cb P n (by simp [Act.eval]) (HSB.out.kept HK12.out (fun _ h => h)) HPL.out (by omega) ?_
        intro b13 a13 c13 w13 h2 h3 h4
        have HX13 : Hid (OwnB 5 w13 b13 a13 c13 (a ++ P)) := h2
        have HY13 : Hid (OwnB 5 w13 b11 a11 c11 (a ++ P)) := (HO11.out.kept HK12.out (fun _ h => h)).kept h3 (fun hn e => by have := HO11.out.lt hn; have := e.2; omega)
        have HK13 : Hid (Kept None w w13) := (H11.out.kept.trans HK12.out).trans' h3 (fun y hy => .inr (by have := H11.out.kept.size; have := hy.2; omega))
        clear h2 h3 h4
        try go_simp
        refine hK _ _ ?_
        clear hK K
        refine wpAny_ready (rs := [10]) (by kernel_rfl) (by simp) ?_
        refine AllReady.cons rfl (fun K hK => ?_) AllReady.nil
        go_simp
        have hcmp := KBytes_any b11 a11 c11 (a ++ P) b13 a13 c13 (a ++ P) w13 HY13.out.src HX13.out.src (by rw [HAP.out]; omega) (by rw [HAP.out]; omega)
        rw [HAP.out] at hcmp
        refine hcmp.mono ?_
        clear hcmp
        rintro x w14 ⟨rfl, n14, rfl⟩
        rw [same_refl]
        refine hK _ _ ?_
        clear hK K
        refine wpAny_ready (rs := [11]) (by kernel_rfl) (by simp) ?_
        refine AllReady.cons rfl (fun K hK => ?_) AllReady.nil
        go_simp
        refine hK _ _ ?_
        clear hK K
        refine wpAny_ready (rs := [12]) (by kernel_rfl) (by simp) ?_
        refine AllReady.cons rfl (fun K hK => ?_) AllReady.nil
        go_simp
        refine hK _ _ ?_
        clear hK K
        refine wpAny_ready (rs := [13]) (by kernel_rfl) (by simp) ?_
        refine AllReady.cons rfl (fun K hK => ?_) AllReady.nil
        go_simp
        refine (wakes_any _).mono ?_
        rintro x w15 ⟨rfl, hk15⟩
        have HK15 := Lib.hid ((HK13.out.drewN n14).trans hk15)
        clear hk15
        refine hK _ _ ?_
        clear hK K
        refine wpAny_ready (rs := [14]) (by kernel_rfl) (by simp) ?_
        refine AllReady.cons rfl (fun K hK => ?_) AllReady.nil
        go_simp
        refine hK _ _ ?_
        clear hK K
        refine wpAny_ready (rs := [15]) (by kernel_rfl) (by simp) ?_
        refine AllReady.cons rfl (fun K hK => ?_) AllReady.nil
        go_simp
        refine hK _ _ ?_
        clear hK K
        refine wpAny_done (by kernel_rfl) ?_ _
        go_wp2
        go_ret
        exact ⟨rfl, HK15.out⟩
end Go.Proofs.Ytaogpchjkbcjoaa.Dk
