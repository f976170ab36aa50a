/- DiskAgain's walk. -/
import Derived.Test.YtaogpchjkbcjoaaWakes4
namespace Go.Proofs.Ytaogpchjkbcjoaa.Dk
open Go Go.RowKit Mem Kp
theorem same_refl (l : List Nat) : decide (l = l) = true := by simp
theorem new_append {a : List Nat} (h : a.length ≤ 2000) : (St.new 65536).append a = (⟨65536, a, 0, false, 0, 0⟩, 0) := by
  rw [St.append_ok rfl (by show 0 + a.length ≤ 65536; omega) (by decide)]; rfl
theorem st_replace {a b : List Nat} {n : Nat} (h : b.length ≤ 2000) : (⟨65536, a, n, false, 0, 0⟩ : St).replace b = (⟨65536, b, b.length, false, 0, 0⟩, 0) := by
  rw [St.replace_ok rfl (by show b.length ≤ 65536; omega) (by show (0 : Nat) ≠ 1; decide)]; rfl
theorem st_append {a b : List Nat} {n : Nat} (h : a.length + b.length ≤ 65536) : (⟨65536, a, n, false, 0, 0⟩ : St).append b = (⟨65536, a ++ b, n, false, 0, 0⟩, 0) := by
  rw [St.append_ok rfl h (by show (0 : Nat) ≠ 1; decide)]; rfl
theorem st_sync (a : List Nat) (n : Nat) : (⟨65536, a, n, false, 0, 0⟩ : St).sync = (⟨65536, a, a.length, false, 0, 0⟩, 0) := rfl
theorem st_crash (a : List Nat) (k : Int) : (⟨65536, a, a.length, false, 0, 0⟩ : St).crash k = ⟨65536, a, a.length, true, 0, 0⟩ := by
  have e : (⟨65536, a, a.length, false, 0, 0⟩ : St).left k = a.length := by
    unfold St.left
    show a.length + min k.toNat (a.length - a.length) = a.length
    rw [Nat.sub_self, Nat.min_zero, Nat.add_zero]
  show (⟨65536, a, a.length, false, 0, 0⟩ : St).gone k = _
  unfold St.gone
  rw [e]
  show (⟨65536, a.take a.length, a.length, true, 0, 0⟩ : St) = _
  rw [List.take_length]
theorem wrap_bounds (x : Int) : -9223372036854775808 ≤ wrap64 x ∧ wrap64 x ≤ 9223372036854775807 := by
  unfold wrap64; omega
set_option maxHeartbeats 4000000 in
theorem DiskAgain_any (ba : Nat) (aa : Option Addr) (ca : Nat) (a : List Nat) (bb : Nat) (ab : Option Addr) (cb : Nat) (b : List Nat) (keep : Int) (w : World) (hs : Src w ba aa ca a) (h8 : B8 a) (hs2 : Src w bb ab cb b) (h82 : B8 b) (hk0 : -9223372036854775808 ≤ keep) (hk1 : keep ≤ 9223372036854775807) :
    Calls Try.prog 8 #[.slice aa a.length ca, .slice ab b.length cb, .int .i64 keep] w fun e w' => e = .returned (.bool true) ∧ Kept None w w' := by
  have HS := Lib.hid hs
  have H8 := Lib.hid h8
  have HS2 := Lib.hid hs2
  have H82 := Lib.hid h82
  have hal := hs.len
  have hbl := hs2.len
  clear hs h8 hs2 h82
  by_cases hbig : 2000 < a.length
  · have d1 : decide (2000 < a.length) = true := by simpa using hbig
    have d1' : decide ((2000 : Int) < (a.length : Int)) = true := decide_eq_true (by omega)
    go_enter Try.func8, Try.ntmps8
    go_wp2
    go_ret
    exact ⟨rfl, Kept.refl _ _⟩
  · have d1 : decide (2000 < a.length) = false := by simpa using hbig
    have d1' : decide ((2000 : Int) < (a.length : Int)) = false := decide_eq_false (by omega)
    by_cases hbig2 : 2000 < b.length
    · have d2 : decide (2000 < b.length) = true := by simpa using hbig2
      have d2' : decide ((2000 : Int) < (b.length : Int)) = true := decide_eq_true (by omega)
      go_enter Try.func8, Try.ntmps8
      go_wp2
      go_ret
      exact ⟨rfl, Kept.refl _ _⟩
    · have d2 : decide (2000 < b.length) = false := by simpa using hbig2
      have d2' : decide ((2000 : Int) < (b.length : Int)) = false := decide_eq_false (by omega)
      have ha : a.length ≤ 2000 := by omega
      have hb : b.length ≤ 2000 := by omega
      clear hbig hbig2
      go_enter Try.func8, Try.ntmps8
      go_wp2_with fail
      refine (New_own w w (Kept.refl _ _) 65536 (by decide) None none_lt).mono ?_
      rintro x w1 ⟨d, rfl, h1, _⟩
      have H1 := Lib.hid h1
      clear h1
      go_wp2_with fail
      refine (Append_own w _ _ d _ H1.out ba aa ca a (HS.out.kept H1.out.kept (fun _ h => h)) (fun h => .inl (HS.out.lt h)) H8.out (by omega)).mono ?_
      rw [new_append ha]
      rintro x w2 ⟨rfl, h2, _⟩
      have H2 := Lib.hid h2
      clear h2
      go_wp2_with fail
      refine (Replace_own w _ _ d _ H2.out bb ab cb b (HS2.out.kept H2.out.kept (fun _ h => h)) (fun h => .inl (HS2.out.lt h)) H82.out (by omega)).mono ?_
      rw [st_replace hb]
      rintro x w3 ⟨rfl, h3, _⟩
      have H3 := Lib.hid h3
      clear h3
      go_wp2_with fail
      refine (Start_own w _ _ d _ H3.out).mono ?_
      rintro x w4 ⟨rfl, h4, _⟩
      have H4 : Hid (Own w w4 None d ⟨65536, b, b.length, false, 0, 0⟩) := h4
      clear h4
      go_wp2_with fail
      refine (Crash_own w _ _ d _ H4.out keep hk0 hk1).mono ?_
      rw [st_crash]
      rintro x w5 ⟨rfl, h5, _⟩
      have H5 := Lib.hid h5
      clear h5
      go_wp2_with fail
      refine (Crash_own w _ _ d _ H5.out (wrap64 (-keep)) (wrap_bounds _).1 (wrap_bounds _).2).mono ?_
      rintro x w6 ⟨rfl, h6, _⟩
      have H6 : Hid (Own w w6 None d ⟨65536, b, b.length, true, 0, 0⟩) := h6
      clear h6
      go_wp2_with fail
      refine (Trip_own w _ _ d _ H6.out 1 1 (by decide) (by decide) (by decide) (by decide)).mono ?_
      rintro x w7 ⟨rfl, h7, _⟩
      have H7 : Hid (Own w w7 None d ⟨65536, b, b.length, true, 0, 0⟩) := h7
      clear h7
      go_wp2_with fail
      refine (Start_own w _ _ d _ H7.out).mono ?_
      rintro x w8 ⟨rfl, h8, _⟩
      have H8' : Hid (Own w w8 None d ⟨65536, b, b.length, false, 0, 0⟩) := h8
      clear h8
      go_wp2_with fail
      refine (Read_own w _ _ d _ H8'.out rfl).mono ?_
      rintro x w9 ⟨b9, a9, c9, rfl, ho9, _, h9, _⟩
      have H9 := Lib.hid h9
      have HO9 : Hid (OwnB 5 w9 b9 a9 c9 b) := ho9
      clear h9 ho9
      go_wp2_with fail
      refine (KBytes_any b9 a9 c9 b bb ab cb b w9 HO9.out.src (HS2.out.kept H9.out.kept (fun _ h => h)) (by omega) (by omega)).mono ?_
      rintro x w10 ⟨rfl, n10, rfl⟩
      rw [same_refl]
      obtain ⟨w10, hW⟩ : ∃ W, W = w9.drewN n10 := ⟨_, rfl⟩
      rw [← hW]
      have H10 : Hid (Own w w10 None d ⟨65536, b, b.length, false, 0, 0⟩) := by rw [hW]; exact H9.out.same ((Kept.refl _ _).drewN n10)
      clear hW
      go_wp2_with fail
      refine (Sync_own w _ _ d _ H10.out).mono ?_
      rw [st_sync]
      rintro x w11 ⟨rfl, h11, _⟩
      have H11 := Lib.hid h11
      clear h11
      go_wp2_with fail
      refine (Append_own w _ _ d _ H11.out ba aa ca a (HS.out.kept H11.out.kept (fun _ h => h)) (fun h => .inl (HS.out.lt h)) H8.out (by omega)).mono ?_
      rw [st_append (by omega)]
      rintro x w12 ⟨rfl, h12, _⟩
      have H12 := Lib.hid h12
      clear h12
      go_wp2_with fail
      refine (Size_own w _ _ d _ H12.out).mono ?_
      rintro x w13 ⟨rfl, rfl⟩
      have hq : ((b.length : Int) + (a.length : Int) == (a.length : Int) + (b.length : Int)) = true := by rw [Int.add_comm]; simp
      go_wp2_with fail
      refine (wakes_any _).mono ?_
      rintro x w14 ⟨rfl, hk14⟩
      have HK := Lib.hid (H12.out.kept.trans hk14)
      clear hk14
      go_wp2
      go_ret
      exact ⟨rfl, HK.out⟩
end Go.Proofs.Ytaogpchjkbcjoaa.Dk
