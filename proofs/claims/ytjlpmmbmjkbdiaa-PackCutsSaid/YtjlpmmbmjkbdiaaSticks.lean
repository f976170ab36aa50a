/- PackSticks' walk. -/
import Derived.Test.YtjlpmmbmjkbdiaaOnly
namespace Go.Proofs.Ytjlpmmbmjkbdiaa.Pk
open Go Go.RowKit Mem
theorem out_len {r r' m : List Nat} {e e' : Int} (hs : e' = 0 → e = 0 ∧ r = m ++ r') (he : e' ≠ 0 → r' = []) : r'.length ≤ r.length := by
  by_cases h : e' = 0
  · obtain ⟨_, er⟩ := hs h
    rw [er, List.length_append]; omega
  · rw [he h]; simp
theorem doneOf_nil (e : Int) : doneOf [] e = e := by unfold doneOf; simp
theorem intOut_err {e : Int} (h : e ≠ 0) : intOut [] e = (0, [], e) := intOut_nil e h
theorem markOut_err {e : Int} (h : e ≠ 0) : markOut [] e = (false, [], e) := by unfold markOut; simp [rdMark, keep, h]
theorem fltOut_err {e : Int} (h : e ≠ 0) : fltOut [] e = (0, [], e) := by unfold fltOut; simp [rdFlt, keep, h]
theorem textOut_err0 {e : Int} (h : e ≠ 0) : textOut [] e = ([], [], e) := by unfold textOut; simp [rdText, rdInt, dec, keep, h]
theorem zero_flt : (FloatKind.f64.format.order 0 0 == some Ordering.eq) = true := by kernel_rfl
set_option maxHeartbeats 4000000 in
set_option maxRecDepth 100000 in
theorem PackSticks_any (b : Nat) (a : Option Addr) (cap : Nat) (c : List Nat) (a2 : Option Addr) (cap2 : Nat) (L : List Int) (w : World) (hs : Src w b a cap c) (h8 : B8 c) (hi : Ints w a2 L) (hc : c.length ≤ 9223372036854775807) :
    Calls Try.prog 8 #[.slice a c.length cap, .slice a2 L.length cap2] w fun e w' => e = .returned (.bool true) ∧ Kept None w w' := by
  have HS := Lib.hid hs
  have H8 := Lib.hid h8
  have HI := Lib.hid hi
  clear hs h8 hi
  by_cases hbig : 32768 < c.length
  · go_enter Try.func8, Try.ntmps8
    go_wp2
    go_ret
    exact ⟨rfl, Kept.refl _ _⟩
  · have d1 : decide (32768 < c.length) = false := by simpa using hbig
    have d1' : decide ((32768 : Int) < (c.length : Int)) = false := by simp; omega
    by_cases hbig2 : 200 < L.length
    · have d2 : decide (200 < L.length) = true := by simpa using hbig2
      have d2' : decide ((200 : Int) < (L.length : Int)) = true := by simp; omega
      go_enter Try.func8, Try.ntmps8
      go_wp2
      go_ret
      exact ⟨rfl, Kept.refl _ _⟩
    · have d2 : decide (200 < L.length) = false := by simpa using hbig2
      have d2' : decide ((200 : Int) < (L.length : Int)) = false := by simp; omega
      go_enter Try.func8, Try.ntmps8
      go_wp2_with fail
      refine (NewReader_own w w (Kept.refl _ _) b a cap c HS.out (by omega) H8.out).mono ?_
      rintro x w1 ⟨br, rfl, hr, hk1⟩
      have H1 := Lib.hid hr
      clear hr hk1
      go_wp2
      go_loopw [6, 7] (fun bad i wr => ∃ (k : Nat) (r : List Nat) (e : Int), k ≤ L.length ∧ i = .int .i64 k ∧ bad = .int .i64 e ∧ r.length ≤ 32768 ∧ Hid (OwnR w wr br r e)) (fun _ i _ => L.length - (intOf i).toNat)
      case atStart => exact ⟨0, c, 0, by omega, rfl, rfl, by omega, H1.out⟩
      case round =>
        obtain ⟨k, r, e, hk, rfl, rfl, hrl, hw⟩ := hrel
        by_cases hlt : k < L.length
        · obtain ⟨bk, ok, rfl, hck⟩ := (HI.out.kept hw.out.keeps.1).2.2 (by omega)
          have hcell := hck k hlt
          have hKb : -9223372036854775808 ≤ L.getD k 0 ∧ L.getD k 0 ≤ 9223372036854775807 := HI.out.1 _ (by simp [hlt])
          clear hck
          generalize L.getD k 0 = K at *
          have hKl := hKb.1
          have hKr := hKb.2
          clear hKb
          by_cases he : e = 0
          · obtain rfl : e = 0 := he
            go_wp2_with (go_at_call 18; refine (Left_own w wr br r 0 hw.out).mono ?_; rintro x w' ⟨rfl, rfl⟩)
            · refine (RInt_own w wr br r 0 hw.out (by omega)).mono ?_
              rintro x w2 ⟨rfl, hb⟩
              have HB2 := Lib.hid hb
              have hle : (intOut r 0).2.1.length ≤ r.length := out_len (intOut_step (r := r) (e := 0) hw.out.keeps.2.1).1 HB2.out.keeps.2.2
              clear hb
              generalize (intOut r 0).1 = n at *
              generalize (intOut r 0).2.1 = r' at *
              generalize (intOut r 0).2.2 = e' at *
              by_cases hr0 : r' = []
              · subst hr0
                obtain ⟨q, hq⟩ : ∃ q, (e' != 0) = q := ⟨_, rfl⟩
                have HQ := Lib.hid hq
                cases q
                · obtain rfl : e' = 0 := by have := HQ.out; simpa using this
                  clear hq
                  go_wp2_with (first | (go_at_call 18; refine (Left_own w _ br _ _ HB2.out).mono ?_; rintro x w' ⟨rfl, rfl⟩) | (go_at_call 20; refine (Done_own w _ br _ _ HB2.out).mono ?_; rintro x w' ⟨rfl, rfl⟩))
                  go_roundw
                  case rel => exact ⟨k + 1, [], 0, by omega, by go_num, rfl, by simp, HB2.out⟩
                  case measure => simp [intOf]; omega
                · have hdn : doneOf [] e' = e' := doneOf_nil e'
                  go_wp2_with (first | (go_at_call 18; refine (Left_own w _ br _ _ HB2.out).mono ?_; rintro x w' ⟨rfl, rfl⟩) | (go_at_call 20; refine (Done_own w _ br _ _ HB2.out).mono ?_; rintro x w' ⟨rfl, rfl⟩))
                  go_roundw
                  case rel => exact ⟨k + 1, [], e', by omega, by go_num, rfl, by simp, HB2.out⟩
                  case measure => simp [intOf]; omega
              · obtain rfl : e' = 0 := by
                  by_cases h : e' = 0
                  · exact h
                  · exact absurd (HB2.out.keeps.2.2 h) hr0
                have hl0 : ((r'.length : Int) == 0) = false := by
                  simp only [beq_eq_false_iff_ne]
                  have : 0 < r'.length := List.length_pos_iff.2 hr0
                  omega
                clear hr0
                go_wp2_with (first | (go_at_call 18; refine (Left_own w _ br _ _ HB2.out).mono ?_; rintro x w' ⟨rfl, rfl⟩) | (go_at_call 20; refine (Done_own w _ br _ _ HB2.out).mono ?_; rintro x w' ⟨rfl, rfl⟩))
                go_roundw
                case rel => exact ⟨k + 1, r', 0, by omega, by go_num, rfl, by omega, HB2.out⟩
                case measure => simp [intOf]; omega
            · refine (RMark_own w wr br r 0 hw.out).mono ?_
              rintro x w2 ⟨rfl, hb⟩
              have HB2 := Lib.hid hb
              have hle : (markOut r 0).2.1.length ≤ r.length := out_len (markOut_step (r := r) (e := 0) hw.out.keeps.2.1) HB2.out.keeps.2.2
              clear hb
              generalize (markOut r 0).1 = n at *
              generalize (markOut r 0).2.1 = r' at *
              generalize (markOut r 0).2.2 = e' at *
              by_cases hr0 : r' = []
              · subst hr0
                obtain ⟨q, hq⟩ : ∃ q, (e' != 0) = q := ⟨_, rfl⟩
                have HQ := Lib.hid hq
                cases q
                · obtain rfl : e' = 0 := by have := HQ.out; simpa using this
                  clear hq
                  go_wp2_with (first | (go_at_call 18; refine (Left_own w _ br _ _ HB2.out).mono ?_; rintro x w' ⟨rfl, rfl⟩) | (go_at_call 20; refine (Done_own w _ br _ _ HB2.out).mono ?_; rintro x w' ⟨rfl, rfl⟩))
                  go_roundw
                  case rel => exact ⟨k + 1, [], 0, by omega, by go_num, rfl, by simp, HB2.out⟩
                  case measure => simp [intOf]; omega
                · have hdn : doneOf [] e' = e' := doneOf_nil e'
                  go_wp2_with (first | (go_at_call 18; refine (Left_own w _ br _ _ HB2.out).mono ?_; rintro x w' ⟨rfl, rfl⟩) | (go_at_call 20; refine (Done_own w _ br _ _ HB2.out).mono ?_; rintro x w' ⟨rfl, rfl⟩))
                  go_roundw
                  case rel => exact ⟨k + 1, [], e', by omega, by go_num, rfl, by simp, HB2.out⟩
                  case measure => simp [intOf]; omega
              · obtain rfl : e' = 0 := by
                  by_cases h : e' = 0
                  · exact h
                  · exact absurd (HB2.out.keeps.2.2 h) hr0
                have hl0 : ((r'.length : Int) == 0) = false := by
                  simp only [beq_eq_false_iff_ne]
                  have : 0 < r'.length := List.length_pos_iff.2 hr0
                  omega
                clear hr0
                go_wp2_with (first | (go_at_call 18; refine (Left_own w _ br _ _ HB2.out).mono ?_; rintro x w' ⟨rfl, rfl⟩) | (go_at_call 20; refine (Done_own w _ br _ _ HB2.out).mono ?_; rintro x w' ⟨rfl, rfl⟩))
                go_roundw
                case rel => exact ⟨k + 1, r', 0, by omega, by go_num, rfl, by omega, HB2.out⟩
                case measure => simp [intOf]; omega
            · refine (RFloat_own w wr br r 0 hw.out).mono ?_
              rintro x w2 ⟨rfl, hb⟩
              have HB2 := Lib.hid hb
              have hle : (fltOut r 0).2.1.length ≤ r.length := out_len (fltOut_step (r := r) (e := 0) hw.out.keeps.2.1) HB2.out.keeps.2.2
              clear hb
              generalize (fltOut r 0).1 = n at *
              generalize (fltOut r 0).2.1 = r' at *
              generalize (fltOut r 0).2.2 = e' at *
              by_cases hr0 : r' = []
              · subst hr0
                obtain ⟨q, hq⟩ : ∃ q, (e' != 0) = q := ⟨_, rfl⟩
                have HQ := Lib.hid hq
                cases q
                · obtain rfl : e' = 0 := by have := HQ.out; simpa using this
                  clear hq
                  go_wp2_with (first | (go_at_call 18; refine (Left_own w _ br _ _ HB2.out).mono ?_; rintro x w' ⟨rfl, rfl⟩) | (go_at_call 20; refine (Done_own w _ br _ _ HB2.out).mono ?_; rintro x w' ⟨rfl, rfl⟩))
                  go_roundw
                  case rel => exact ⟨k + 1, [], 0, by omega, by go_num, rfl, by simp, HB2.out⟩
                  case measure => simp [intOf]; omega
                · have hdn : doneOf [] e' = e' := doneOf_nil e'
                  go_wp2_with (first | (go_at_call 18; refine (Left_own w _ br _ _ HB2.out).mono ?_; rintro x w' ⟨rfl, rfl⟩) | (go_at_call 20; refine (Done_own w _ br _ _ HB2.out).mono ?_; rintro x w' ⟨rfl, rfl⟩))
                  go_roundw
                  case rel => exact ⟨k + 1, [], e', by omega, by go_num, rfl, by simp, HB2.out⟩
                  case measure => simp [intOf]; omega
              · obtain rfl : e' = 0 := by
                  by_cases h : e' = 0
                  · exact h
                  · exact absurd (HB2.out.keeps.2.2 h) hr0
                have hl0 : ((r'.length : Int) == 0) = false := by
                  simp only [beq_eq_false_iff_ne]
                  have : 0 < r'.length := List.length_pos_iff.2 hr0
                  omega
                clear hr0
                go_wp2_with (first | (go_at_call 18; refine (Left_own w _ br _ _ HB2.out).mono ?_; rintro x w' ⟨rfl, rfl⟩) | (go_at_call 20; refine (Done_own w _ br _ _ HB2.out).mono ?_; rintro x w' ⟨rfl, rfl⟩))
                go_roundw
                case rel => exact ⟨k + 1, r', 0, by omega, by go_num, rfl, by omega, HB2.out⟩
                case measure => simp [intOf]; omega
            · refine (RText_own w wr br r 0 hw.out (by omega)).mono ?_
              rintro x w2 ⟨b2, ax, capx, rfl, _, _, _, hb, _⟩
              have HB2 := Lib.hid hb
              have hle : (textOut r 0).2.1.length ≤ r.length := out_len (textOut_step (r := r) (e := 0) hw.out.keeps.2.1).1 HB2.out.keeps.2.2
              clear hb
              generalize (textOut r 0).1 = n at *
              generalize (textOut r 0).2.1 = r' at *
              generalize (textOut r 0).2.2 = e' at *
              by_cases hr0 : r' = []
              · subst hr0
                obtain ⟨q, hq⟩ : ∃ q, (e' != 0) = q := ⟨_, rfl⟩
                have HQ := Lib.hid hq
                cases q
                · obtain rfl : e' = 0 := by have := HQ.out; simpa using this
                  clear hq
                  go_wp2_with (first | (go_at_call 18; refine (Left_own w _ br _ _ HB2.out).mono ?_; rintro x w' ⟨rfl, rfl⟩) | (go_at_call 20; refine (Done_own w _ br _ _ HB2.out).mono ?_; rintro x w' ⟨rfl, rfl⟩))
                  go_roundw
                  case rel => exact ⟨k + 1, [], 0, by omega, by go_num, rfl, by simp, HB2.out⟩
                  case measure => simp [intOf]; omega
                · have hdn : doneOf [] e' = e' := doneOf_nil e'
                  go_wp2_with (first | (go_at_call 18; refine (Left_own w _ br _ _ HB2.out).mono ?_; rintro x w' ⟨rfl, rfl⟩) | (go_at_call 20; refine (Done_own w _ br _ _ HB2.out).mono ?_; rintro x w' ⟨rfl, rfl⟩))
                  go_roundw
                  case rel => exact ⟨k + 1, [], e', by omega, by go_num, rfl, by simp, HB2.out⟩
                  case measure => simp [intOf]; omega
              · obtain rfl : e' = 0 := by
                  by_cases h : e' = 0
                  · exact h
                  · exact absurd (HB2.out.keeps.2.2 h) hr0
                have hl0 : ((r'.length : Int) == 0) = false := by
                  simp only [beq_eq_false_iff_ne]
                  have : 0 < r'.length := List.length_pos_iff.2 hr0
                  omega
                clear hr0
                go_wp2_with (first | (go_at_call 18; refine (Left_own w _ br _ _ HB2.out).mono ?_; rintro x w' ⟨rfl, rfl⟩) | (go_at_call 20; refine (Done_own w _ br _ _ HB2.out).mono ?_; rintro x w' ⟨rfl, rfl⟩))
                go_roundw
                case rel => exact ⟨k + 1, r', 0, by omega, by go_num, rfl, by omega, HB2.out⟩
                case measure => simp [intOf]; omega
          · have HE := Lib.hid he
            obtain rfl : r = [] := hw.out.keeps.2.2 he
            have he0 : (e != 0) = true := by simp [he]
            have he1 : (e == 0) = false := by simp [he]
            have hee : (e != e) = false := by simp
            have hz0 := zero_flt
            clear he
            go_wp2_with (go_at_call 18; refine (Left_own w wr br [] e hw.out).mono ?_; rintro x w' ⟨rfl, rfl⟩)
            · refine (RInt_own w wr br [] e hw.out (by simp)).mono ?_
              rw [intOut_err HE.out]
              rintro x w2 ⟨rfl, hb⟩
              have HB2 := Lib.hid hb
              clear hb
              have hdn : doneOf [] e = e := doneOf_nil e
              go_wp2_with (first | (go_at_call 18; refine (Left_own w _ br _ _ HB2.out).mono ?_; rintro x w' ⟨rfl, rfl⟩) | (go_at_call 20; refine (Done_own w _ br _ _ HB2.out).mono ?_; rintro x w' ⟨rfl, rfl⟩))
              go_roundw
              case rel => exact ⟨k + 1, [], e, by omega, by go_num, rfl, by simp, HB2.out⟩
              case measure => simp [intOf]; omega
            · refine (RMark_own w wr br [] e hw.out).mono ?_
              rw [markOut_err HE.out]
              rintro x w2 ⟨rfl, hb⟩
              have HB2 := Lib.hid hb
              clear hb
              have hdn : doneOf [] e = e := doneOf_nil e
              go_wp2_with (first | (go_at_call 18; refine (Left_own w _ br _ _ HB2.out).mono ?_; rintro x w' ⟨rfl, rfl⟩) | (go_at_call 20; refine (Done_own w _ br _ _ HB2.out).mono ?_; rintro x w' ⟨rfl, rfl⟩))
              go_roundw
              case rel => exact ⟨k + 1, [], e, by omega, by go_num, rfl, by simp, HB2.out⟩
              case measure => simp [intOf]; omega
            · refine (RFloat_own w wr br [] e hw.out).mono ?_
              rw [fltOut_err HE.out]
              rintro x w2 ⟨rfl, hb⟩
              have HB2 := Lib.hid hb
              clear hb
              have hdn : doneOf [] e = e := doneOf_nil e
              go_wp2_with (first | (go_at_call 18; refine (Left_own w _ br _ _ HB2.out).mono ?_; rintro x w' ⟨rfl, rfl⟩) | (go_at_call 20; refine (Done_own w _ br _ _ HB2.out).mono ?_; rintro x w' ⟨rfl, rfl⟩))
              go_roundw
              case rel => exact ⟨k + 1, [], e, by omega, by go_num, rfl, by simp, HB2.out⟩
              case measure => simp [intOf]; omega
            · refine (RText_own w wr br [] e hw.out (by simp)).mono ?_
              unfold TextOwn
              rw [textOut_err0 HE.out]
              rintro x w2 ⟨b2, ax, capx, rfl, _, _, _, hb, _⟩
              have HB2 := Lib.hid hb
              clear hb
              have hdn : doneOf [] e = e := doneOf_nil e
              go_wp2_with (first | (go_at_call 18; refine (Left_own w _ br _ _ HB2.out).mono ?_; rintro x w' ⟨rfl, rfl⟩) | (go_at_call 20; refine (Done_own w _ br _ _ HB2.out).mono ?_; rintro x w' ⟨rfl, rfl⟩))
              go_roundw
              case rel => exact ⟨k + 1, [], e, by omega, by go_num, rfl, by simp, HB2.out⟩
              case measure => simp [intOf]; omega
        · obtain rfl : k = L.length := by omega
          have HK := Lib.hid hw.out.keeps.1
          go_wp2_with (first | (go_at_call 16; refine (wakes_any _).mono ?_; rintro x w5 ⟨rfl, k5⟩))
          go_ret
          exact ⟨rfl, HK.out.trans k5⟩
theorem PackSticks_law (a : Option Addr) (len cap : Nat) (a2 : Option Addr) (len2 cap2 : Nat) (W : World) (h1 : BytesIn W a len cap) (h2 : IntsIn W a2 len2 cap2) :
    Calls Try.prog 8 #[.slice a len cap, .slice a2 len2 cap2] W fun e w' => e = .returned (.bool true) ∧ Below W.heap.size W w' := by
  obtain ⟨b, c, rfl, hs, h8⟩ := h1
  obtain ⟨_, L, rfl, hi⟩ := h2
  exact (PackSticks_any b a cap c a2 cap2 L W hs h8 hi hs.len).mono fun _ _ ⟨he, hk⟩ => ⟨he, all_below hk⟩
end Go.Proofs.Ytjlpmmbmjkbdiaa.Pk
