/- PackOnly's walk. -/
import Derived.Test.YtjlpmmbmjkbdiaaBoth
namespace Go.Proofs.Ytjlpmmbmjkbdiaa.Pk
open Go Go.RowKit Mem
theorem keep3 (e : Int) : keep e 3 ≠ 0 := by unfold keep; split <;> omega
theorem keep2 (e : Int) : keep e 2 ≠ 0 := by unfold keep; split <;> omega
theorem intOut_step {r : List Nat} {e : Int} (h8 : B8 r) :
    ((intOut r e).2.2 = 0 → e = 0 ∧ r = intB (intOut r e).1 ++ (intOut r e).2.1) ∧ (-9223372036854775808 ≤ (intOut r e).1 ∧ (intOut r e).1 ≤ 9223372036854775807) := by
  unfold intOut
  cases hd : rdInt r with
  | none => exact ⟨fun h => absurd h (keep3 e), (by decide : (-9223372036854775808 : Int) ≤ 0), (by decide : (0 : Int) ≤ 9223372036854775807)⟩
  | some p =>
    obtain ⟨n, r'⟩ := p
    have := rdInt_sound h8 hd
    exact ⟨fun h => ⟨h, this.1⟩, this.2⟩
theorem markOut_step {r : List Nat} {e : Int} (h8 : B8 r) : ((markOut r e).2.2 = 0 → e = 0 ∧ r = markB (markOut r e).1 ++ (markOut r e).2.1) := by
  unfold markOut
  cases hd : rdMark r with
  | none => exact fun h => absurd h (keep3 e)
  | some p =>
    obtain ⟨n, r'⟩ := p
    have h := rd_sound (k := 1) (v := .mark n) (r := r') (by decide) h8 (by simp [rd, hd])
    exact fun h' => ⟨h', h.1⟩
theorem fltOut_step {r : List Nat} {e : Int} (h8 : B8 r) : ((fltOut r e).2.2 = 0 → e = 0 ∧ r = fltB (fltOut r e).1 ++ (fltOut r e).2.1) := by
  unfold fltOut
  cases hd : rdFlt r with
  | none => exact fun h => absurd h (keep3 e)
  | some p =>
    obtain ⟨n, r'⟩ := p
    have h := rd_sound (k := 2) (v := .flt n) (r := r') (by decide) h8 (by simp [rd, hd])
    exact fun h' => ⟨h', h.1⟩
theorem rdText_err {r : List Nat} {x : Int} (h : rdText r = .error x) : x = 2 ∨ x = 3 := by
  unfold rdText at h
  split at h
  · cases h; exact .inr rfl
  · split at h
    · cases h; exact .inl rfl
    · split at h
      · cases h; exact .inr rfl
      · cases h
theorem textOut_step {r : List Nat} {e : Int} (h8 : B8 r) : ((textOut r e).2.2 = 0 → e = 0 ∧ r = textB (textOut r e).1 ++ (textOut r e).2.1) ∧ B8 (textOut r e).1 ∧ (textOut r e).1.length ≤ 16384 := by
  unfold textOut
  cases hd : rdText r with
  | error x =>
    refine ⟨fun h => ?_, B8.nil, by simp⟩
    rcases rdText_err hd with rfl | rfl
    · exact absurd h (keep2 e)
    · exact absurd h (keep3 e)
  | ok p =>
    obtain ⟨n, r'⟩ := p
    have h := rd_sound (k := 3) (v := .text n) (r := r') (by decide) h8 (by simp [rd, hd])
    exact ⟨fun h' => ⟨h', h.1⟩, h.2.1.2, h.2.1.1⟩
/-- where the loop stands: what was read is what was written -/
def OnlyInv (c r l : List Nat) (e : Int) (k : Nat) : Prop := (e = 0 → c = l ++ r) ∧ (e ≠ 0 → r = []) ∧ l.length ≤ k * 16394 ∧ r.length ≤ 32768
theorem Both.err {w wr : World} {br bw : Nat} {r l : List Nat} {e : Int} (h : Both w wr br bw r e l) : e ≠ 0 → r = [] := by
  obtain ⟨_, _, h1, _⟩ := h; exact h1.len.2
theorem OnlyInv.next {c r r' l m : List Nat} {e e' : Int} {k : Nat} (h : OnlyInv c r l e k) (hs : e' = 0 → e = 0 ∧ r = m ++ r') (he : e' ≠ 0 → r' = []) (hm : m.length ≤ 16394) : OnlyInv c r' (l ++ m) e' (k + 1) := by
  obtain ⟨h1, h2, h3, h4⟩ := h
  refine ⟨fun h => ?_, he, ?_, ?_⟩
  · obtain ⟨e0, er⟩ := hs h
    rw [h1 e0, List.append_assoc, ← er]
  · rw [List.length_append]; omega
  · by_cases h : e' = 0
    · obtain ⟨e0, er⟩ := hs h
      rw [er, List.length_append] at h4; omega
    · rw [he h]; simp
theorem done_zero {r : List Nat} {e : Int} (h : doneOf r e = 0) : e = 0 ∧ r = [] := by
  unfold doneOf at h
  split at h
  · omega
  · rename_i h2
    subst h
    refine ⟨rfl, ?_⟩
    have : ¬ 0 < r.length := fun h => h2 ⟨rfl, h⟩
    exact List.eq_nil_of_length_eq_zero (by omega)
set_option maxHeartbeats 4000000 in
set_option maxRecDepth 100000 in
theorem PackOnly_any (b : Nat) (a : Option Addr) (cap : Nat) (c : List Nat) (a2 : Option Addr) (cap2 : Nat) (L : List Int) (w : World) (hs : Src w b a cap c) (h8 : B8 c) (hi : Ints w a2 L) (hc : c.length ≤ 9223372036854775807) :
    Calls Try.prog 5 #[.slice a c.length cap, .slice a2 L.length cap2] w fun e w' => e = .returned (.bool true) ∧ Kept None w w' := by
  have HS := Lib.hid hs
  have H8 := Lib.hid h8
  have HI := Lib.hid hi
  clear hs h8 hi
  by_cases hbig : 32768 < c.length
  · go_enter Try.func5, Try.ntmps5
    go_wp2
    go_ret
    exact ⟨rfl, Kept.refl _ _⟩
  · have d1 : decide (32768 < c.length) = false := by simpa using hbig
    have d1' : decide ((32768 : Int) < (c.length : Int)) = false := by simp; omega
    by_cases hbig2 : 200 < L.length
    · have d2 : decide (200 < L.length) = true := by simpa using hbig2
      have d2' : decide ((200 : Int) < (L.length : Int)) = true := by simp; omega
      go_enter Try.func5, Try.ntmps5
      go_wp2
      go_ret
      exact ⟨rfl, Kept.refl _ _⟩
    · have d2 : decide (200 < L.length) = false := by simpa using hbig2
      have d2' : decide ((200 : Int) < (L.length : Int)) = false := by simp; omega
      go_enter Try.func5, Try.ntmps5
      go_wp2_with fail
      refine (NewReader_own w w (Kept.refl _ _) b a cap c HS.out (by omega) H8.out).mono ?_
      rintro x w1 ⟨br, rfl, hr, hk1⟩
      have H1 := Lib.hid (Both.start hr)
      clear hr hk1
      go_wp2
      go_loopw [7] (fun i wr => ∃ (k : Nat) (r l : List Nat) (e : Int), k ≤ L.length ∧ i = .int .i64 k ∧ Hid (Both w wr br w1.heap.size r e l ∧ OnlyInv c r l e k)) (fun i _ => L.length - (intOf i).toNat)
      case atStart => exact ⟨0, c, [], 0, by omega, rfl, H1.out, fun _ => rfl, fun h => absurd rfl h, by simp, by omega⟩
      case round =>
        obtain ⟨k, r, l, e, hk, rfl, hw⟩ := hrel
        by_cases hlt : k < L.length
        · obtain ⟨bk, ok, rfl, hck⟩ := (HI.out.kept hw.out.1.keeps.1).2.2 (by omega)
          have hcell := hck k hlt
          have hKb : -9223372036854775808 ≤ L.getD k 0 ∧ L.getD k 0 ≤ 9223372036854775807 := HI.out.1 _ (by simp [hlt])
          clear hck
          generalize L.getD k 0 = K at *
          have hKl := hKb.1
          have hKr := hKb.2
          have hkL : k ≤ 200 := by omega
          have HB := Lib.hid hw.out.1
          have HV := Lib.hid hw.out.2
          have hrl : r.length ≤ 32768 := hw.out.2.2.2.2
          have hll : l.length ≤ 3278800 := by have := hw.out.2.2.2.1; omega
          clear hKb
          go_wp2_with fail
          · refine (RInt_both w wr br w1.heap.size r e l HB.out (by omega)).mono ?_
            rintro x w2 ⟨rfl, hb⟩
            have HB2 := Lib.hid hb
            have HE2 := Lib.hid hb.err
            have hst := intOut_step (r := r) (e := e) HB.out.keeps.2.1
            have HST := Lib.hid hst.1
            have hn1 := hst.2.1
            have hn2 := hst.2.2
            clear hb hst
            generalize (intOut r e).1 = n at *
            generalize (intOut r e).2.1 = r' at *
            generalize (intOut r e).2.2 = e' at *
            go_wp2_with fail
            refine (WInt_both w w2 br w1.heap.size r' e' l HB2.out n hn1 hn2 (by omega)).mono ?_
            rintro x w3 ⟨rfl, hb⟩
            have HB3 := Lib.hid hb
            clear hb
            go_wp2
            go_roundw
            case rel => exact ⟨k + 1, r', l ++ intB n, e', by omega, by go_num, HB3.out, HV.out.next HST.out HE2.out (by have := (intB_len n).2; omega)⟩
            case measure => simp [intOf]; omega
          · refine (RMark_both w wr br w1.heap.size r e l HB.out).mono ?_
            rintro x w2 ⟨rfl, hb⟩
            have HB2 := Lib.hid hb
            have HE2 := Lib.hid hb.err
            have HST := Lib.hid (markOut_step (r := r) (e := e) HB.out.keeps.2.1)
            clear hb
            generalize (markOut r e).1 = n at *
            generalize (markOut r e).2.1 = r' at *
            generalize (markOut r e).2.2 = e' at *
            go_wp2_with fail
            refine (WMark_both w w2 br w1.heap.size r' e' l HB2.out n (by omega)).mono ?_
            rintro x w3 ⟨rfl, hb⟩
            have HB3 := Lib.hid hb
            clear hb
            go_wp2
            go_roundw
            case rel => exact ⟨k + 1, r', l ++ markB n, e', by omega, by go_num, HB3.out, HV.out.next HST.out HE2.out (by show 1 ≤ _; omega)⟩
            case measure => simp [intOf]; omega
          · refine (RFloat_both w wr br w1.heap.size r e l HB.out).mono ?_
            rintro x w2 ⟨rfl, hb⟩
            have HB2 := Lib.hid hb
            have HE2 := Lib.hid hb.err
            have HST := Lib.hid (fltOut_step (r := r) (e := e) HB.out.keeps.2.1)
            clear hb
            generalize (fltOut r e).1 = n at *
            generalize (fltOut r e).2.1 = r' at *
            generalize (fltOut r e).2.2 = e' at *
            go_wp2_with fail
            refine (WFloat_both w w2 br w1.heap.size r' e' l HB2.out n (by omega)).mono ?_
            rintro x w3 ⟨rfl, hb⟩
            have HB3 := Lib.hid hb
            clear hb
            go_wp2
            go_roundw
            case rel => exact ⟨k + 1, r', l ++ fltB n, e', by omega, by go_num, HB3.out, HV.out.next HST.out HE2.out (by show 8 ≤ _; omega)⟩
            case measure => simp [intOf]; omega
          · refine (RText_both w wr br w1.heap.size r e l HB.out (by omega)).mono ?_
            rintro x w2 ⟨ax, capx, rfl, hb⟩
            have HB2 := Lib.hid hb
            have hst := textOut_step (r := r) (e := e) HB.out.keeps.2.1
            have HST := Lib.hid hst.1
            have HT8 := Lib.hid hst.2.1
            have ht := hst.2.2
            clear hb hst
            generalize textOut r e = o at *
            go_wp2_with fail
            refine (WText_both w w2 br w1.heap.size o l ax capx HB2.out HT8.out ht (by omega)).mono ?_
            rintro x w3 ⟨rfl, hb⟩
            have HB3 := Lib.hid hb
            clear hb
            go_wp2
            go_roundw
            case rel => exact ⟨k + 1, o.2.1, l ++ textB o.1, o.2.2, by omega, by go_num, HB3.out, HV.out.next HST.out HB3.out.err (by unfold textB; rw [List.length_append]; have := (intB_len o.1.length).2; omega)⟩
            case measure => simp [intOf]; omega
        · obtain rfl : k = L.length := by omega
          have HB := Lib.hid hw.out.1
          have HV := Lib.hid hw.out.2
          have hll : l.length ≤ 3278800 := by have := hw.out.2.2.2.1; omega
          obtain ⟨q, hq⟩ : ∃ q, (doneOf r e != 0) = q := ⟨_, rfl⟩
          have HQ := Lib.hid hq
          cases q
          · go_wp2_with fail
            refine (Done_both w wr br w1.heap.size r e l HB.out).mono ?_
            rintro x w2 ⟨rfl, rfl⟩
            go_wp2_with fail
            refine (WBytes_both w wr br w1.heap.size r e l HB.out (by omega)).mono ?_
            rintro x w3 ⟨b3, a3, cap3, rfl, ho, hb3, hb4, hk3⟩
            have HO := Lib.hid ho
            have HK := Lib.hid (HB.out.keeps.1.trans hk3)
            clear ho hk3
            go_wp2_with fail
            refine (KBytes_any b3 a3 cap3 l b a cap c w3 HO.out.src (HS.out.kept HK.out (fun _ h => h)) (by omega) (by omega)).mono ?_
            rintro x w4 ⟨rfl, n, rfl⟩
            have hd : decide (l = c) = true := by
              have h0 := HQ.out
              simp only [bne_eq_false_iff_eq] at h0
              obtain ⟨e0, r0⟩ := done_zero h0
              have h1 := HV.out.1 e0
              rw [r0, List.append_nil] at h1
              rw [h1]; simp
            rw [hd]
            clear hd
            go_wp2_with fail
            refine (wakes_any _).mono ?_
            rintro x w5 ⟨rfl, k5⟩
            go_wp2
            go_ret
            exact ⟨rfl, (HK.out.drewN n).trans k5⟩
          · go_wp2_with fail
            refine (Done_both w wr br w1.heap.size r e l HB.out).mono ?_
            rintro x w2 ⟨rfl, rfl⟩
            have HK := Lib.hid HB.out.keeps.1
            go_wp2_with (first | (go_at_call 16; refine (wakes_any _).mono ?_; rintro x w5 ⟨rfl, k5⟩))
            go_ret
            exact ⟨rfl, HK.out.trans k5⟩
theorem PackOnly_law (a : Option Addr) (len cap : Nat) (a2 : Option Addr) (len2 cap2 : Nat) (W : World) (h1 : BytesIn W a len cap) (h2 : IntsIn W a2 len2 cap2) :
    Calls Try.prog 5 #[.slice a len cap, .slice a2 len2 cap2] W fun e w' => e = .returned (.bool true) ∧ Below W.heap.size W w' := by
  obtain ⟨b, c, rfl, hs, h8⟩ := h1
  obtain ⟨_, L, rfl, hi⟩ := h2
  exact (PackOnly_any b a cap c a2 cap2 L W hs h8 hi hs.len).mono fun _ _ ⟨he, hk⟩ => ⟨he, all_below hk⟩
end Go.Proofs.Ytjlpmmbmjkbdiaa.Pk
