/- PackFloats' walk. -/
import Derived.Test.YtjlpmmbmjkbdiaaOwnR
namespace Go.Proofs.Ytjlpmmbmjkbdiaa.Pk
open Go Go.RowKit Mem
attribute [local go_sem] run_bits run_frombits
theorem intOut_enc {n : Int} (h1 : -9223372036854775808 ≤ n) (h2 : n ≤ 9223372036854775807) (r : List Nat) (e : Int) : intOut (intB n ++ r) e = (n, r, e) := by unfold intOut; rw [rdInt_enc h1 h2]
theorem fltOut_enc {x : Nat} (hx : x < 18446744073709551616) (r : List Nat) (e : Int) : fltOut (fltB x ++ r) e = (Nm.canon x, r, e) := by unfold fltOut; rw [rdFlt_enc hx]
theorem fltOut_bad {x : Nat} (hx : x < 18446744073709551616) (h : Nm.canon x ≠ x) (r : List Nat) : fltOut (high8 x ++ r) 0 = (0, [], 3) := by
  have hl : (high8 x).length = 8 := rfl
  have ht : (high8 x ++ r).take 8 = high8 x := by rw [← hl]; exact List.take_left
  unfold fltOut rdFlt
  rw [if_neg (by rw [List.length_append, hl]; omega), ht, num8_high8 hx, if_neg h]
  rfl
theorem fltOut_good {x : Nat} (hx : x < 18446744073709551616) (h : Nm.canon x = x) (r : List Nat) (e : Int) : fltOut (high8 x ++ r) e = (x, r, e) := by
  have := fltOut_enc hx r e
  unfold fltB at this
  rw [h] at this
  exact this
theorem intOut_nil (e : Int) (h : e ≠ 0) : intOut [] e = (0, [], e) := by unfold intOut; simp [rdInt, dec, keep, h]
set_option maxHeartbeats 2000000 in
set_option maxRecDepth 100000 in
theorem PackFloats_any (B : Nat) (n : Int) (w : World) (hB : B < 18446744073709551616) (h1 : -9223372036854775808 ≤ n) (h2 : n ≤ 9223372036854775807) :
    Calls Try.prog 7 #[.int .u64 B, .int .i64 n] w fun e w' => e = .returned (.bool true) ∧ Kept None w w' := by
  obtain ⟨i0, hi, hz0, hz1, hz2⟩ := info_parts infoU8
  have H0 := Lib.hid (OwnW.new w w (Kept.refl _ _))
  have hln := intB_len n
  have hl8 : (fltB B).length = 8 := rfl
  have HL8 := Lib.hid hl8
  clear hl8
  go_enter Try.func7, Try.ntmps7
  go_wp2_with fail
  refine (WFloat_own w _ w.heap.size [] B H0.out (by decide)).mono ?_
  rintro x w1 ⟨rfl, ha⟩
  have H1 := Lib.hid ha
  clear ha
  go_wp2_with fail
  refine (WInt_own w _ w.heap.size _ n H1.out h1 h2 (by simp [HL8.out])).mono ?_
  rintro x w2 ⟨rfl, ha⟩
  have H2 := Lib.hid ha
  clear ha
  have hlen : (fltB B ++ intB n).length = 8 + (intB n).length := by rw [List.length_append, HL8.out]
  have HLN := Lib.hid hlen
  clear hlen
  go_wp2_with fail
  refine (WBytes_own w _ w.heap.size _ H2.out (by simp only [List.nil_append]; rw [HLN.out]; omega)).mono ?_
  rintro x w3 ⟨b, a, cap, rfl, ho, hb, hb2, hw3, hk3⟩
  have HO := Lib.hid ho
  have H3 := Lib.hid hw3.keeps
  clear ho hw3 hk3
  simp only [List.nil_append] at HO H3
  rw [List.nil_append, HLN.out]
  go_wp2_with fail
  have hcl := NewReader_own w w3 H3.out.1 b a cap _ HO.out.src (by rw [HLN.out]; omega) H3.out.2
  rw [HLN.out] at hcl
  refine hcl.mono ?_
  rintro x w4 ⟨br, rfl, hr, hk4⟩
  have HR4 := Lib.hid hr
  clear hr hcl hk4
  go_wp2_with fail
  refine (RFloat_own w w4 br _ _ HR4.out).mono ?_
  rintro x w5 ⟨rfl, hr⟩
  rw [fltOut_enc hB] at hr
  have HR5 := Lib.hid hr
  clear hr
  have hx5 := fltOut_enc hB (intB n) 0
  rw [hx5]
  clear hx5
  go_wp2_with fail
  refine (KFloat_any _ _ _).mono ?_
  rintro e w' ⟨rfl, rfl⟩
  rw [keepF_canon]
  go_wp2_with fail
  refine (RInt_own w w5 br _ _ HR5.out (by omega)).mono ?_
  rintro x w6 ⟨rfl, hr⟩
  have hx6 := intOut_enc h1 h2 [] 0
  rw [List.append_nil] at hx6
  rw [hx6] at hr ⊢
  have HR6 := Lib.hid hr
  clear hr hx6
  have hnn : (n != n) = false := by simp
  go_wp2_with fail
  refine (Done_own w w6 br _ _ HR6.out).mono ?_
  rintro x w' ⟨rfl, rfl⟩
  have hd0 : doneOf [] 0 = 0 := rfl
  rw [hd0]
  clear hd0
  have KK := Lib.hid HR6.out.keeps.1
  go_wp2_with fail
  refine (High_any B w6).mono ?_
  rintro x w7 ⟨b7, a7, cap7, rfl, ho7, hb7, k7, hb72⟩
  have HO7 := Lib.hid ho7
  have K7 := Lib.hid (KK.out.trans k7)
  clear ho7 k7
  go_wp2_with fail
  refine (refInt_any n w7 h1 h2).mono ?_
  rintro x w8 ⟨b8, a8, cap8, rfl, ho8, hb8, k8, hb82⟩
  have HO8 := Lib.hid ho8
  have HO7' : Hid (OwnB 5 w8 b7 a7 cap7 (high8 B)) := HO7.out.kept k8 (fun _ h => h)
  have K8 := Lib.hid (K7.out.trans k8)
  have hl8 : (high8 B).length = 8 := rfl
  have HL8 := Lib.hid hl8
  have hwb : w.heap.size ≤ b7 := Nat.le_trans KK.out.size hb7
  clear ho8 k8 hl8
  go_wp2_with (at_builtin; refine wpList_append_bytes rfl _ _ 28 rfl 5 i0 Try.underlying28 hi hz0 hz1 hz2 b7 a7 cap7 (high8 B) _ rfl HO7'.out rfl b8 a8 cap8 (intB n) _ rfl HO8.out.src rfl (by rw [HL8.out]; omega) ?_)
  intro b9 a9 cap9 w9 h2' h3 h4 h5
  have HO9 := Lib.hid h2'
  have hm := mine_append (wa := w8) (wr := w8) hwb K8.out (Kept.refl _ _) h2' h3 (by simpa using h4)
  have K9 : Hid (Kept None w w9) := by obtain ⟨_, _, _, _, _, _, _, h⟩ := hm; exact h
  clear h2' h3 h4 h5 hm
  go_wp2_with fail
  have hcl := NewReader_own w w9 K9.out b9 a9 cap9 _ HO9.out.src (by rw [List.length_append, HL8.out]; omega) ((high8_b8 B).append (intB_b8 n))
  rw [List.length_append] at hcl
  refine hcl.mono ?_
  rintro x w10 ⟨br2, rfl, hr, hk10⟩
  have HR10 := Lib.hid hr
  clear hr hcl hk10
  go_wp2_with fail
  refine (RFloat_own w w10 br2 _ _ HR10.out).mono ?_
  rintro x w11 ⟨rfl, hr⟩
  by_cases hc : Nm.canon B = B
  · rw [fltOut_good hB hc] at hr ⊢
    have HR11 := Lib.hid hr
    have hbb : ((B : Int) == (B : Int)) = true := by simp
    have hnn2 : (n == n) = true := by simp
    have hq : (FloatKind.f64.format.order B B != some .eq) = false ∨ ((FloatKind.f64.format.order B B != some .eq) = true ∧ ((B : Int) != 9221120237041090561) = false) := by
      cases h3 : Nm.isNaN B
      · exact .inl h3
      · refine .inr ⟨h3, ?_⟩
        have := Nm.canon_nan h3
        rw [hc] at this
        rw [this]; simp [Nm.nanBits]
    have hx12 := intOut_enc h1 h2 [] 0
    rw [List.append_nil] at hx12
    clear hr hc
    rcases hq with hq | ⟨hq, hq2⟩
    all_goals
      go_wp2_with fail
      refine (RInt_own w w11 br2 _ _ HR11.out (by omega)).mono ?_
      rintro x w12 ⟨rfl, hr⟩
      rw [hx12] at hr ⊢
      have HR12 := Lib.hid hr
      clear hr
      go_wp2_with fail
      refine (Done_own w w12 br2 _ _ HR12.out).mono ?_
      rintro x w' ⟨rfl, rfl⟩
      rw [show doneOf [] 0 = 0 from rfl]
      have K12 := Lib.hid HR12.out.keeps.1
      go_wp2_with fail
      refine (wakes_any _).mono ?_
      rintro x w13 ⟨rfl, k13⟩
      go_wp2
      go_ret
      exact ⟨rfl, K12.out.trans k13⟩
  · have h3 : Nm.isNaN B = true := by
      cases h : Nm.isNaN B
      · exact absurd (Nm.canon_num h) hc
      · rfl
    have h3' : (FloatKind.f64.format.order B B != some .eq) = true := h3
    have h4' : ((B : Int) != 9221120237041090561) = true := by
      have := Nm.canon_nan h3
      unfold Nm.nanBits at this
      simp; omega
    rw [fltOut_bad hB hc] at hr ⊢
    have HR11 := Lib.hid hr
    clear hr hc h3
    go_wp2_with fail
    refine (RInt_own w w11 br2 _ _ HR11.out (by simp)).mono ?_
    rintro x w12 ⟨rfl, hr⟩
    rw [intOut_nil 3 (by decide)] at hr ⊢
    have HR12 := Lib.hid hr
    clear hr
    go_wp2_with fail
    refine (Done_own w w12 br2 _ _ HR12.out).mono ?_
    rintro x w' ⟨rfl, rfl⟩
    rw [show doneOf [] 3 = 3 from rfl]
    have K12 := Lib.hid HR12.out.keeps.1
    go_wp2_with fail
    refine (wakes_any _).mono ?_
    rintro x w13 ⟨rfl, k13⟩
    go_wp2
    go_ret
    exact ⟨rfl, K12.out.trans k13⟩
theorem int_bounds {n : Int} (h : (Lit.int .i64 n).wf = true) : -9223372036854775808 ≤ n ∧ n ≤ 9223372036854775807 := by
  simp [Lit.wf, IntKind.min, IntKind.max, IntKind.bits, IntKind.signed] at h
  omega
theorem word_bounds {n : Int} (h : (Lit.int .u64 n).wf = true) : 0 ≤ n ∧ n ≤ 18446744073709551615 := by
  simp [Lit.wf, IntKind.min, IntKind.max, IntKind.bits, IntKind.signed] at h
  omega
theorem all_below {w w' : World} (h : Kept None w w') : Below w.heap.size w w' := h.below (Nat.le_refl _) (fun _ h => h.elim)
theorem PackFloats_law (b n : Int) (W : World) (wb : (Lit.int .u64 b).wf = true) (wn : (Lit.int .i64 n).wf = true) :
    Calls Try.prog 7 #[.int .u64 b, .int .i64 n] W fun e w' => e = .returned (.bool true) ∧ Below W.heap.size W w' := by
  have h1 := word_bounds wb
  have h2 := int_bounds wn
  obtain ⟨B, rfl⟩ : ∃ B : Nat, b = B := ⟨b.toNat, by omega⟩
  exact (PackFloats_any B n W (by omega) h2.1 h2.2).mono fun _ _ ⟨he, hk⟩ => ⟨he, all_below hk⟩
end Go.Proofs.Ytjlpmmbmjkbdiaa.Pk
