/- PackCuts' walk. -/
import Derived.Test.YtjlpmmbmjkbdiaaCuts
namespace Go.Proofs.Ytjlpmmbmjkbdiaa.Pk
open Go Go.RowKit Mem
set_option maxHeartbeats 8000000 in
set_option maxRecDepth 100000 in
theorem PackCuts_any (a : Option Addr) (cap : Nat) (L : List It) (AT : Int) (M : Nat) (w : World) (hi : Items w a L) (hM : M < 256) :
    Calls Try.prog 6 #[.slice a L.length cap, .int .i64 AT, .int .u8 M] w fun e w' => e = .returned (.bool true) ∧ Kept Mem.None w w' := by
  obtain ⟨i0, hi0, hz0, hz1, hz2⟩ := info_parts infoU8
  have HI := Lib.hid hi
  have hm := hi.2.1
  clear hi
  cases hq : heavyB L
  · have hL := (heavy_no hq).1
    have HQ := Lib.hid hq
    clear hq
    by_cases hne : L.length = 0
    · have hb0 : ((L.length : Int) == 0) = true := by simp [hne]
      have HNE := Lib.hid hne
      clear hne
      go_enter Try.func6, Try.ntmps6
      go_wp2_with fail
      refine (heavy_any a cap L w HI.out).mono ?_
      rintro x w' ⟨rfl, rfl⟩
      rw [HQ.out]
      go_wp2
      go_ret
      exact ⟨rfl, Kept.refl _ _⟩
    have hb0 : ((L.length : Int) == 0) = false := beq_eq_false_iff_ne.2 (by omega)
    have hLpos : 0 < L.length := by omega
    clear hne
    go_enter Try.func6, Try.ntmps6
    go_wp2_with fail
    refine (heavy_any a cap L w HI.out).mono ?_
    rintro x w' ⟨rfl, rfl⟩
    rw [HQ.out]
    have H0 := Lib.hid (OwnW.new w w (Kept.refl _ _))
    go_wp2
    go_loopw [8] (fun i wr => ∃ k : Nat, k ≤ L.length ∧ i = .int .i64 k ∧ Hid (OwnW w wr w.heap.size (encs (L.take k)) ∧ Fits L k)) (fun i _ => L.length - (intOf i).toNat)
    case atStart => exact ⟨0, by omega, rfl, H0.out, fun x hx => by simp at hx⟩
    case round =>
      obtain ⟨k, hk, rfl, hw⟩ := hrel
      have hle := hw.out.2.len HI.out.1
      by_cases hlt : k < L.length
      · obtain ⟨b, off, rfl, hc⟩ := (HI.out.kept hw.out.1.keeps.1).2.2 (by omega)
        obtain ⟨c0, c1, c2, c3, c4⟩ := hc k hlt
        have HX := Lib.hid (HI.out.get hlt)
        have HE := Lib.hid (encs_take hlt)
        have HF : Hid ((L.getD k It.none).t.length ≤ 16384 → Fits L (k + 1)) := fun h => hw.out.2.next hlt h
        clear hc
        generalize L.getD k It.none = x at *
        by_cases hx : 16384 < x.t.length
        · have HK := Lib.hid hw.out.1.keeps.1
          go_wp2
          go_ret
          exact ⟨rfl, HK.out⟩
        · have hx' : x.t.length ≤ 16384 := by omega
          clear hx
          go_wp2_with fail
          refine (write_own w wr w.heap.size (encs (L.take k)) x hw.out.1 HX.out hx' (by omega)).mono ?_
          rintro x' w2 ⟨rfl, h2⟩
          have H2 := Lib.hid h2
          clear h2
          go_wp2
          go_roundw
          case rel => exact ⟨k + 1, by omega, by go_num, by rw [HE.out]; exact H2.out, HF.out hx'⟩
          case measure => simp [intOf]; omega
      · obtain rfl : k = L.length := by omega
        have hfit : Hid (∀ x ∈ L, x.t.length ≤ 16384) := fun x hx => hw.out.2 x (by rw [List.take_length]; exact hx)
        have hwl := hw.out.1
        rw [List.take_length] at hle hwl
        have HW := Lib.hid hwl
        clear hwl
        have h8 := Lib.hid HW.out.keeps.2
        have hpos := encs_pos HI.out.1 hfit.out hLpos
        have hle2 : (encs L).length ≤ 3278800 := by omega
        have hbe : (((encs L).length : Int) == 0) = false := beq_eq_false_iff_ne.2 (by omega)
        obtain ⟨p, hp, hpe⟩ : ∃ p : Nat, p < (encs L).length ∧ (IntKind.u64.wrap AT).tmod ((encs L).length : Int) = (p : Int) := by
          have h0 : 0 ≤ IntKind.u64.wrap AT := by simp [IntKind.wrap, IntKind.bits, IntKind.signed]; omega
          refine ⟨((IntKind.u64.wrap AT).tmod ((encs L).length : Int)).toNat, ?_, ?_⟩
          · have := Int.tmod_lt_of_pos (IntKind.u64.wrap AT) (b := ((encs L).length : Int)) (by omega)
            omega
          · have := Int.tmod_nonneg ((encs L).length : Int) h0
            omega
        go_wp2_with fail
        refine (WBytes_own w wr w.heap.size (encs L) HW.out (by omega)).mono ?_
        rintro x w3 ⟨b3, a3, cap3, rfl, ho, hb, hb2, hw3, hk3⟩
        have HO := Lib.hid ho
        have HK3 := Lib.hid hw3.keeps.1
        have hI3 := Lib.hid (HI.out.kept hw3.keeps.1)
        obtain rfl : a3 = some ⟨b3, 0, Option.none⟩ := by
          rcases ho with h | h
          · have := h.2.2; rw [this] at hpos; simp at hpos
          · exact h.1
        have hcap := ho.shows.1
        have hcap2 := ho.shows.2.1
        clear ho hw3 hk3 hle
        go_wp2
        go_loopw [11] (fun i wr => ∃ k : Nat, k ≤ 2 ∧ i = .int .i64 k ∧ Hid (Kept Mem.None w3 wr)) (fun i _ => 2 - (intOf i).toNat)
        case atStart => exact ⟨0, by omega, rfl, Kept.refl _ _⟩
        case round =>
          obtain ⟨k, hk, rfl, hkw⟩ := hrel
          by_cases hk2 : k = 2
          · subst hk2
            have HK := Lib.hid (HK3.out.trans hkw.out)
            go_wp2_with (go_at_call 16; refine (wakes_any _).mono ?_; rintro x w13 ⟨rfl, k13⟩)
            go_ret
            exact ⟨rfl, HK.out.trans k13⟩
          · rcases (by omega : k = 0 ∨ k = 1) with rfl | rfl
            · obtain ⟨wx, rfl⟩ : ∃ wx : World, wx = wr := ⟨_, rfl⟩
              obtain ⟨cl, hcl0⟩ : ∃ cl, cl = (encs L).take p := ⟨_, rfl⟩
              have HKX := hkw
              have HN : Hid (cl.length = p) := by show _ = _; rw [hcl0, List.length_take]; omega
              have HC : Hid (Src wx b3 (some ⟨b3, 0, Option.none⟩) cap3 cl) := by
                rw [hcl0]
                exact (fits_left (HO.out.kept hkw.out (fun _ h => h)).shows (by omega)).src
              have HC8 : Hid (B8 cl) := by rw [hcl0]; exact h8.out.take _
              have HBAD : Hid (run L (cl, 0) ≠ ([], 0)) := by rw [hcl0]; exact cut_bad HI.out.1 hfit.out hp h8.out
              have hcl : cl.length ≤ 35184372088832 := by rw [HN.out]; omega
              have hcl2 : cl.length ≤ 3278801 := by rw [HN.out]; omega
              clear hcl0
              go_wp2_with fail
              have hcn := NewReader_own w3 wx HKX.out b3 _ cap3 cl HC.out hcl HC8.out
              rw [HN.out] at hcn
              refine hcn.mono ?_
              rintro x w5 ⟨br, rfl, hr, hk5⟩
              have HR5 := Lib.hid hr
              clear hr hcn hk5
              go_wp2
              obtain ⟨wo, rfl⟩ : ∃ wo : World, wo = wx := ⟨_, rfl⟩
              go_loopw [14] (fun i wr => ∃ (k : Nat) (r : List Nat) (e : Int), k ≤ L.length ∧ i = .int .i64 k ∧ r.length ≤ 3278801 ∧ Hid (OwnR w3 wr br r e ∧ run (L.take k) (cl, 0) = (r, e))) (fun i _ => L.length - (intOf i).toNat)
              case atStart => exact ⟨0, cl, 0, by omega, rfl, by omega, HR5.out, rfl⟩
              case round =>
                obtain ⟨k2, r, e, hk2, rfl, hrl, hw2⟩ := hrel
                by_cases hlt2 : k2 < L.length
                · obtain ⟨b, off, rfl, hc⟩ := (hI3.out.kept hw2.out.1.keeps.1).2.2 (by omega)
                  obtain ⟨c0, c1, c2, c3, c4⟩ := hc k2 hlt2
                  have HX := Lib.hid (hI3.out.get hlt2)
                  have hxt : (L.getD k2 It.none).t.length ≤ 16384 := hfit.out _ (by simp [hlt2])
                  have HRT := Lib.hid (run_take hlt2 (cl, 0))
                  clear hc
                  generalize L.getD k2 It.none = x at *
                  go_wp2_with fail
                  refine (got_own w3 _ br r e x hw2.out.1 HX.out (by omega) (by omega)).mono ?_
                  rintro x' w6 ⟨rfl, h6⟩
                  have H6 := Lib.hid h6
                  have hl6 : (gotOut x r e).2.1.length ≤ 3278801 := by
                    have := gotOut_len (x := x) (r := r) (e := e) hw2.out.1.keeps.2.1 h6.keeps.2.2
                    omega
                  clear h6
                  go_wp2
                  go_roundw
                  case rel => exact ⟨k2 + 1, _, _, by omega, by go_num, hl6, H6.out, by rw [HRT.out, hw2.out.2]⟩
                  case measure => simp [intOf]; omega
                · obtain rfl : k2 = L.length := by omega
                  have hbad : Hid (doneOf r e ≠ 0) := by
                    intro h
                    obtain ⟨e0, r0⟩ := done_zero h
                    have h1 := hw2.out.2
                    rw [List.take_length] at h1
                    rw [e0, r0] at h1
                    exact HBAD.out h1
                  have hdb : (doneOf r e == 0) = false := beq_eq_false_iff_ne.2 hbad.out
                  have HR6 := Lib.hid hw2.out.1
                  go_wp2_with (go_at_call 20; refine (Done_own w3 _ br _ _ HR6.out).mono ?_; rintro x w' ⟨rfl, rfl⟩)
                  go_roundw
                  case rel => exact ⟨1, by omega, by go_num, HR6.out.keeps.1⟩
                  case measure => simp [intOf]
            · go_wp2_with fail
              refine (Twin_any b3 _ cap3 (encs L) wr ((HO.out.kept hkw.out (fun _ h => h)).src) (by omega)).mono ?_
              rintro x w7 ⟨b7, a7, cap7, rfl, ho7, hb7, k7, hb72⟩
              have HO7 := Lib.hid ho7
              have K7 := Lib.hid k7
              clear ho7 k7
              go_wp2_with (at_builtin; refine wpList_append_bytes rfl _ _ 28 rfl 5 i0 Try.underlying28 hi0 hz0 hz1 hz2 b7 a7 cap7 (encs L) _ rfl (HO7.out.kept ((Kept.refl Mem.None _).alloc _) (fun _ h => h)) rfl w7.heap.size _ 1 [M] 1 rfl (shows_lit w7 _ _ _ rfl) rfl (by omega) ?_)
              intro b9 a9 cap9 wx h2' h3 h4 h5
              have HC : Hid (Src wx b9 a9 cap9 (encs L ++ [M])) := h2'.src
              have HKX : Hid (Kept Mem.None w3 wx) := (hkw.out.trans (K7.out.alloc _)).trans' h3 (fun x hx => .inr (by rw [hx.2]; have := hkw.out.size; omega))
              clear h2' h3 h4 h5
              obtain ⟨cl, hcl0⟩ : ∃ cl, cl = encs L ++ [M] := ⟨_, rfl⟩
              rw [← hcl0] at HC
              have HN : Hid (cl.length = (encs L).length + 1) := by show _ = _; rw [hcl0]; simp
              have HC8 : Hid (B8 cl) := by rw [hcl0]; exact h8.out.append (by intro y hy; simp at hy; omega)
              have HBAD : Hid (run L (cl, 0) ≠ ([], 0)) := by rw [hcl0]; exact more_bad HI.out.1 hfit.out M
              have hcl : cl.length ≤ 35184372088832 := by rw [HN.out]; omega
              have hcl2 : cl.length ≤ 3278801 := by rw [HN.out]; omega
              clear hcl0
              go_wp2_with fail
              have hcn := NewReader_own w3 wx HKX.out b9 a9 cap9 cl HC.out hcl HC8.out
              rw [HN.out] at hcn
              refine hcn.mono ?_
              rintro x w5 ⟨br, rfl, hr, hk5⟩
              have HR5 := Lib.hid hr
              clear hr hcn hk5
              go_wp2
              obtain ⟨wo, rfl⟩ : ∃ wo : World, wo = wx := ⟨_, rfl⟩
              go_loopw [14] (fun i wr => ∃ (k : Nat) (r : List Nat) (e : Int), k ≤ L.length ∧ i = .int .i64 k ∧ r.length ≤ 3278801 ∧ Hid (OwnR w3 wr br r e ∧ run (L.take k) (cl, 0) = (r, e))) (fun i _ => L.length - (intOf i).toNat)
              case atStart => exact ⟨0, cl, 0, by omega, rfl, by omega, HR5.out, rfl⟩
              case round =>
                obtain ⟨k2, r, e, hk2, rfl, hrl, hw2⟩ := hrel
                by_cases hlt2 : k2 < L.length
                · obtain ⟨b, off, rfl, hc⟩ := (hI3.out.kept hw2.out.1.keeps.1).2.2 (by omega)
                  obtain ⟨c0, c1, c2, c3, c4⟩ := hc k2 hlt2
                  have HX := Lib.hid (hI3.out.get hlt2)
                  have hxt : (L.getD k2 It.none).t.length ≤ 16384 := hfit.out _ (by simp [hlt2])
                  have HRT := Lib.hid (run_take hlt2 (cl, 0))
                  clear hc
                  generalize L.getD k2 It.none = x at *
                  go_wp2_with fail
                  refine (got_own w3 _ br r e x hw2.out.1 HX.out (by omega) (by omega)).mono ?_
                  rintro x' w6 ⟨rfl, h6⟩
                  have H6 := Lib.hid h6
                  have hl6 : (gotOut x r e).2.1.length ≤ 3278801 := by
                    have := gotOut_len (x := x) (r := r) (e := e) hw2.out.1.keeps.2.1 h6.keeps.2.2
                    omega
                  clear h6
                  go_wp2
                  go_roundw
                  case rel => exact ⟨k2 + 1, _, _, by omega, by go_num, hl6, H6.out, by rw [HRT.out, hw2.out.2]⟩
                  case measure => simp [intOf]; omega
                · obtain rfl : k2 = L.length := by omega
                  have hbad : Hid (doneOf r e ≠ 0) := by
                    intro h
                    obtain ⟨e0, r0⟩ := done_zero h
                    have h1 := hw2.out.2
                    rw [List.take_length] at h1
                    rw [e0, r0] at h1
                    exact HBAD.out h1
                  have hdb : (doneOf r e == 0) = false := beq_eq_false_iff_ne.2 hbad.out
                  have HR6 := Lib.hid hw2.out.1
                  go_wp2_with (go_at_call 20; refine (Done_own w3 _ br _ _ HR6.out).mono ?_; rintro x w' ⟨rfl, rfl⟩)
                  go_roundw
                  case rel => exact ⟨2, by omega, by go_num, HR6.out.keeps.1⟩
                  case measure => simp [intOf]
  · have HQ := Lib.hid hq
    clear hq
    go_enter Try.func6, Try.ntmps6
    go_wp2_with fail
    refine (heavy_any a cap L w HI.out).mono ?_
    rintro x w' ⟨rfl, rfl⟩
    rw [HQ.out]
    go_wp2
    go_ret
    exact ⟨rfl, Kept.refl _ _⟩
theorem byte_bounds {n : Int} (h : (Lit.int .u8 n).wf = true) : 0 ≤ n ∧ n ≤ 255 := by
  have h2 : IntKind.u8.min ≤ n ∧ n ≤ IntKind.u8.max := by simpa [Lit.wf] using h
  exact h2
theorem PackCuts_law (a : Option Addr) (len cap : Nat) (at_ m : Int) (W : World) (h1 : ItemsIn W a len cap) (_w1 : (Lit.int .i64 at_).wf = true) (w2 : (Lit.int .u8 m).wf = true) :
    Calls Try.prog 6 #[.slice a len cap, .int .i64 at_, .int .u8 m] W fun e w' => e = .returned (.bool true) ∧ Below W.heap.size W w' := by
  obtain ⟨_, L, rfl, hi⟩ := h1
  have hb := byte_bounds w2
  obtain ⟨M, rfl⟩ : ∃ M : Nat, m = M := ⟨m.toNat, by omega⟩
  exact (PackCuts_any a cap L at_ M W hi (by omega)).mono fun _ _ ⟨he, hk⟩ => ⟨he, all_below hk⟩
end Go.Proofs.Ytjlpmmbmjkbdiaa.Pk
