import Derived.Test.YtaifjkilmdnfbaaLogPutM
import Derived.Test.YtaifjkilmdnfbaaMergeLgI
import Derived.Test.YtaifjkilmdnfbaaMergeLgO
/- The law LogsPuts. -/
namespace Go.Proofs.Ytaifjkilmdnfbaa.Lg
open Go Go.RowKit Vl Kv Ss Cn Mem Li Nm
attribute [local go_sem] Nm.run_bits Nm.run_frombits run_store_float
attribute [local irreducible] wpQuiet
set_option maxHeartbeats 12800000 in
set_option maxRecDepth 100000 in
theorem LogsPuts_law (h : H) (p : Hp) (i : Int) (a : Option Addr) (cap : Nat) (l : List E) (w : World) (hh : HardAt w h p) (hl : EntAt w a cap l) :
    Calls Try.prog 5 #[h.val p, .int .i64 i, .slice a l.length cap] w fun e w' => e = .returned (.bool true) ∧ Below w.heap.size w w' := by
  have HB := Lib.hid (Bh.Bx.one w (h.obj p))
  have HV1 : Hid (∀ W, Kv.Beh w W → Calls Try.prog 11 #[h.val p] W fun e w' => e = .returned (.bool (heavyL h.log || decide (32768 < (h.snap.length : Int)))) ∧ Below W.heap.size W w') := fun W hW => heavy_any h p W (hh.on hW)
  have HV2 : Hid (∀ W, Kv.Beh w W → Calls Try.prog 36 #[.slice a l.length cap] W fun e w' => e = .returned (.bool (heavyL l)) ∧ Below W.heap.size W w') := fun W hW => heavyEnts_any a cap l W (hl.below hW)
  have HWK := fun w => Lib.hid (wakes_any w)
  (obtain ⟨c0, c1, c2, c3, c4, c5, c6, c7, c8, c9⟩ := cells10h HB.out.b0)
  have HA1 : Hid (HardAt w h p ∧ EntAt w a cap l) := ⟨hh, hl⟩
  clear hh hl
  cases k1 : (heavyL h.log || decide (32768 < (h.snap.length : Int)))
  case true =>
    rw [k1] at HV1
    go_enter Try.func5, Try.ntmps5
    go_wp2_with (first
      | (go_at_call 11; (with_reducible refine Calls.mono (HV1.out _ ?_) ?_); exact HB.out.beh; rintro e wy ⟨rfl, hb⟩; (have HB := Lib.hid (HB.out.on hb)); clear hb; (obtain ⟨c0, c1, c2, c3, c4, c5, c6, c7, c8, c9⟩ := cells10h HB.out.b0))
      | (go_at_call 36; (with_reducible refine Calls.mono (HV2.out _ ?_) ?_); exact HB.out.beh; rintro e wy ⟨rfl, hb⟩; (have HB := Lib.hid (HB.out.on hb)); clear hb; (obtain ⟨c0, c1, c2, c3, c4, c5, c6, c7, c8, c9⟩ := cells10h HB.out.b0))
      | (apply Bh.load_bx 0 HB.out Try.underlying27; rfl; rfl; rfl; rfl; rfl; kernel_rfl))
    go_ret
    exact ⟨rfl, HB.out.beh⟩
  cases k2 : heavyL l
  case true =>
    rw [k1] at HV1
    rw [k2] at HV2
    go_enter Try.func5, Try.ntmps5
    go_wp2_with (first
      | (go_at_call 11; (with_reducible refine Calls.mono (HV1.out _ ?_) ?_); exact HB.out.beh; rintro e wy ⟨rfl, hb⟩; (have HB := Lib.hid (HB.out.on hb)); clear hb; (obtain ⟨c0, c1, c2, c3, c4, c5, c6, c7, c8, c9⟩ := cells10h HB.out.b0))
      | (go_at_call 36; (with_reducible refine Calls.mono (HV2.out _ ?_) ?_); exact HB.out.beh; rintro e wy ⟨rfl, hb⟩; (have HB := Lib.hid (HB.out.on hb)); clear hb; (obtain ⟨c0, c1, c2, c3, c4, c5, c6, c7, c8, c9⟩ := cells10h HB.out.b0))
      | (apply Bh.load_bx 0 HB.out Try.underlying27; rfl; rfl; rfl; rfl; rfl; kernel_rfl))
    go_ret
    exact ⟨rfl, HB.out.beh⟩
  have hl2 := played_l k2
  have hl1 := (played k1).log
  have hs1 := (played k1).snap
  rw [k1] at HV1
  rw [k2] at HV2
  have HP : Hid (∀ W, Kv.Beh w W → Calls Try.prog 42 #[h.val p, .int .i64 i, .slice a l.length cap] W (HardTold (h.put i l) (h.putOk i l) W)) := fun W hW => Put_any h p i a cap l W (HA1.out.1.on hW) (HA1.out.2.below hW) (by omega) (by omega) (by omega)
  have HC1 := Lib.hid (put_right (h := h) (i := i) (l := l))
  have HC2 := Lib.hid (put_at (h := h) (i := i) (l := l))
  have HC3 : Hid (h.putOk i l = 0 → 0 ≤ h.base ∧ h.base ≤ 1099511627776 ∧ (h.put i l).base = h.base ∧ (h.put i l).log.length ≤ 400 ∧ (h.put i l).snap.length ≤ 32768 ∧ h.Num) := fun x => by
    obtain ⟨hr, ht, _⟩ := put_code x
    have hnm := right_num hr (by omega)
    have := putL_length (L := h.log) (l := l) (off_ok ht).2
    rw [put_is x]
    exact ⟨hnm.lo, hnm.hi, rfl, by show (putL h.log (h.off i) l).length ≤ 400; omega, hs1, hnm⟩
  clear k1 k2
  generalize hX : h.put i l = X at *
  generalize hC : h.putOk i l = C at *
  go_enter Try.func5, Try.ntmps5
  go_wp2_with (first
    | (go_at_call 11; (with_reducible refine Calls.mono (HV1.out _ ?_) ?_); exact HB.out.beh; rintro e wy ⟨rfl, hb⟩; (have HB := Lib.hid (HB.out.on hb)); clear hb; (obtain ⟨c0, c1, c2, c3, c4, c5, c6, c7, c8, c9⟩ := cells10h HB.out.b0))
    | (go_at_call 36; (with_reducible refine Calls.mono (HV2.out _ ?_) ?_); exact HB.out.beh; rintro e wy ⟨rfl, hb⟩; (have HB := Lib.hid (HB.out.on hb)); clear hb; (obtain ⟨c0, c1, c2, c3, c4, c5, c6, c7, c8, c9⟩ := cells10h HB.out.b0))
    | (apply Bh.load_bx 0 HB.out Try.underlying27; rfl; rfl; rfl; rfl; rfl; kernel_rfl))
  refine Calls.mono (HP.out _ HB.out.beh) ?_
  rintro e w1 ⟨xq, rfl, hm⟩
  have HB := Lib.hid (HB.out.on hm.beh)
  have HX := Lib.hid (Bh.Bx.one w1 (H.zero.obj Hp.none))
  have HM := Lib.hid hm
  clear hm HV1 HV2
  by_cases hc : C = 0
  case neg =>
    have b1 := beq_eq_false_iff_ne.2 hc
    have b2 : (C != 0) = true := by rw [bne, b1]; rfl
    clear HP hc HC1 HC2 HC3 hX hC
    go_wp2_with (first
      | (apply Bh.store_bx 10 0 HX.out; rfl; rfl; rfl; rfl; rfl; rfl; kernel_rfl; rfl; rfl; intro wz hz; have HX := Lib.hid hz; (have HB := Lib.hid (HB.out.on hz.beh)); clear hz)
      | (go_at_call 35; refine ((HWK _).out).mono ?_; rintro e wy ⟨rfl, hb⟩; (have HB := Lib.hid (HB.out.on hb)); clear hb))
    go_ret
    exact ⟨rfl, HB.out.beh⟩
  obtain ⟨hb1, hb2, hb3, hb4, hb5, hn⟩ := HC3.out hc
  obtain ⟨hr1, hr2, hr3⟩ := HC1.out hc
  obtain ⟨t, hpa⟩ := HC2.out hc
  have hnx : X.Num := ⟨by omega, by omega, by omega⟩
  subst hc
  clear HC1 HC2 HC3 HP hC hb3
  have HP2 : Hid (∀ W, Kv.Beh w1 W → Kv.Beh w W → Calls Try.prog 42 #[X.val xq, .int .i64 i, .slice a l.length cap] W (HardTold X 0 W)) := fun W hW hW2 => by
    have := Put_any X xq i a cap l W (HM.out.on hW).at_ (HA1.out.2.below hW2) (by omega) (by omega) (by omega)
    rwa [hr2, hr3] at this
  have HCH : Hid (∀ W, Kv.Beh w1 W → Calls Try.prog 18 #[X.val xq] W fun e w' => e = .returned (.int .i64 0) ∧ Below W.heap.size W w') := fun W hW => by
    have := Check_h X xq W (HM.out.on hW).at_
    have e1 : X.check = 0 := by unfold H.check; rw [if_pos hr1]
    rwa [e1] at this
  have HPS : Hid (∀ n, n < l.length → ∃ b off, a = some ⟨b, off, none⟩ ∧ ∀ W, Kv.Beh w W → E.Cells W b (off + n * 16) (l.getD n E.zero)) := fun n hn => by
    obtain ⟨b, off, he, _⟩ := EntAt.cells HA1.out.2 (by omega)
    refine ⟨b, off, he, fun W hW => ?_⟩
    obtain ⟨_, _, he2, hc⟩ := EntAt.cells (HA1.out.2.below hW) (by omega)
    rw [he] at he2; cases he2
    exact hc n hn
  have HEX0 : Hid (∀ (j : Int) (W : World), Kv.Beh w1 W → Calls Try.prog 16 #[X.val xq, .int .i64 j] W (EntTold X j W)) := fun j W hW => Entry_any X xq j W hnx (HM.out.on hW).at_
  have HEH0 : Hid (∀ (j : Int) (W : World), Kv.Beh w W → Calls Try.prog 16 #[h.val p, .int .i64 j] W (EntTold h j W)) := fun j W hW => Entry_any h p j W hn (HA1.out.1.on hW)
  unfold EntTold at HEX0 HEH0
  have i1 := hpa.lo
  have i2 := hpa.hi
  have HPA := Lib.hid hpa
  have HAHEAD : Hid (∀ k : Int, h.base < k → k ≤ i → X.entry k = h.entry k) := hpa.ahead
  clear hr1 hr2 hr3 hn hnx hpa
  go_wp2_with (first
    | (apply Bh.store_bx 10 0 HX.out; rfl; rfl; rfl; rfl; rfl; rfl; kernel_rfl; rfl; rfl; intro wz hz; have HX := Lib.hid hz; (have HB := Lib.hid (HB.out.on hz.beh)); clear hz; (obtain ⟨x0, x1, x2, x3, x4, x5, x6, x7, x8, x9⟩ := cells10h (h := X) (p := xq) HX.out.b0); (obtain ⟨c0, c1, c2, c3, c4, c5, c6, c7, c8, c9⟩ := cells10h HB.out.b0))
    | (apply Bh.load_bx 0 HX.out Try.underlying27; rfl; rfl; rfl; rfl; rfl; kernel_rfl))
  refine Calls.mono (HP2.out _ HX.out.beh HB.out.beh) ?_
  rintro e w2 ⟨yq, rfl, hm2⟩
  have HB := Lib.hid (HB.out.on hm2.beh)
  have HX := Lib.hid (HX.out.on hm2.beh)
  have HY := Lib.hid (Bh.Bx.one w2 (H.zero.obj Hp.none))
  have HKH : Hid (∀ W, Kv.Beh w2 W → Kv.Beh w1 W → Calls Try.prog 34 #[X.val xq, X.val yq] W fun e w' => e = .returned (.bool true) ∧ Below W.heap.size W w') := fun W hW hW1 => keepHard_self X xq yq W (HM.out.on hW1).at_ (hm2.on hW).at_ (by omega)
  clear hm2 HP2
  go_wp2_with (first
    | (apply Bh.store_bx 10 0 HY.out; rfl; rfl; rfl; rfl; rfl; rfl; kernel_rfl; rfl; rfl; intro wz hz; have HY := Lib.hid hz; (have HB := Lib.hid (HB.out.on hz.beh)); (have HX := Lib.hid (HX.out.on hz.beh)); clear hz; (obtain ⟨x0, x1, x2, x3, x4, x5, x6, x7, x8, x9⟩ := cells10h (h := X) (p := xq) HX.out.b0); (obtain ⟨c0, c1, c2, c3, c4, c5, c6, c7, c8, c9⟩ := cells10h HB.out.b0); (obtain ⟨y0, y1, y2, y3, y4, y5, y6, y7, y8, y9⟩ := cells10h (h := X) (p := yq) HY.out.b0))
    | (go_at_call 34; refine Calls.mono (HKH.out _ HY.out.beh HX.out.beh) ?_; rintro e wy ⟨rfl, hb⟩; (have HB := Lib.hid (HB.out.on hb)); (have HX := Lib.hid (HX.out.on hb)); (have HY := Lib.hid (HY.out.on hb)); clear hb; (obtain ⟨x0, x1, x2, x3, x4, x5, x6, x7, x8, x9⟩ := cells10h (h := X) (p := xq) HX.out.b0); (obtain ⟨c0, c1, c2, c3, c4, c5, c6, c7, c8, c9⟩ := cells10h HB.out.b0))
    | (go_at_call 18; refine Calls.mono (HCH.out _ HX.out.beh) ?_; rintro e wy ⟨rfl, hb⟩; (have HB := Lib.hid (HB.out.on hb)); (have HX := Lib.hid (HX.out.on hb)); (have HY := Lib.hid (HY.out.on hb)); clear hb; (obtain ⟨x0, x1, x2, x3, x4, x5, x6, x7, x8, x9⟩ := cells10h (h := X) (p := xq) HX.out.b0); (obtain ⟨c0, c1, c2, c3, c4, c5, c6, c7, c8, c9⟩ := cells10h HB.out.b0)))
  have HX : Hid (Bh.Bx w1 [X.obj xq] _) := HX
  clear HCH HKH HY
  go_loopw [10, 11] (fun o k wr => ∃ n : Nat, n ≤ l.length ∧ o = .bool (decide (t < n)) ∧ k = .int .i64 n ∧ Hid (Bh.Bx w [h.obj p] wr) ∧ Hid (Bh.Bx w1 [X.obj xq] wr)) (fun _ k _ => l.length - (intOf k).toNat)
  case atStart => exact ⟨0, by omega, rfl, rfl, HB, HX⟩
  case round =>
    obtain ⟨n, hn, ho, rfl, HB, HX⟩ := hrel
    by_cases hlt : n < l.length
    case pos =>
      obtain ⟨cS, oS, rfl, hps⟩ := HPS.out n hlt
      have HPS := Lib.hid hps
      clear hps
      have e1 := HPA.out.has n hlt
      have e4 := HPA.out.term n hlt
      rcases Nat.lt_trichotomy n t with h1 | h1 | h1
      · as_aux_lemma =>
        obtain ⟨e2, e3⟩ := HPA.out.old n h1
        have ht1 : ((X.entry (i + 1 + (n : Int))).term == (l.getD n E.zero).term) = true := by simp [e4]
        have ht2 : ((X.entry (i + 1 + (n : Int))).term != (l.getD n E.zero).term) = false := by simp [e4]
        clear e4
        have HEX : Hid (∀ W, Kv.Beh w1 W → Calls Try.prog 16 #[X.val xq, .int .i64 (i + 1 + (n : Int))] W fun e w' => e = .returned (.tuple #[(X.entry (i + 1 + (n : Int))).agg, .bool true]) ∧ Below W.heap.size W w') := fun W hW => by have := HEX0.out (i + 1 + (n : Int)) W hW; rwa [e1] at this
        have HEH : Hid (∀ W, Kv.Beh w W → Calls Try.prog 16 #[h.val p, .int .i64 (i + 1 + (n : Int))] W fun e w' => e = .returned (.tuple #[(X.entry (i + 1 + (n : Int))).agg, .bool true]) ∧ Below W.heap.size W w') := fun W hW => by have := HEH0.out (i + 1 + (n : Int)) W hW; rwa [e2, e3] at this
        rw [decide_eq_false (by omega)] at ho
        subst ho
        clear e1 e2 e3
        generalize X.entry (i + 1 + (n : Int)) = ea at *
        generalize l.getD n E.zero = x at *
        go_wp2_with (first
          | (go_at_call 16; (with_reducible refine Calls.mono (HEX.out _ ?_) ?_); exact HX.out.beh; rintro e wy ⟨rfl, hb⟩; (have HB := Lib.hid (HB.out.on hb)); (have HX := Lib.hid (HX.out.on hb)); clear hb; (have HA := Lib.hid (Bh.Bx.one wy E.zero.obj)))
          | (apply Bh.store_bx 16 0 HA.out; rfl; rfl; rfl; rfl; rfl; rfl; kernel_rfl; rfl; rfl; intro wz hz; have HA := Lib.hid hz; (have HB := Lib.hid (HB.out.on hz.beh)); (have HX := Lib.hid (HX.out.on hz.beh)); clear hz)
          | (apply Bh.load_bx 0 HX.out Try.underlying27; rfl; rfl; rfl; rfl; rfl; kernel_rfl))
        refine wp_region_quiet (C := Kv.Beh wz) (by kernel_rfl) (by kernel_rfl) (Beh.start _).drew ?_
        repeat (first
          | (refine BigFrame.wpQuiet_skip (by exact Eq.refl false) ?_
             ((try simp only [Act.put]); (try simp only [List.setIfInBounds_toArray]); (try simp only [List.set_cons_zero, List.set_cons_succ])))
          | (refine BigFrame.wpQuiet_want (by exact Eq.refl true) (fun K hK => ?_)
             first
             | (refine quiet_move2 _ rfl (by go_simp; rfl) ?_; refine hK _ ?_)
             | (apply Exists.intro
                refine ⟨fun wq hq => ?_, hK _ ?_⟩
                · ((obtain ⟨u0, u1, u2, u3, u4, u5, u6, u7, u8, u9, u10, u11, u12, u13, u14, u15⟩ := cells16e (HA.out.on hq).b0); (obtain ⟨s0, s1, s2, s3, s4, s5, s6, s7, s8, s9, s10, s11, s12, s13, s14, s15⟩ := HPS.out _ (HB.out.beh.trans hq))
                   have HQ := Lib.hid hq
                   clear hq
                   unfold Oper.quietAt
                   go_simp
                   first
                   | rfl
                   ))
             clear hK K
             ((try simp only [Act.put]); (try simp only [List.setIfInBounds_toArray]); (try simp only [List.set_cons_zero, List.set_cons_succ]))))
        refine wpQuiet_nil ?_
        intro wq hq
        have HB := Lib.hid (HB.out.on hq)
        have HX := Lib.hid (HX.out.on hq)
        have HA := Lib.hid (HA.out.on hq)
        clear hq
        go_wp2_with (first
          | (go_at_call 16; (with_reducible refine Calls.mono (HEH.out _ ?_) ?_); exact HB.out.beh; rintro e wy ⟨rfl, hb⟩; (have HB := Lib.hid (HB.out.on hb)); (have HX := Lib.hid (HX.out.on hb)); (have HA := Lib.hid (HA.out.on hb)); clear hb; (have HE := Lib.hid (Bh.Bx.one wy E.zero.obj)))
          | (apply Bh.store_bx 16 0 HE.out; rfl; rfl; rfl; rfl; rfl; rfl; kernel_rfl; rfl; rfl; intro wz hz; have HE := Lib.hid hz; (have HB := Lib.hid (HB.out.on hz.beh)); (have HX := Lib.hid (HX.out.on hz.beh)); (have HA := Lib.hid (HA.out.on hz.beh)); clear hz; (obtain ⟨u0, u1, u2, u3, u4, u5, u6, u7, u8, u9, u10, u11, u12, u13, u14, u15⟩ := cells16e HA.out.b0); (obtain ⟨v0, v1, v2, v3, v4, v5, v6, v7, v8, v9, v10, v11, v12, v13, v14, v15⟩ := cells16e HE.out.b0))
          | (apply Bh.load_bx 0 HB.out Try.underlying27; rfl; rfl; rfl; rfl; rfl; kernel_rfl))
        refine wp_region_quiet (C := Kv.Beh wz) (by kernel_rfl) (by kernel_rfl) (Beh.start _).drew ?_
        repeat (first
          | (refine BigFrame.wpQuiet_skip (by exact Eq.refl false) ?_
             ((try simp only [Act.put]); (try simp only [List.setIfInBounds_toArray]); (try simp only [List.set_cons_zero, List.set_cons_succ])))
          | (refine BigFrame.wpQuiet_want (by exact Eq.refl true) (fun K hK => ?_)
             first
             | (refine quiet_move2 _ rfl (by go_simp; rfl) ?_; refine hK _ ?_)
             | (apply Exists.intro
                refine ⟨fun wq hq => ?_, hK _ ?_⟩
                · ((obtain ⟨u0, u1, u2, u3, u4, u5, u6, u7, u8, u9, u10, u11, u12, u13, u14, u15⟩ := cells16e (HA.out.on hq).b0); (obtain ⟨v0, v1, v2, v3, v4, v5, v6, v7, v8, v9, v10, v11, v12, v13, v14, v15⟩ := cells16e (HE.out.on hq).b0); (obtain ⟨s0, s1, s2, s3, s4, s5, s6, s7, s8, s9, s10, s11, s12, s13, s14, s15⟩ := HPS.out _ (HB.out.beh.trans hq))
                   have HQ := Lib.hid hq
                   clear hq
                   unfold Oper.quietAt
                   go_simp
                   first
                   | rfl
                   | (go_at_call 22; exact (keepEntry_self ea _).mono (fun e w' ⟨he, hb⟩ => ⟨he, HQ.out.on hb⟩))))
             clear hK K
             ((try simp only [Act.put]); (try simp only [List.setIfInBounds_toArray]); (try simp only [List.set_cons_zero, List.set_cons_succ]))))
        refine wpQuiet_nil ?_
        intro wq hq
        have HB := Lib.hid (HB.out.on hq)
        have HX := Lib.hid (HX.out.on hq)
        have HA := Lib.hid (HA.out.on hq)
        have HE := Lib.hid (HE.out.on hq)
        clear hq
        go_wp2_with fail
        go_roundw
        case rel => exact ⟨n + 1, by omega, by rw [decide_eq_false (show ¬ t < n + 1 by omega)], by go_num, HB, HX⟩
        case measure => simp [intOf]; omega
      · subst h1
        have e6 := HPA.out.new n (Nat.le_refl _) hlt
        have e5 := HPA.out.first hlt
        cases hi : h.has (i + 1 + (n : Int))
        · as_aux_lemma =>
          have HEX : Hid (∀ W, Kv.Beh w1 W → Calls Try.prog 16 #[X.val xq, .int .i64 (i + 1 + (n : Int))] W fun e w' => e = .returned (.tuple #[(l.getD n E.zero).agg, .bool true]) ∧ Below W.heap.size W w') := fun W hW => by have := HEX0.out (i + 1 + (n : Int)) W hW; rwa [e1, e6] at this
          have HEH : Hid (∀ W, Kv.Beh w W → Calls Try.prog 16 #[h.val p, .int .i64 (i + 1 + (n : Int))] W fun e w' => e = .returned (.tuple #[(h.entry (i + 1 + (n : Int))).agg, .bool false]) ∧ Below W.heap.size W w') := fun W hW => by have := HEH0.out (i + 1 + (n : Int)) W hW; rwa [hi] at this
          rw [decide_eq_false (by omega)] at ho
          subst ho
          clear e1 e4 e5 e6 hi
          generalize h.entry (i + 1 + (n : Int)) = eh at *
          generalize l.getD n E.zero = ea at *
          go_wp2_with (first
            | (go_at_call 16; (with_reducible refine Calls.mono (HEX.out _ ?_) ?_); exact HX.out.beh; rintro e wy ⟨rfl, hb⟩; (have HB := Lib.hid (HB.out.on hb)); (have HX := Lib.hid (HX.out.on hb)); clear hb; (have HA := Lib.hid (Bh.Bx.one wy E.zero.obj)))
            | (apply Bh.store_bx 16 0 HA.out; rfl; rfl; rfl; rfl; rfl; rfl; kernel_rfl; rfl; rfl; intro wz hz; have HA := Lib.hid hz; (have HB := Lib.hid (HB.out.on hz.beh)); (have HX := Lib.hid (HX.out.on hz.beh)); clear hz)
            | (apply Bh.load_bx 0 HX.out Try.underlying27; rfl; rfl; rfl; rfl; rfl; kernel_rfl))
          refine wp_region_quiet (C := Kv.Beh wz) (by kernel_rfl) (by kernel_rfl) (Beh.start _).drew ?_
          repeat (first
            | (refine BigFrame.wpQuiet_skip (by exact Eq.refl false) ?_
               ((try simp only [Act.put]); (try simp only [List.setIfInBounds_toArray]); (try simp only [List.set_cons_zero, List.set_cons_succ])))
            | (refine BigFrame.wpQuiet_want (by exact Eq.refl true) (fun K hK => ?_)
               first
               | (refine quiet_move2 _ rfl (by go_simp; rfl) ?_; refine hK _ ?_)
               | (apply Exists.intro
                  refine ⟨fun wq hq => ?_, hK _ ?_⟩
                  · ((obtain ⟨u0, u1, u2, u3, u4, u5, u6, u7, u8, u9, u10, u11, u12, u13, u14, u15⟩ := cells16e (HA.out.on hq).b0); (obtain ⟨s0, s1, s2, s3, s4, s5, s6, s7, s8, s9, s10, s11, s12, s13, s14, s15⟩ := HPS.out _ (HB.out.beh.trans hq))
                     have HQ := Lib.hid hq
                     clear hq
                     unfold Oper.quietAt
                     go_simp
                     first
                     | rfl
                     ))
               clear hK K
               ((try simp only [Act.put]); (try simp only [List.setIfInBounds_toArray]); (try simp only [List.set_cons_zero, List.set_cons_succ]))))
          refine wpQuiet_nil ?_
          intro wq hq
          have HB := Lib.hid (HB.out.on hq)
          have HX := Lib.hid (HX.out.on hq)
          have HA := Lib.hid (HA.out.on hq)
          clear hq
          go_wp2_with (first
            | (go_at_call 16; (with_reducible refine Calls.mono (HEH.out _ ?_) ?_); exact HB.out.beh; rintro e wy ⟨rfl, hb⟩; (have HB := Lib.hid (HB.out.on hb)); (have HX := Lib.hid (HX.out.on hb)); (have HA := Lib.hid (HA.out.on hb)); clear hb; (have HE := Lib.hid (Bh.Bx.one wy E.zero.obj)))
            | (apply Bh.store_bx 16 0 HE.out; rfl; rfl; rfl; rfl; rfl; rfl; kernel_rfl; rfl; rfl; intro wz hz; have HE := Lib.hid hz; (have HB := Lib.hid (HB.out.on hz.beh)); (have HX := Lib.hid (HX.out.on hz.beh)); (have HA := Lib.hid (HA.out.on hz.beh)); clear hz; (obtain ⟨u0, u1, u2, u3, u4, u5, u6, u7, u8, u9, u10, u11, u12, u13, u14, u15⟩ := cells16e HA.out.b0); (obtain ⟨v0, v1, v2, v3, v4, v5, v6, v7, v8, v9, v10, v11, v12, v13, v14, v15⟩ := cells16e HE.out.b0))
            | (apply Bh.load_bx 0 HB.out Try.underlying27; rfl; rfl; rfl; rfl; rfl; kernel_rfl))
          refine wp_region_quiet (C := Kv.Beh wz) (by kernel_rfl) (by kernel_rfl) (Beh.start _).drew ?_
          repeat (first
            | (refine BigFrame.wpQuiet_skip (by exact Eq.refl false) ?_
               ((try simp only [Act.put]); (try simp only [List.setIfInBounds_toArray]); (try simp only [List.set_cons_zero, List.set_cons_succ])))
            | (refine BigFrame.wpQuiet_want (by exact Eq.refl true) (fun K hK => ?_)
               first
               | (refine quiet_move2 _ rfl (by go_simp; rfl) ?_; refine hK _ ?_)
               | (apply Exists.intro
                  refine ⟨fun wq hq => ?_, hK _ ?_⟩
                  · ((obtain ⟨u0, u1, u2, u3, u4, u5, u6, u7, u8, u9, u10, u11, u12, u13, u14, u15⟩ := cells16e (HA.out.on hq).b0); (obtain ⟨v0, v1, v2, v3, v4, v5, v6, v7, v8, v9, v10, v11, v12, v13, v14, v15⟩ := cells16e (HE.out.on hq).b0); (obtain ⟨s0, s1, s2, s3, s4, s5, s6, s7, s8, s9, s10, s11, s12, s13, s14, s15⟩ := HPS.out _ (HB.out.beh.trans hq))
                     have HQ := Lib.hid hq
                     clear hq
                     unfold Oper.quietAt
                     go_simp
                     first
                     | rfl
                     | (go_at_call 22; exact (keepEntry_self ea _).mono (fun e w' ⟨he, hb⟩ => ⟨he, HQ.out.on hb⟩))))
               clear hK K
               ((try simp only [Act.put]); (try simp only [List.setIfInBounds_toArray]); (try simp only [List.set_cons_zero, List.set_cons_succ]))))
          refine wpQuiet_nil ?_
          intro wq hq
          have HB := Lib.hid (HB.out.on hq)
          have HX := Lib.hid (HX.out.on hq)
          have HA := Lib.hid (HA.out.on hq)
          have HE := Lib.hid (HE.out.on hq)
          clear hq
          go_wp2_with fail
          go_roundw
          case rel => exact ⟨n + 1, by omega, by rw [decide_eq_true (show n < n + 1 by omega)], by go_num, HB, HX⟩
          case measure => simp [intOf]; omega
        · as_aux_lemma =>
          have b1 : ((h.entry (i + 1 + (n : Int))).term == (l.getD n E.zero).term) = false := by rw [← e6]; exact beq_eq_false_iff_ne.2 (e5.resolve_left (by rw [hi]; simp))
          have b2 : ((h.entry (i + 1 + (n : Int))).term != (l.getD n E.zero).term) = true := by rw [bne, b1]; rfl
          have HEX : Hid (∀ W, Kv.Beh w1 W → Calls Try.prog 16 #[X.val xq, .int .i64 (i + 1 + (n : Int))] W fun e w' => e = .returned (.tuple #[(l.getD n E.zero).agg, .bool true]) ∧ Below W.heap.size W w') := fun W hW => by have := HEX0.out (i + 1 + (n : Int)) W hW; rwa [e1, e6] at this
          have HEH : Hid (∀ W, Kv.Beh w W → Calls Try.prog 16 #[h.val p, .int .i64 (i + 1 + (n : Int))] W fun e w' => e = .returned (.tuple #[(h.entry (i + 1 + (n : Int))).agg, .bool true]) ∧ Below W.heap.size W w') := fun W hW => by have := HEH0.out (i + 1 + (n : Int)) W hW; rwa [hi] at this
          rw [decide_eq_false (by omega)] at ho
          subst ho
          clear e1 e4 e5 e6 hi
          generalize h.entry (i + 1 + (n : Int)) = eh at *
          generalize l.getD n E.zero = ea at *
          go_wp2_with (first
            | (go_at_call 16; (with_reducible refine Calls.mono (HEX.out _ ?_) ?_); exact HX.out.beh; rintro e wy ⟨rfl, hb⟩; (have HB := Lib.hid (HB.out.on hb)); (have HX := Lib.hid (HX.out.on hb)); clear hb; (have HA := Lib.hid (Bh.Bx.one wy E.zero.obj)))
            | (apply Bh.store_bx 16 0 HA.out; rfl; rfl; rfl; rfl; rfl; rfl; kernel_rfl; rfl; rfl; intro wz hz; have HA := Lib.hid hz; (have HB := Lib.hid (HB.out.on hz.beh)); (have HX := Lib.hid (HX.out.on hz.beh)); clear hz)
            | (apply Bh.load_bx 0 HX.out Try.underlying27; rfl; rfl; rfl; rfl; rfl; kernel_rfl))
          refine wp_region_quiet (C := Kv.Beh wz) (by kernel_rfl) (by kernel_rfl) (Beh.start _).drew ?_
          repeat (first
            | (refine BigFrame.wpQuiet_skip (by exact Eq.refl false) ?_
               ((try simp only [Act.put]); (try simp only [List.setIfInBounds_toArray]); (try simp only [List.set_cons_zero, List.set_cons_succ])))
            | (refine BigFrame.wpQuiet_want (by exact Eq.refl true) (fun K hK => ?_)
               first
               | (refine quiet_move2 _ rfl (by go_simp; rfl) ?_; refine hK _ ?_)
               | (apply Exists.intro
                  refine ⟨fun wq hq => ?_, hK _ ?_⟩
                  · ((obtain ⟨u0, u1, u2, u3, u4, u5, u6, u7, u8, u9, u10, u11, u12, u13, u14, u15⟩ := cells16e (HA.out.on hq).b0); (obtain ⟨s0, s1, s2, s3, s4, s5, s6, s7, s8, s9, s10, s11, s12, s13, s14, s15⟩ := HPS.out _ (HB.out.beh.trans hq))
                     have HQ := Lib.hid hq
                     clear hq
                     unfold Oper.quietAt
                     go_simp
                     first
                     | rfl
                     ))
               clear hK K
               ((try simp only [Act.put]); (try simp only [List.setIfInBounds_toArray]); (try simp only [List.set_cons_zero, List.set_cons_succ]))))
          refine wpQuiet_nil ?_
          intro wq hq
          have HB := Lib.hid (HB.out.on hq)
          have HX := Lib.hid (HX.out.on hq)
          have HA := Lib.hid (HA.out.on hq)
          clear hq
          go_wp2_with (first
            | (go_at_call 16; (with_reducible refine Calls.mono (HEH.out _ ?_) ?_); exact HB.out.beh; rintro e wy ⟨rfl, hb⟩; (have HB := Lib.hid (HB.out.on hb)); (have HX := Lib.hid (HX.out.on hb)); (have HA := Lib.hid (HA.out.on hb)); clear hb; (have HE := Lib.hid (Bh.Bx.one wy E.zero.obj)))
            | (apply Bh.store_bx 16 0 HE.out; rfl; rfl; rfl; rfl; rfl; rfl; kernel_rfl; rfl; rfl; intro wz hz; have HE := Lib.hid hz; (have HB := Lib.hid (HB.out.on hz.beh)); (have HX := Lib.hid (HX.out.on hz.beh)); (have HA := Lib.hid (HA.out.on hz.beh)); clear hz; (obtain ⟨u0, u1, u2, u3, u4, u5, u6, u7, u8, u9, u10, u11, u12, u13, u14, u15⟩ := cells16e HA.out.b0); (obtain ⟨v0, v1, v2, v3, v4, v5, v6, v7, v8, v9, v10, v11, v12, v13, v14, v15⟩ := cells16e HE.out.b0))
            | (apply Bh.load_bx 0 HB.out Try.underlying27; rfl; rfl; rfl; rfl; rfl; kernel_rfl))
          refine wp_region_quiet (C := Kv.Beh wz) (by kernel_rfl) (by kernel_rfl) (Beh.start _).drew ?_
          repeat (first
            | (refine BigFrame.wpQuiet_skip (by exact Eq.refl false) ?_
               ((try simp only [Act.put]); (try simp only [List.setIfInBounds_toArray]); (try simp only [List.set_cons_zero, List.set_cons_succ])))
            | (refine BigFrame.wpQuiet_want (by exact Eq.refl true) (fun K hK => ?_)
               first
               | (refine quiet_move2 _ rfl (by go_simp; rfl) ?_; refine hK _ ?_)
               | (apply Exists.intro
                  refine ⟨fun wq hq => ?_, hK _ ?_⟩
                  · ((obtain ⟨u0, u1, u2, u3, u4, u5, u6, u7, u8, u9, u10, u11, u12, u13, u14, u15⟩ := cells16e (HA.out.on hq).b0); (obtain ⟨v0, v1, v2, v3, v4, v5, v6, v7, v8, v9, v10, v11, v12, v13, v14, v15⟩ := cells16e (HE.out.on hq).b0); (obtain ⟨s0, s1, s2, s3, s4, s5, s6, s7, s8, s9, s10, s11, s12, s13, s14, s15⟩ := HPS.out _ (HB.out.beh.trans hq))
                     have HQ := Lib.hid hq
                     clear hq
                     unfold Oper.quietAt
                     go_simp
                     first
                     | rfl
                     | (go_at_call 22; exact (keepEntry_self ea _).mono (fun e w' ⟨he, hb⟩ => ⟨he, HQ.out.on hb⟩))))
               clear hK K
               ((try simp only [Act.put]); (try simp only [List.setIfInBounds_toArray]); (try simp only [List.set_cons_zero, List.set_cons_succ]))))
          refine wpQuiet_nil ?_
          intro wq hq
          have HB := Lib.hid (HB.out.on hq)
          have HX := Lib.hid (HX.out.on hq)
          have HA := Lib.hid (HA.out.on hq)
          have HE := Lib.hid (HE.out.on hq)
          clear hq
          go_wp2_with fail
          go_roundw
          case rel => exact ⟨n + 1, by omega, by rw [decide_eq_true (show n < n + 1 by omega)], by go_num, HB, HX⟩
          case measure => simp [intOf]; omega
      · as_aux_lemma =>
        have e6 := HPA.out.new n (by omega) hlt
        have HEX : Hid (∀ W, Kv.Beh w1 W → Calls Try.prog 16 #[X.val xq, .int .i64 (i + 1 + (n : Int))] W fun e w' => e = .returned (.tuple #[(l.getD n E.zero).agg, .bool true]) ∧ Below W.heap.size W w') := fun W hW => by have := HEX0.out (i + 1 + (n : Int)) W hW; rwa [e1, e6] at this
        have HEH : Hid (∀ W, Kv.Beh w W → Calls Try.prog 16 #[h.val p, .int .i64 (i + 1 + (n : Int))] W fun e w' => e = .returned (.tuple #[(h.entry (i + 1 + (n : Int))).agg, .bool (h.has (i + 1 + (n : Int)))]) ∧ Below W.heap.size W w') := fun W hW => by have := HEH0.out (i + 1 + (n : Int)) W hW; exact this
        rw [decide_eq_true (by omega)] at ho
        subst ho
        clear e1 e4 e6
        generalize h.has (i + 1 + (n : Int)) = ih at *
        generalize h.entry (i + 1 + (n : Int)) = eh at *
        generalize l.getD n E.zero = ea at *
        go_wp2_with (first
          | (go_at_call 16; (with_reducible refine Calls.mono (HEX.out _ ?_) ?_); exact HX.out.beh; rintro e wy ⟨rfl, hb⟩; (have HB := Lib.hid (HB.out.on hb)); (have HX := Lib.hid (HX.out.on hb)); clear hb; (have HA := Lib.hid (Bh.Bx.one wy E.zero.obj)))
          | (apply Bh.store_bx 16 0 HA.out; rfl; rfl; rfl; rfl; rfl; rfl; kernel_rfl; rfl; rfl; intro wz hz; have HA := Lib.hid hz; (have HB := Lib.hid (HB.out.on hz.beh)); (have HX := Lib.hid (HX.out.on hz.beh)); clear hz)
          | (apply Bh.load_bx 0 HX.out Try.underlying27; rfl; rfl; rfl; rfl; rfl; kernel_rfl))
        refine wp_region_quiet (C := Kv.Beh wz) (by kernel_rfl) (by kernel_rfl) (Beh.start _).drew ?_
        repeat (first
          | (refine BigFrame.wpQuiet_skip (by exact Eq.refl false) ?_
             ((try simp only [Act.put]); (try simp only [List.setIfInBounds_toArray]); (try simp only [List.set_cons_zero, List.set_cons_succ])))
          | (refine BigFrame.wpQuiet_want (by exact Eq.refl true) (fun K hK => ?_)
             first
             | (refine quiet_move2 _ rfl (by go_simp; rfl) ?_; refine hK _ ?_)
             | (apply Exists.intro
                refine ⟨fun wq hq => ?_, hK _ ?_⟩
                · ((obtain ⟨u0, u1, u2, u3, u4, u5, u6, u7, u8, u9, u10, u11, u12, u13, u14, u15⟩ := cells16e (HA.out.on hq).b0); (obtain ⟨s0, s1, s2, s3, s4, s5, s6, s7, s8, s9, s10, s11, s12, s13, s14, s15⟩ := HPS.out _ (HB.out.beh.trans hq))
                   have HQ := Lib.hid hq
                   clear hq
                   unfold Oper.quietAt
                   go_simp
                   first
                   | rfl
                   ))
             clear hK K
             ((try simp only [Act.put]); (try simp only [List.setIfInBounds_toArray]); (try simp only [List.set_cons_zero, List.set_cons_succ]))))
        refine wpQuiet_nil ?_
        intro wq hq
        have HB := Lib.hid (HB.out.on hq)
        have HX := Lib.hid (HX.out.on hq)
        have HA := Lib.hid (HA.out.on hq)
        clear hq
        go_wp2_with (first
          | (go_at_call 16; (with_reducible refine Calls.mono (HEH.out _ ?_) ?_); exact HB.out.beh; rintro e wy ⟨rfl, hb⟩; (have HB := Lib.hid (HB.out.on hb)); (have HX := Lib.hid (HX.out.on hb)); (have HA := Lib.hid (HA.out.on hb)); clear hb; (have HE := Lib.hid (Bh.Bx.one wy E.zero.obj)))
          | (apply Bh.store_bx 16 0 HE.out; rfl; rfl; rfl; rfl; rfl; rfl; kernel_rfl; rfl; rfl; intro wz hz; have HE := Lib.hid hz; (have HB := Lib.hid (HB.out.on hz.beh)); (have HX := Lib.hid (HX.out.on hz.beh)); (have HA := Lib.hid (HA.out.on hz.beh)); clear hz; (obtain ⟨u0, u1, u2, u3, u4, u5, u6, u7, u8, u9, u10, u11, u12, u13, u14, u15⟩ := cells16e HA.out.b0); (obtain ⟨v0, v1, v2, v3, v4, v5, v6, v7, v8, v9, v10, v11, v12, v13, v14, v15⟩ := cells16e HE.out.b0))
          | (apply Bh.load_bx 0 HB.out Try.underlying27; rfl; rfl; rfl; rfl; rfl; kernel_rfl))
        refine wp_region_quiet (C := Kv.Beh wz) (by kernel_rfl) (by kernel_rfl) (Beh.start _).drew ?_
        repeat (first
          | (refine BigFrame.wpQuiet_skip (by exact Eq.refl false) ?_
             ((try simp only [Act.put]); (try simp only [List.setIfInBounds_toArray]); (try simp only [List.set_cons_zero, List.set_cons_succ])))
          | (refine BigFrame.wpQuiet_want (by exact Eq.refl true) (fun K hK => ?_)
             first
             | (refine quiet_move2 _ rfl (by go_simp; rfl) ?_; refine hK _ ?_)
             | (apply Exists.intro
                refine ⟨fun wq hq => ?_, hK _ ?_⟩
                · ((obtain ⟨u0, u1, u2, u3, u4, u5, u6, u7, u8, u9, u10, u11, u12, u13, u14, u15⟩ := cells16e (HA.out.on hq).b0); (obtain ⟨v0, v1, v2, v3, v4, v5, v6, v7, v8, v9, v10, v11, v12, v13, v14, v15⟩ := cells16e (HE.out.on hq).b0); (obtain ⟨s0, s1, s2, s3, s4, s5, s6, s7, s8, s9, s10, s11, s12, s13, s14, s15⟩ := HPS.out _ (HB.out.beh.trans hq))
                   have HQ := Lib.hid hq
                   clear hq
                   unfold Oper.quietAt
                   go_simp
                   first
                   | rfl
                   | (go_at_call 22; exact (keepEntry_self ea _).mono (fun e w' ⟨he, hb⟩ => ⟨he, HQ.out.on hb⟩))))
             clear hK K
             ((try simp only [Act.put]); (try simp only [List.setIfInBounds_toArray]); (try simp only [List.set_cons_zero, List.set_cons_succ]))))
        refine wpQuiet_nil ?_
        intro wq hq
        have HB := Lib.hid (HB.out.on hq)
        have HX := Lib.hid (HX.out.on hq)
        have HA := Lib.hid (HA.out.on hq)
        have HE := Lib.hid (HE.out.on hq)
        clear hq
        go_wp2_with fail
        go_roundw
        case rel => exact ⟨n + 1, by omega, by rw [decide_eq_true (show t < n + 1 by omega)], by go_num, HB, HX⟩
        case measure => simp [intOf]; omega
    (obtain ⟨c0, c1, c2, c3, c4, c5, c6, c7, c8, c9⟩ := cells10h HB.out.b0)
    go_wp2_with fail
    go_loopw [16] (fun k wr => ∃ n : Nat, (n : Int) ≤ i - h.base ∧ k = .int .i64 (h.base + 1 + (n : Int)) ∧ Hid (Bh.Bx w [h.obj p] wr) ∧ Hid (Bh.Bx w1 [X.obj xq] wr)) (fun k _ => (i + 1 - intOf k).toNat)
    case atStart => exact ⟨0, by omega, by simp, HB, HX⟩
    case round =>
      clear hn ho hlt
      obtain ⟨n, hn, rfl, HB, HX⟩ := hrel
      by_cases hlt : h.base + 1 + (n : Int) ≤ i
      case pos =>
        have e3 := HAHEAD.out (h.base + 1 + (n : Int)) (by omega) hlt
        have HEX : Hid (∀ W, Kv.Beh w1 W → Calls Try.prog 16 #[X.val xq, .int .i64 (h.base + 1 + (n : Int))] W fun e w' => e = .returned (.tuple #[(h.entry (h.base + 1 + (n : Int))).agg, .bool (X.has (h.base + 1 + (n : Int)))]) ∧ Below W.heap.size W w') := fun W hW => by have := HEX0.out (h.base + 1 + (n : Int)) W hW; rwa [e3] at this
        have HEH : Hid (∀ W, Kv.Beh w W → Calls Try.prog 16 #[h.val p, .int .i64 (h.base + 1 + (n : Int))] W fun e w' => e = .returned (.tuple #[(h.entry (h.base + 1 + (n : Int))).agg, .bool (h.has (h.base + 1 + (n : Int)))]) ∧ Below W.heap.size W w') := fun W hW => HEH0.out (h.base + 1 + (n : Int)) W hW
        clear e3
        generalize h.entry (h.base + 1 + (n : Int)) = ea at *
        generalize h.has (h.base + 1 + (n : Int)) = q1 at *
        generalize X.has (h.base + 1 + (n : Int)) = q2 at *
        go_wp2_with (first
          | (go_at_call 16; (with_reducible refine Calls.mono (HEX.out _ ?_) ?_); exact HX.out.beh; rintro e wa ⟨rfl, hb⟩; (have HB := Lib.hid (HB.out.on hb)); (have HX := Lib.hid (HX.out.on hb)); clear hb; (have HA := Lib.hid (Bh.Bx.one wa E.zero.obj)))
          | (go_at_call 16; (with_reducible refine Calls.mono (HEH.out _ ?_) ?_); exact HB.out.beh; rintro e wb ⟨rfl, hb⟩; (have HB := Lib.hid (HB.out.on hb)); (have HX := Lib.hid (HX.out.on hb)); (have HA := Lib.hid (HA.out.on hb)); clear hb; (have HE := Lib.hid (Bh.Bx.one wb E.zero.obj)))
          | (apply Bh.store_bx 16 0 HA.out; rfl; rfl; rfl; rfl; rfl; rfl; kernel_rfl; rfl; rfl; intro wz hz; have HA := Lib.hid hz; (have HB := Lib.hid (HB.out.on hz.beh)); (have HX := Lib.hid (HX.out.on hz.beh)); clear hz)
          | (apply Bh.store_bx 16 0 HE.out; rfl; rfl; rfl; rfl; rfl; rfl; kernel_rfl; rfl; rfl; intro wz hz; have HE := Lib.hid hz; (have HB := Lib.hid (HB.out.on hz.beh)); (have HX := Lib.hid (HX.out.on hz.beh)); (have HA := Lib.hid (HA.out.on hz.beh)); clear hz)
          | (apply Bh.load_bx 0 HX.out Try.underlying27; rfl; rfl; rfl; rfl; rfl; kernel_rfl)
          | (apply Bh.load_bx 0 HB.out Try.underlying27; rfl; rfl; rfl; rfl; rfl; kernel_rfl)
          | (apply Bh.load_bx 0 HA.out Try.underlying40; rfl; rfl; rfl; rfl; rfl; kernel_rfl)
          | (apply Bh.load_bx 0 HE.out Try.underlying40; rfl; rfl; rfl; rfl; rfl; kernel_rfl)
          | (go_at_call 22; refine Calls.mono (keepEntry_self ea _) ?_; rintro e wy ⟨rfl, hb⟩; (have HB := Lib.hid (HB.out.on hb)); (have HX := Lib.hid (HX.out.on hb)); clear hb))
        go_roundw
        case rel => exact ⟨n + 1, by omega, by go_num, HB, HX⟩
        case measure => simp [intOf]; omega
      go_wp2_with (go_at_call 35; refine ((HWK _).out).mono ?_; rintro e wy ⟨rfl, hb⟩; (have HB := Lib.hid (HB.out.on hb)); clear hb)
      go_ret
      exact ⟨rfl, HB.out.beh⟩

theorem LogsPuts_told (x : H × Hp) (i : Int) (a : Option Addr) (len cap : Nat) (w : World) (hx : HardAt w x.1 x.2) (hl : EntsIn w a len cap) :
    Calls Try.prog 5 #[x.1.val x.2, .int .i64 i, .slice a len cap] w fun e w' => e = .returned (.bool true) ∧ Below w.heap.size w w' := by
  obtain ⟨L, rfl, hL⟩ := hl
  exact LogsPuts_law x.1 x.2 i a cap L w hx hL
end Go.Proofs.Ytaifjkilmdnfbaa.Lg
