import Derived.Test.YtaifjkilmdnfbaaMergeLgO
import Derived.Test.YtaifjkilmdnfbaaMergeLgI
import Derived.Test.YtaifjkilmdnfbaaLogCode8
import Derived.Test.YtaifjkilmdnfbaaLogCode9
import Derived.Test.YtaifjkilmdnfbaaLogRef4
import Derived.Test.YtaifjkilmdnfbaaLogRef5
import Derived.Test.YtaifjkilmdnfbaaLogRef6
import Derived.Deep.RegionHeld3
/- The law LogsLooks. -/
namespace Go.Proofs.Ytaifjkilmdnfbaa.Lg
open Go Go.RowKit Vl Kv Ss Cn Mem Li Nm
attribute [local go_sem] Nm.run_bits Nm.run_frombits run_store_float
attribute [local irreducible] wpQuiet
theorem looks_S {w w1 wa wb W : World} {h : H} {p xq : Hp} {cf : C} (x : Bh.Bx w [h.obj p] W) (y : Bh.Bx w1 [h.obj xq] W) (z : Bh.Bx wa [Lg.C.obj cf] W) (v : Bh.Bx wb [Lg.C.obj cf] W) : W.cell? ⟨w.heap.size, 0, none⟩ = some (.int .i64 h.term) ∧ W.cell? ⟨w.heap.size, 1, none⟩ = some (.int .i64 h.vote) ∧ W.cell? ⟨w.heap.size, 2, none⟩ = some (.int .i64 h.base) ∧ W.cell? ⟨w.heap.size, 3, none⟩ = some (.int .i64 h.bterm) ∧ W.cell? ⟨w.heap.size, 4, none⟩ = some (.int .i64 h.conf.f) ∧ W.cell? ⟨w.heap.size, 5, none⟩ = some (.int .i64 h.conf.w) ∧ W.cell? ⟨w.heap.size, 6, none⟩ = some (.int .i64 h.conf.l) ∧ W.cell? ⟨w.heap.size, 7, none⟩ = some (.int .i64 h.conf.x) ∧ W.cell? ⟨w.heap.size, 8, none⟩ = some (.slice p.sa h.snap.length p.sc) ∧ W.cell? ⟨w.heap.size, 9, none⟩ = some (.slice p.la h.log.length p.lc) ∧ W.cell? ⟨w1.heap.size, 0, none⟩ = some (.int .i64 h.term) ∧ W.cell? ⟨w1.heap.size, 1, none⟩ = some (.int .i64 h.vote) ∧ W.cell? ⟨w1.heap.size, 2, none⟩ = some (.int .i64 h.base) ∧ W.cell? ⟨w1.heap.size, 3, none⟩ = some (.int .i64 h.bterm) ∧ W.cell? ⟨w1.heap.size, 4, none⟩ = some (.int .i64 h.conf.f) ∧ W.cell? ⟨w1.heap.size, 5, none⟩ = some (.int .i64 h.conf.w) ∧ W.cell? ⟨w1.heap.size, 6, none⟩ = some (.int .i64 h.conf.l) ∧ W.cell? ⟨w1.heap.size, 7, none⟩ = some (.int .i64 h.conf.x) ∧ W.cell? ⟨w1.heap.size, 8, none⟩ = some (.slice xq.sa h.snap.length xq.sc) ∧ W.cell? ⟨w1.heap.size, 9, none⟩ = some (.slice xq.la h.log.length xq.lc) ∧ W.cell? ⟨wa.heap.size, 0, none⟩ = some (.int .i64 cf.f) ∧ W.cell? ⟨wa.heap.size, 1, none⟩ = some (.int .i64 cf.w) ∧ W.cell? ⟨wa.heap.size, 2, none⟩ = some (.int .i64 cf.l) ∧ W.cell? ⟨wa.heap.size, 3, none⟩ = some (.int .i64 cf.x) ∧ W.cell? ⟨wb.heap.size, 0, none⟩ = some (.int .i64 cf.f) ∧ W.cell? ⟨wb.heap.size, 1, none⟩ = some (.int .i64 cf.w) ∧ W.cell? ⟨wb.heap.size, 2, none⟩ = some (.int .i64 cf.l) ∧ W.cell? ⟨wb.heap.size, 3, none⟩ = some (.int .i64 cf.x) := by
  obtain ⟨a0, a1, a2, a3, a4, a5, a6, a7, a8, a9⟩ := cells10h x.b0
  obtain ⟨b0, b1, b2, b3, b4, b5, b6, b7, b8, b9⟩ := cells10h y.b0
  obtain ⟨c0, c1, c2, c3⟩ := cells4c z.b0
  obtain ⟨d0, d1, d2, d3⟩ := cells4c v.b0
  exact ⟨a0, a1, a2, a3, a4, a5, a6, a7, a8, a9, b0, b1, b2, b3, b4, b5, b6, b7, b8, b9, c0, c1, c2, c3, d0, d1, d2, d3⟩
set_option maxHeartbeats 12800000 in
set_option maxRecDepth 100000 in
theorem LogsLooks_law (h : H) (p : Hp) (i m u t : Int) (w : World) (hh : HardAt w h p) (hm : m ≤ 9223372036854775807) :
    Calls Try.prog 3 #[h.val p, .int .i64 i, .int .i64 m, .int .i64 u, .int .i64 t] w fun e w' => e = .returned (.bool true) ∧ Below w.heap.size w w' := by
  have HB := Lib.hid (Bh.Bx.one w (h.obj p))
  have HV1 : Hid (∀ W, Kv.Beh w W → Calls Try.prog 11 #[h.val p] W fun e w' => e = .returned (.bool (heavyL h.log || decide (32768 < (h.snap.length : Int)))) ∧ Below W.heap.size W w') := fun W hW => heavy_any h p W (hh.on hW)
  have HV2 : Hid (∀ W, Kv.Beh w W → Calls Try.prog 12 #[h.val p] W fun e w' => e = .returned (.bool (lookedB h)) ∧ Below W.heap.size W w') := fun W _ => looked_any h p W
  have HWK := fun w => Lib.hid (wakes_any w)
  (obtain ⟨c0, c1, c2, c3, c4, c5, c6, c7, c8, c9⟩ := cells10h HB.out.b0)
  have HA1 : Hid (HardAt w h p) := hh
  clear hh
  cases k1 : (heavyL h.log || decide (32768 < (h.snap.length : Int)))
  case true =>
    rw [k1] at HV1
    go_enter Try.func3, Try.ntmps3
    go_wp2_with (first
      | (go_at_call 11; (with_reducible refine Calls.mono (HV1.out _ ?_) ?_); exact HB.out.beh; rintro e wy ⟨rfl, hb⟩; (have HB := Lib.hid (HB.out.on hb)); clear hb; (obtain ⟨c0, c1, c2, c3, c4, c5, c6, c7, c8, c9⟩ := cells10h HB.out.b0))
      | (go_at_call 12; (with_reducible refine Calls.mono (HV2.out _ ?_) ?_); exact HB.out.beh; rintro e wy ⟨rfl, hb⟩; (have HB := Lib.hid (HB.out.on hb)); clear hb; (obtain ⟨c0, c1, c2, c3, c4, c5, c6, c7, c8, c9⟩ := cells10h HB.out.b0))
      | (apply Bh.load_bx 0 HB.out Try.underlying27; rfl; rfl; rfl; rfl; rfl; kernel_rfl))
    go_ret
    exact ⟨rfl, HB.out.beh⟩
  cases k2 : lookedB h
  case false =>
    rw [k1] at HV1
    rw [k2] at HV2
    go_enter Try.func3, Try.ntmps3
    go_wp2_with (first
      | (go_at_call 11; (with_reducible refine Calls.mono (HV1.out _ ?_) ?_); exact HB.out.beh; rintro e wy ⟨rfl, hb⟩; (have HB := Lib.hid (HB.out.on hb)); clear hb; (obtain ⟨c0, c1, c2, c3, c4, c5, c6, c7, c8, c9⟩ := cells10h HB.out.b0))
      | (go_at_call 12; (with_reducible refine Calls.mono (HV2.out _ ?_) ?_); exact HB.out.beh; rintro e wy ⟨rfl, hb⟩; (have HB := Lib.hid (HB.out.on hb)); clear hb; (obtain ⟨c0, c1, c2, c3, c4, c5, c6, c7, c8, c9⟩ := cells10h HB.out.b0))
      | (apply Bh.load_bx 0 HB.out Try.underlying27; rfl; rfl; rfl; rfl; rfl; kernel_rfl))
    go_ret
    exact ⟨rfl, HB.out.beh⟩
  have hn := looked_num k2 (played k1)
  have hl1 := (played k1).log
  have hs1 := (played k1).snap
  rw [k1] at HV1
  rw [k2] at HV2
  have HTW : Hid (∀ W, Kv.Beh w W → Calls Try.prog 13 #[h.val p] W fun e w' => ∃ q, e = .returned (h.val q) ∧ MadeH W w' h q) := fun W hW => twinHard_any h p W (HA1.out.on hW) (by omega) (by omega)
  clear k1 k2
  go_enter Try.func3, Try.ntmps3
  go_wp2_with (first
    | (go_at_call 11; (with_reducible refine Calls.mono (HV1.out _ ?_) ?_); exact HB.out.beh; rintro e wy ⟨rfl, hb⟩; (have HB := Lib.hid (HB.out.on hb)); clear hb; (obtain ⟨c0, c1, c2, c3, c4, c5, c6, c7, c8, c9⟩ := cells10h HB.out.b0))
    | (go_at_call 12; (with_reducible refine Calls.mono (HV2.out _ ?_) ?_); exact HB.out.beh; rintro e wy ⟨rfl, hb⟩; (have HB := Lib.hid (HB.out.on hb)); clear hb; (obtain ⟨c0, c1, c2, c3, c4, c5, c6, c7, c8, c9⟩ := cells10h HB.out.b0))
    | (apply Bh.load_bx 0 HB.out Try.underlying27; rfl; rfl; rfl; rfl; rfl; kernel_rfl))
  refine Calls.mono (HTW.out _ HB.out.beh) ?_
  rintro e w1 ⟨xq, rfl, hm1⟩
  have HB := Lib.hid (HB.out.on hm1.beh)
  have HX := Lib.hid (Bh.Bx.one w1 (H.zero.obj Hp.none))
  have HM := Lib.hid hm1
  clear hm1 HV1 HV2 HTW
  have L1 : Hid (∀ W, Kv.Beh w1 W → Calls Try.prog 14 #[h.val xq] W fun e w' => e = .returned (.tuple #[.int .i64 h.last, .int .i64 h.lastT]) ∧ Below W.heap.size W w') := fun W hW => Last_any h xq W hn (HM.out.on hW).at_
  have L2 : Hid (∀ W, Kv.Beh w W → Calls Try.prog 15 #[h.val p] W fun e w' => e = .returned (.tuple #[.int .i64 h.last, .int .i64 h.lastT]) ∧ Below W.heap.size W w') := fun W hW => rLast_any h p W hn (HA1.out.on hW)
  have E1 : Hid (∀ W, Kv.Beh w1 W → Calls Try.prog 16 #[h.val xq, .int .i64 i] W fun e w' => e = .returned (.tuple #[(h.entry i).agg, .bool (h.has i)]) ∧ Below W.heap.size W w') := fun W hW => Entry_any h xq i W hn (HM.out.on hW).at_
  have E2 : Hid (∀ W, Kv.Beh w W → Calls Try.prog 17 #[h.val p, .int .i64 i] W fun e w' => e = .returned (.tuple #[(h.entry i).agg, .bool (h.has i)]) ∧ Below W.heap.size W w') := fun W hW => At_any h p i W hn (HA1.out.on hW)
  have K1 : Hid (∀ W, Kv.Beh w1 W → Calls Try.prog 18 #[h.val xq] W fun e w' => e = .returned (.int .i64 h.check) ∧ Below W.heap.size W w') := fun W hW => Check_h h xq W (HM.out.on hW).at_
  have K2 : Hid (∀ W, Kv.Beh w W → Calls Try.prog 19 #[h.val p] W fun e w' => e = .returned (.bool h.right) ∧ Below W.heap.size W w') := fun W hW => rHard_any h p W (HA1.out.on hW)
  have T1 : Hid (∀ W, Kv.Beh w1 W → Calls Try.prog 20 #[h.val xq, .int .i64 i] W fun e w' => e = .returned (.int .i64 (h.termOf i)) ∧ Below W.heap.size W w') := fun W hW => Term_any h xq i W hn (HM.out.on hW).at_
  have T2 : Hid (∀ W, Kv.Beh w W → Calls Try.prog 21 #[h.val p, .int .i64 i] W fun e w' => e = .returned (.int .i64 (h.termOf i)) ∧ Below W.heap.size W w') := fun W hW => rTerm_any h p i W hn (HA1.out.on hW)
  have C1 : Hid (∀ W, Kv.Beh w1 W → Calls Try.prog 23 #[h.val xq, .int .i64 u] W fun e w' => e = .returned (.tuple #[(h.force u).1.val, .int .i64 (h.force u).2]) ∧ Below W.heap.size W w') := fun W hW => Conf_any h xq u W hn (HM.out.on hW).at_
  have C2 : Hid (∀ W, Kv.Beh w W → Calls Try.prog 24 #[h.val p, .int .i64 u] W fun e w' => e = .returned (.tuple #[(h.force u).1.val, .int .i64 (h.force u).2]) ∧ Below W.heap.size W w') := fun W hW => rForce_any h p u W hn (HA1.out.on hW)
  have F1 : Hid (∀ W, Kv.Beh w1 W → Calls Try.prog 29 #[h.val xq, .int .i64 i, .int .i64 t] W fun e w' => e = .returned (.bool (h.fits i t)) ∧ Below W.heap.size W w') := fun W hW => Fits_any h xq i t W hn (HM.out.on hW).at_
  have F2 : Hid (∀ W, Kv.Beh w W → Calls Try.prog 30 #[h.val p, .int .i64 i, .int .i64 t] W fun e w' => e = .returned (.bool (h.fits i t)) ∧ Below W.heap.size W w') := fun W hW => rFits_any h p i t W hn (HA1.out.on hW)
  have N1 : Hid (∀ W, Kv.Beh w1 W → Calls Try.prog 31 #[h.val xq, .int .i64 i, .int .i64 t] W fun e w' => e = .returned (.bool (h.newer i t)) ∧ Below W.heap.size W w') := fun W hW => Newer_any h xq i t W hn (HM.out.on hW).at_
  have N2 : Hid (∀ W, Kv.Beh w W → Calls Try.prog 32 #[h.val p, .int .i64 i, .int .i64 t] W fun e w' => e = .returned (.bool (h.newer i t)) ∧ Below W.heap.size W w') := fun W hW => rNewer_any h p i t W hn (HA1.out.on hW)
  have FR1 : Hid (∀ W, Kv.Beh w1 W → Calls Try.prog 25 #[h.val xq, .int .i64 i, .int .i64 m] W (FromTold h i m W)) := fun W hW => From_any h xq i m W hn (HM.out.on hW).at_ hm
  have FR2 : Hid (∀ W, Kv.Beh w W → Calls Try.prog 28 #[h.val p, .int .i64 i, .int .i64 m] W (FromTold h i m W)) := fun W hW => rFrom_any h p i m W hn (HA1.out.on hW)
  have HKS : Hid (∀ W, Kv.Beh w1 W → Kv.Beh w W → Calls Try.prog 34 #[h.val xq, h.val p] W fun e w' => e = .returned (.bool true) ∧ Below W.heap.size W w') := fun W hW hW1 => keepHard_self h xq p W (HM.out.on hW).at_ (HA1.out.on hW1) (by omega)
  have HLEN : Hid ((h.from_ i m).length ≤ 100000) := by have := from_len (h := h) (i := i) (most := m); show _ ≤ _; omega
  clear hn
  have HCK : Hid (h.check = if h.right = true then 0 else 6) := rfl
  unfold FromTold at FR1 FR2
  generalize h.from_ i m = L at *
  generalize h.last = ln at *
  generalize h.lastT = lt at *
  generalize h.entry i = ea at *
  generalize h.has i = is at *
  generalize h.termOf i = tm at *
  generalize h.force u = fc at *
  generalize h.fits i t = ft at *
  generalize h.newer i t = nw at *
  obtain ⟨cf, ci⟩ := fc
  dsimp only at C1 C2
  have hck : (h.check == 0) = h.right := by rw [HCK.out]; cases h.right <;> rfl
  clear HCK
  generalize h.check = ck at *
  generalize h.right = r at *
  have HCK := Lib.hid hck
  clear hck
  go_wp2_with (first
    | (apply Bh.store_bx 10 0 HX.out; rfl; rfl; rfl; rfl; rfl; rfl; kernel_rfl; rfl; rfl; intro wz hz; have HX := Lib.hid hz; (have HB := Lib.hid (HB.out.on hz.beh)); clear hz; (obtain ⟨x0, x1, x2, x3, x4, x5, x6, x7, x8, x9⟩ := cells10h (h := h) (p := xq) HX.out.b0); (obtain ⟨c0, c1, c2, c3, c4, c5, c6, c7, c8, c9⟩ := cells10h HB.out.b0))
    | (go_at_call 14; (with_reducible refine Calls.mono (L1.out _ ?_) ?_); exact HX.out.beh; rintro e wy ⟨rfl, hb⟩; (have HB := Lib.hid (HB.out.on hb)); (have HX := Lib.hid (HX.out.on hb)); clear hb)
    | (go_at_call 15; (with_reducible refine Calls.mono (L2.out _ ?_) ?_); exact HB.out.beh; rintro e wy ⟨rfl, hb⟩; (have HB := Lib.hid (HB.out.on hb)); (have HX := Lib.hid (HX.out.on hb)); clear hb)
    | (go_at_call 16; (with_reducible refine Calls.mono (E1.out _ ?_) ?_); exact HX.out.beh; rintro e wa ⟨rfl, hb⟩; (have HB := Lib.hid (HB.out.on hb)); (have HX := Lib.hid (HX.out.on hb)); clear hb; (have HA := Lib.hid (Bh.Bx.one wa E.zero.obj)))
    | (go_at_call 17; (with_reducible refine Calls.mono (E2.out _ ?_) ?_); exact HB.out.beh; rintro e wb ⟨rfl, hb⟩; (have HB := Lib.hid (HB.out.on hb)); (have HX := Lib.hid (HX.out.on hb)); (have HA := Lib.hid (HA.out.on hb)); clear hb; (have HE := Lib.hid (Bh.Bx.one wb E.zero.obj)))
    | (apply Bh.store_bx 16 0 HA.out; rfl; rfl; rfl; rfl; rfl; rfl; kernel_rfl; rfl; rfl; intro wz hz; have HA := Lib.hid hz; (have HB := Lib.hid (HB.out.on hz.beh)); (have HX := Lib.hid (HX.out.on hz.beh)); clear hz)
    | (apply Bh.store_bx 16 0 HE.out; rfl; rfl; rfl; rfl; rfl; rfl; kernel_rfl; rfl; rfl; intro wz hz; have HE := Lib.hid hz; (have HB := Lib.hid (HB.out.on hz.beh)); (have HX := Lib.hid (HX.out.on hz.beh)); (have HA := Lib.hid (HA.out.on hz.beh)); clear hz)
    | (apply Bh.load_bx 0 HX.out Try.underlying27; rfl; rfl; rfl; rfl; rfl; kernel_rfl)
    | (apply Bh.load_bx 0 HB.out Try.underlying27; rfl; rfl; rfl; rfl; rfl; kernel_rfl))
  refine wp_region_quiet (C := Kv.Beh wz) (by kernel_rfl) (by kernel_rfl) (Beh.start _).drew ?_
  repeat (first
    | (refine BigFrame.wpQuiet_skip (by exact Eq.refl false) ?_
       ((try simp only [Act.put]); (try simp only [List.setIfInBounds_toArray]); (try simp only [List.set_cons_zero, List.set_cons_succ])))
    | (refine BigFrame.wpQuiet_want (by exact Eq.refl true) (fun K hK => ?_)
       first
       | (refine quiet_move2 _ rfl (by go_simp; rfl) ?_; refine hK _ ?_)
       | (apply Exists.intro
          refine ⟨fun wq hq => ?_, hK _ ?_⟩
          · ((obtain ⟨x0, x1, x2, x3, x4, x5, x6, x7, x8, x9⟩ := cells10h (h := h) (p := xq) (HX.out.on hq).b0); (obtain ⟨c0, c1, c2, c3, c4, c5, c6, c7, c8, c9⟩ := cells10h (HB.out.on hq).b0); (obtain ⟨u0, u1, u2, u3, u4, u5, u6, u7, u8, u9, u10, u11, u12, u13, u14, u15⟩ := cells16e (x := ea) (HA.out.on hq).b0); (obtain ⟨v0, v1, v2, v3, v4, v5, v6, v7, v8, v9, v10, v11, v12, v13, v14, v15⟩ := cells16e (x := ea) (HE.out.on hq).b0)
             have HQ := Lib.hid hq
             clear hq
             unfold Oper.quietAt
             go_simp
             first
             | rfl
             | (go_at_call 18; exact (K1.out _ (HX.out.beh.trans HQ.out)).mono (fun e w' ⟨he, hb⟩ => ⟨he, HQ.out.on hb⟩)) | (go_at_call 19; exact (K2.out _ (HB.out.beh.trans HQ.out)).mono (fun e w' ⟨he, hb⟩ => ⟨he, HQ.out.on hb⟩)) | (go_at_call 20; exact (T1.out _ (HX.out.beh.trans HQ.out)).mono (fun e w' ⟨he, hb⟩ => ⟨he, HQ.out.on hb⟩)) | (go_at_call 21; exact (T2.out _ (HB.out.beh.trans HQ.out)).mono (fun e w' ⟨he, hb⟩ => ⟨he, HQ.out.on hb⟩)) | (go_at_call 22; exact (keepEntry_self ea _).mono (fun e w' ⟨he, hb⟩ => ⟨he, HQ.out.on hb⟩))))
       clear hK K
       ((try simp only [Act.put]); (try simp only [List.setIfInBounds_toArray]); (try simp only [List.set_cons_zero, List.set_cons_succ]); (try simp only [HCK.out]); (try simp only [bne_self_eq_false]))))
  refine wpQuiet_nil ?_
  intro wq hq
  have HB := Lib.hid (HB.out.on hq)
  have HX := Lib.hid (HX.out.on hq)
  clear hq
  clear L1 L2 E1 E2 K1 K2 T1 T2 HA HE
  go_wp2_with (first
    | (go_at_call 23; (with_reducible refine Calls.mono (C1.out _ ?_) ?_); exact HX.out.beh; rintro e wa ⟨rfl, hb⟩; (have HB := Lib.hid (HB.out.on hb)); (have HX := Lib.hid (HX.out.on hb)); clear hb; (have HA := Lib.hid (Bh.Bx.one wa (Lg.C.obj C.zero))))
    | (go_at_call 24; (with_reducible refine Calls.mono (C2.out _ ?_) ?_); exact HB.out.beh; rintro e wb ⟨rfl, hb⟩; (have HB := Lib.hid (HB.out.on hb)); (have HX := Lib.hid (HX.out.on hb)); (have HA := Lib.hid (HA.out.on hb)); clear hb; (have HE := Lib.hid (Bh.Bx.one wb (Lg.C.obj C.zero))))
    | (apply Bh.store_bx 4 0 HA.out; rfl; rfl; rfl; rfl; rfl; rfl; kernel_rfl; rfl; rfl; intro wz hz; have HA := Lib.hid hz; (have HB := Lib.hid (HB.out.on hz.beh)); (have HX := Lib.hid (HX.out.on hz.beh)); clear hz)
    | (apply Bh.store_bx 4 0 HE.out; rfl; rfl; rfl; rfl; rfl; rfl; kernel_rfl; rfl; rfl; intro wz hz; have HE := Lib.hid hz; (have HB := Lib.hid (HB.out.on hz.beh)); (have HX := Lib.hid (HX.out.on hz.beh)); (have HA := Lib.hid (HA.out.on hz.beh)); clear hz)
    | (apply Bh.load_bx 0 HX.out Try.underlying27; rfl; rfl; rfl; rfl; rfl; kernel_rfl)
    | (apply Bh.load_bx 0 HB.out Try.underlying27; rfl; rfl; rfl; rfl; rfl; kernel_rfl))
  refine Calls.mono (FR1.out _ HX.out.beh) ?_
  rintro e w2 ⟨lb, la, lc, rfl, hml⟩
  have HBF := HB
  have HXF := HX
  have HB := Lib.hid (HB.out.on hml.beh)
  have HX : Hid (Bh.Bx w1 [h.obj xq] w2) := Lib.hid (HX.out.on hml.beh)
  have HA : Hid (Bh.Bx wa [Lg.C.obj cf] w2) := Lib.hid (HA.out.on hml.beh)
  have HE : Hid (Bh.Bx wb [Lg.C.obj cf] w2) := Lib.hid (HE.out.on hml.beh)
  have HL := Lib.hid hml
  have KC : Hid (∀ W, Calls Try.prog 26 #[cf.val, cf.val] W fun e w' => e = .returned (.bool true) ∧ Below W.heap.size W w') := fun W => by
    have := keepConf_any cf cf W
    rwa [decide_eq_true rfl] at this
  clear hml C1 C2 FR1
  go_wp2_with fail
  go_region_held3 (fun W => W.cell? ⟨w.heap.size, 0, none⟩ = some (.int .i64 h.term) ∧ W.cell? ⟨w.heap.size, 1, none⟩ = some (.int .i64 h.vote) ∧ W.cell? ⟨w.heap.size, 2, none⟩ = some (.int .i64 h.base) ∧ W.cell? ⟨w.heap.size, 3, none⟩ = some (.int .i64 h.bterm) ∧ W.cell? ⟨w.heap.size, 4, none⟩ = some (.int .i64 h.conf.f) ∧ W.cell? ⟨w.heap.size, 5, none⟩ = some (.int .i64 h.conf.w) ∧ W.cell? ⟨w.heap.size, 6, none⟩ = some (.int .i64 h.conf.l) ∧ W.cell? ⟨w.heap.size, 7, none⟩ = some (.int .i64 h.conf.x) ∧ W.cell? ⟨w.heap.size, 8, none⟩ = some (.slice p.sa h.snap.length p.sc) ∧ W.cell? ⟨w.heap.size, 9, none⟩ = some (.slice p.la h.log.length p.lc) ∧ W.cell? ⟨w1.heap.size, 0, none⟩ = some (.int .i64 h.term) ∧ W.cell? ⟨w1.heap.size, 1, none⟩ = some (.int .i64 h.vote) ∧ W.cell? ⟨w1.heap.size, 2, none⟩ = some (.int .i64 h.base) ∧ W.cell? ⟨w1.heap.size, 3, none⟩ = some (.int .i64 h.bterm) ∧ W.cell? ⟨w1.heap.size, 4, none⟩ = some (.int .i64 h.conf.f) ∧ W.cell? ⟨w1.heap.size, 5, none⟩ = some (.int .i64 h.conf.w) ∧ W.cell? ⟨w1.heap.size, 6, none⟩ = some (.int .i64 h.conf.l) ∧ W.cell? ⟨w1.heap.size, 7, none⟩ = some (.int .i64 h.conf.x) ∧ W.cell? ⟨w1.heap.size, 8, none⟩ = some (.slice xq.sa h.snap.length xq.sc) ∧ W.cell? ⟨w1.heap.size, 9, none⟩ = some (.slice xq.la h.log.length xq.lc) ∧ W.cell? ⟨wa.heap.size, 0, none⟩ = some (.int .i64 cf.f) ∧ W.cell? ⟨wa.heap.size, 1, none⟩ = some (.int .i64 cf.w) ∧ W.cell? ⟨wa.heap.size, 2, none⟩ = some (.int .i64 cf.l) ∧ W.cell? ⟨wa.heap.size, 3, none⟩ = some (.int .i64 cf.x) ∧ W.cell? ⟨wb.heap.size, 0, none⟩ = some (.int .i64 cf.f) ∧ W.cell? ⟨wb.heap.size, 1, none⟩ = some (.int .i64 cf.w) ∧ W.cell? ⟨wb.heap.size, 2, none⟩ = some (.int .i64 cf.l) ∧ W.cell? ⟨wb.heap.size, 3, none⟩ = some (.int .i64 cf.x))
    (first | with_reducible exact looks_S HB.out HX.out HA.out HE.out | with_reducible exact looks_S HB.out.drew HX.out.drew HA.out.drew HE.out.drew)
    (first
      | (go_at_call 26; refine Calls.mono (KC.out _) ?_; rintro e wy ⟨rfl, hb⟩; (first | ((with_reducible ((have HB := Lib.hid (HB.out.on hb)); (have HX := Lib.hid (HX.out.on hb)); (have HA := Lib.hid (HA.out.on hb)); (have HE := Lib.hid (HE.out.on hb)))); (have HL := Lib.hid (HL.out.on hb))) | ((with_reducible ((have HB := Lib.hid (HB.out.drew.on hb)); (have HX := Lib.hid (HX.out.drew.on hb)); (have HA := Lib.hid (HA.out.drew.on hb)); (have HE := Lib.hid (HE.out.drew.on hb)))); (have HL := Lib.hid (HL.out.on ((Beh.start _).drew.trans hb))))); clear hb)
      | (go_at_call 28; refine Calls.mono (FR2.out _ (by show Bh.Beh _ _; first | with_reducible exact HB.out.beh | with_reducible exact HB.out.beh.drew)) ?_; rintro e wy ⟨b2, a2, c2, rfl, hm2⟩; (have HL2 := Lib.hid hm2); (have hb : Below _ _ _ := hm2.beh); clear hm2; (first | ((with_reducible ((have HB := Lib.hid (HB.out.on hb)); (have HX := Lib.hid (HX.out.on hb)); (have HA := Lib.hid (HA.out.on hb)); (have HE := Lib.hid (HE.out.on hb)))); (have HL := Lib.hid (HL.out.on hb))) | ((with_reducible ((have HB := Lib.hid (HB.out.drew.on hb)); (have HX := Lib.hid (HX.out.drew.on hb)); (have HA := Lib.hid (HA.out.drew.on hb)); (have HE := Lib.hid (HE.out.drew.on hb)))); (have HL := Lib.hid (HL.out.on ((Beh.start _).drew.trans hb))))); clear hb)
      | (go_at_call 27; refine Calls.mono (keepEnts_self la lc a2 c2 L _ HL.out.list HL2.out.list) ?_; rintro e wy ⟨rfl, hb⟩; (first | ((with_reducible ((have HB := Lib.hid (HB.out.on hb)); (have HX := Lib.hid (HX.out.on hb)); (have HA := Lib.hid (HA.out.on hb)); (have HE := Lib.hid (HE.out.on hb)))); (have HL := Lib.hid (HL.out.on hb))) | ((with_reducible ((have HB := Lib.hid (HB.out.drew.on hb)); (have HX := Lib.hid (HX.out.drew.on hb)); (have HA := Lib.hid (HA.out.drew.on hb)); (have HE := Lib.hid (HE.out.drew.on hb)))); (have HL := Lib.hid (HL.out.on ((Beh.start _).drew.trans hb))))); clear hb)
      | (go_at_call 29; refine Calls.mono (F1.out _ (by show Bh.Beh _ _; first | with_reducible exact HX.out.beh | with_reducible exact HX.out.beh.drew)) ?_; rintro e wy ⟨rfl, hb⟩; (first | ((with_reducible ((have HB := Lib.hid (HB.out.on hb)); (have HX := Lib.hid (HX.out.on hb)); (have HA := Lib.hid (HA.out.on hb)); (have HE := Lib.hid (HE.out.on hb)))); (have HL := Lib.hid (HL.out.on hb))) | ((with_reducible ((have HB := Lib.hid (HB.out.drew.on hb)); (have HX := Lib.hid (HX.out.drew.on hb)); (have HA := Lib.hid (HA.out.drew.on hb)); (have HE := Lib.hid (HE.out.drew.on hb)))); (have HL := Lib.hid (HL.out.on ((Beh.start _).drew.trans hb))))); clear hb)
      | (go_at_call 30; refine Calls.mono (F2.out _ (by show Bh.Beh _ _; first | with_reducible exact HB.out.beh | with_reducible exact HB.out.beh.drew)) ?_; rintro e wy ⟨rfl, hb⟩; (first | ((with_reducible ((have HB := Lib.hid (HB.out.on hb)); (have HX := Lib.hid (HX.out.on hb)); (have HA := Lib.hid (HA.out.on hb)); (have HE := Lib.hid (HE.out.on hb)))); (have HL := Lib.hid (HL.out.on hb))) | ((with_reducible ((have HB := Lib.hid (HB.out.drew.on hb)); (have HX := Lib.hid (HX.out.drew.on hb)); (have HA := Lib.hid (HA.out.drew.on hb)); (have HE := Lib.hid (HE.out.drew.on hb)))); (have HL := Lib.hid (HL.out.on ((Beh.start _).drew.trans hb))))); clear hb)
      | (go_at_call 31; refine Calls.mono (N1.out _ (by show Bh.Beh _ _; first | with_reducible exact HX.out.beh | with_reducible exact HX.out.beh.drew)) ?_; rintro e wy ⟨rfl, hb⟩; (first | ((with_reducible ((have HB := Lib.hid (HB.out.on hb)); (have HX := Lib.hid (HX.out.on hb)); (have HA := Lib.hid (HA.out.on hb)); (have HE := Lib.hid (HE.out.on hb)))); (have HL := Lib.hid (HL.out.on hb))) | ((with_reducible ((have HB := Lib.hid (HB.out.drew.on hb)); (have HX := Lib.hid (HX.out.drew.on hb)); (have HA := Lib.hid (HA.out.drew.on hb)); (have HE := Lib.hid (HE.out.drew.on hb)))); (have HL := Lib.hid (HL.out.on ((Beh.start _).drew.trans hb))))); clear hb)
      | (go_at_call 32; refine Calls.mono (N2.out _ (by show Bh.Beh _ _; first | with_reducible exact HB.out.beh | with_reducible exact HB.out.beh.drew)) ?_; rintro e wy ⟨rfl, hb⟩; (first | ((with_reducible ((have HB := Lib.hid (HB.out.on hb)); (have HX := Lib.hid (HX.out.on hb)); (have HA := Lib.hid (HA.out.on hb)); (have HE := Lib.hid (HE.out.on hb)))); (have HL := Lib.hid (HL.out.on hb))) | ((with_reducible ((have HB := Lib.hid (HB.out.drew.on hb)); (have HX := Lib.hid (HX.out.drew.on hb)); (have HA := Lib.hid (HA.out.drew.on hb)); (have HE := Lib.hid (HE.out.drew.on hb)))); (have HL := Lib.hid (HL.out.on ((Beh.start _).drew.trans hb))))); clear hb))
  go_wp2_with fail
  refine Calls.mono (spoilEnts_any lb la lc L _ HL.out.own (by exact HLEN.out)) ?_
  rintro e w9 ⟨rfl, hk⟩
  have hbe : Below wz.heap.size wz w9 := Below.trans HL.out.beh (hk.below (B := wz.heap.size) HL.out.beh.size (fun k h0 => by rw [h0.2]; exact HL.out.new))
  have HB := Lib.hid (HBF.out.on hbe)
  have HX : Hid (Bh.Bx w1 [h.obj xq] w9) := Lib.hid (HXF.out.on hbe)
  clear hk hbe
  go_wp2_with (first
    | (go_at_call 34; refine Calls.mono (HKS.out _ HX.out.beh HB.out.beh) ?_; rintro e wy ⟨rfl, hb⟩; (have HB := Lib.hid (HB.out.on hb)); (have HX := Lib.hid (HX.out.on hb)); clear hb)
    | (go_at_call 35; refine ((HWK _).out).mono ?_; rintro e wy ⟨rfl, hb⟩; (have HB := Lib.hid (HB.out.on hb)); clear hb)
    | (apply Bh.load_bx 0 HX.out Try.underlying27; rfl; rfl; rfl; rfl; rfl; kernel_rfl)
    | (apply Bh.load_bx 0 HB.out Try.underlying27; rfl; rfl; rfl; rfl; rfl; kernel_rfl))
  go_ret
  exact ⟨rfl, HB.out.beh⟩
end Go.Proofs.Ytaifjkilmdnfbaa.Lg
