import Derived.Test.YtaifjkilmdnfbaaMergeLgG
import Derived.Test.YtaifjkilmdnfbaaLogRInst
import Derived.Test.YtaifjkilmdnfbaaLogRPut
import Derived.Test.YtaifjkilmdnfbaaMergeLgI
import Derived.Test.YtaifjkilmdnfbaaMergeLgO
/- The law LogsExact. -/
namespace Go.Proofs.Ytaifjkilmdnfbaa.Lg
open Go Go.RowKit Vl Kv Ss Cn Mem Li Nm
attribute [local go_sem] Nm.run_bits Nm.run_frombits run_store_float
attribute [local irreducible] wpQuiet
theorem put_len {h : H} {i : Int} {l : List E} (h1 : h.log.length ≤ 200) (h2 : l.length ≤ 200) (h3 : h.snap.length ≤ 32768) : (h.put i l).snap.length ≤ 100000 ∧ (h.put i l).log.length ≤ 100000 := by
  by_cases x : h.putOk i l = 0
  · obtain ⟨_, ht, _⟩ := put_code x
    have := putL_length (L := h.log) (l := l) (off_ok ht).2
    rw [put_is x]
    exact ⟨by show h.snap.length ≤ _; omega, by show (putL h.log (h.off i) l).length ≤ _; omega⟩
  · unfold H.put; rw [if_neg x]; exact ⟨Nat.zero_le _, Nat.zero_le _⟩
theorem comp_len {h : H} {i : Int} {s : List Nat} (h1 : h.log.length ≤ 200) (h3 : s.length ≤ 32768) : (h.comp i s).snap.length ≤ 100000 ∧ (h.comp i s).log.length ≤ 100000 := by
  by_cases x : h.compOk i s = 0
  · have y := comp_is x
    rw [y.snap]
    have := y.len
    exact ⟨by omega, by omega⟩
  · unfold H.comp; rw [if_neg x]; exact ⟨Nat.zero_le _, Nat.zero_le _⟩
theorem inst_len {h : H} {i t : Int} {c : C} {s : List Nat} (h1 : h.log.length ≤ 200) (h3 : s.length ≤ 32768) : (h.inst i t c s).snap.length ≤ 100000 ∧ (h.inst i t c s).log.length ≤ 100000 := by
  by_cases x : h.instOk i t c s = 0
  · have y := inst_is x
    rw [y.snap]
    have := y.len
    exact ⟨by omega, by omega⟩
  · unfold H.inst; rw [if_neg x]; exact ⟨Nat.zero_le _, Nat.zero_le _⟩
theorem begin_at (w : World) (c : C) : HardAt w (begin_ c) Hp.none := ⟨.inl ⟨Nat.le_refl _, by decide, .inl ⟨rfl, rfl, rfl⟩⟩, ListAt.empty w⟩
set_option maxHeartbeats 12800000 in
set_option maxRecDepth 100000 in
theorem LogsExact_law (h : H) (p : Hp) (c : C) (i t : Int) (a : Option Addr) (cap : Nat) (l : List E) (b : Nat) (a5 : Option Addr) (cap5 : Nat) (s : List Nat) (w : World) (hh : HardAt w h p) (hl : EntAt w a cap l) (hsn : Src w b a5 cap5 s) :
    Calls Try.prog 4 #[h.val p, c.val, .int .i64 i, .int .i64 t, .slice a l.length cap, .slice a5 s.length cap5] w fun e w' => e = .returned (.bool true) ∧ Below w.heap.size w w' := by
  have HB := Lib.hid (Bh.Bx.two w (h.obj p) (Lg.C.obj c))
  have HV1 : Hid (∀ W, Kv.Beh w W → Calls Try.prog 11 #[h.val p] W fun e w' => e = .returned (.bool (heavyL h.log || decide (32768 < (h.snap.length : Int)))) ∧ Below W.heap.size W w') := fun W hW => heavy_any h p W (hh.on hW)
  have HV2 : Hid (∀ W, Kv.Beh w W → Calls Try.prog 36 #[.slice a l.length cap] W fun e w' => e = .returned (.bool (heavyL l)) ∧ Below W.heap.size W w') := fun W hW => heavyEnts_any a cap l W (hl.below hW)
  have HWK := fun w => Lib.hid (wakes_any w)
  (obtain ⟨c0, c1, c2, c3, c4, c5, c6, c7, c8, c9⟩ := cells10h (h := h) (p := p) HB.out.b0)
  have HA1 : Hid (HardAt w h p ∧ EntAt w a cap l ∧ Src w b a5 cap5 s) := ⟨hh, hl, hsn⟩
  clear hh hl hsn
  cases k1 : (heavyL h.log || decide (32768 < (h.snap.length : Int)))
  case true =>
    rw [k1] at HV1
    go_enter Try.func4, Try.ntmps4
    go_wp2_with (first
      | (go_at_call 11; (with_reducible refine Calls.mono (HV1.out _ ?_) ?_); exact HB.out.beh; rintro e wy ⟨rfl, hb⟩; (have HB := Lib.hid (HB.out.on hb)); clear hb; (obtain ⟨c0, c1, c2, c3, c4, c5, c6, c7, c8, c9⟩ := cells10h (h := h) (p := p) HB.out.b0))
      | (go_at_call 36; (with_reducible refine Calls.mono (HV2.out _ ?_) ?_); exact HB.out.beh; rintro e wy ⟨rfl, hb⟩; (have HB := Lib.hid (HB.out.on hb)); clear hb; (obtain ⟨c0, c1, c2, c3, c4, c5, c6, c7, c8, c9⟩ := cells10h (h := h) (p := p) HB.out.b0))
      | (apply Bh.load_bx 0 HB.out Try.underlying27; rfl; rfl; rfl; rfl; rfl; kernel_rfl))
    go_ret
    exact ⟨rfl, HB.out.beh⟩
  cases k2 : heavyL l
  case true =>
    rw [k1] at HV1
    rw [k2] at HV2
    go_enter Try.func4, Try.ntmps4
    go_wp2_with (first
      | (go_at_call 11; (with_reducible refine Calls.mono (HV1.out _ ?_) ?_); exact HB.out.beh; rintro e wy ⟨rfl, hb⟩; (have HB := Lib.hid (HB.out.on hb)); clear hb; (obtain ⟨c0, c1, c2, c3, c4, c5, c6, c7, c8, c9⟩ := cells10h (h := h) (p := p) HB.out.b0))
      | (go_at_call 36; (with_reducible refine Calls.mono (HV2.out _ ?_) ?_); exact HB.out.beh; rintro e wy ⟨rfl, hb⟩; (have HB := Lib.hid (HB.out.on hb)); clear hb; (obtain ⟨c0, c1, c2, c3, c4, c5, c6, c7, c8, c9⟩ := cells10h (h := h) (p := p) HB.out.b0))
      | (apply Bh.load_bx 0 HB.out Try.underlying27; rfl; rfl; rfl; rfl; rfl; kernel_rfl))
    go_ret
    exact ⟨rfl, HB.out.beh⟩
  cases k3 : decide (32768 < (s.length : Int))
  case true =>
    rw [k1] at HV1
    rw [k2] at HV2
    go_enter Try.func4, Try.ntmps4
    go_wp2_with (first
      | (go_at_call 11; (with_reducible refine Calls.mono (HV1.out _ ?_) ?_); exact HB.out.beh; rintro e wy ⟨rfl, hb⟩; (have HB := Lib.hid (HB.out.on hb)); clear hb; (obtain ⟨c0, c1, c2, c3, c4, c5, c6, c7, c8, c9⟩ := cells10h (h := h) (p := p) HB.out.b0))
      | (go_at_call 36; (with_reducible refine Calls.mono (HV2.out _ ?_) ?_); exact HB.out.beh; rintro e wy ⟨rfl, hb⟩; (have HB := Lib.hid (HB.out.on hb)); clear hb; (obtain ⟨c0, c1, c2, c3, c4, c5, c6, c7, c8, c9⟩ := cells10h (h := h) (p := p) HB.out.b0))
      | (apply Bh.load_bx 0 HB.out Try.underlying27; rfl; rfl; rfl; rfl; rfl; kernel_rfl))
    go_ret
    exact ⟨rfl, HB.out.beh⟩
  have hl1 := (played k1).log
  have hs1 := (played k1).snap
  have hl2 := played_l k2
  have hs2 : s.length ≤ 32768 := by have := of_decide_eq_false k3; omega
  rw [k1] at HV1
  rw [k2] at HV2
  have HRC : Hid (∀ W, Calls Try.prog 38 #[c.val] W fun e w' => e = .returned (.bool c.right) ∧ Below W.heap.size W w') := fun W => Cn.rConf_any c W
  have HRB : Hid (∀ W, Calls Try.prog 39 #[c.val] W fun e w' => e = .returned ((begin_ c).val Hp.none) ∧ Below W.heap.size W w') := fun W => rBegin_any c W
  have HBG : Hid (∀ W, Calls Try.prog 37 #[c.val] W (HardTold (if c.right = true then begin_ c else H.zero) (if c.right = true then 0 else 14) W)) := fun W => Begin_any c W
  have HTW : Hid (∀ W, Kv.Beh w W → Calls Try.prog 13 #[h.val p] W fun e w' => ∃ q, e = .returned (h.val q) ∧ MadeH W w' h q) := fun W hW => twinHard_any h p W (HA1.out.1.on hW) (by omega) (by omega)
  have HTE : Hid (∀ W, Kv.Beh w W → Calls Try.prog 40 #[.slice a l.length cap] W fun e w' => ∃ b' a' cap', e = .returned (.slice a' l.length cap') ∧ Made 40 W w' b' a' cap' l) := fun W hW => twinEnts_any a cap l W (HA1.out.2.1.below hW) (by omega)
  have HTB : Hid (∀ W, Kv.Beh w W → Calls Try.prog 41 #[.slice a5 s.length cap5] W (Kp.NewB s W)) := fun W hW => Kp.Twin_any b a5 cap5 s W (HA1.out.2.2.kept (Kept.of_below hW) (fun _ h => h)) (by omega)
  clear k1 k2
  cases hcr : c.right
  case true =>
    rw [hcr] at HRC HBG
    rw [if_pos rfl, if_pos rfl] at HBG
    clear hcr
    go_enter Try.func4, Try.ntmps4
    go_wp2_with (first
      | (go_at_call 11; (with_reducible refine Calls.mono (HV1.out _ ?_) ?_); exact HB.out.beh; rintro e wy ⟨rfl, hb⟩; (have HB := Lib.hid (HB.out.on hb)); clear hb; (obtain ⟨c0, c1, c2, c3, c4, c5, c6, c7, c8, c9⟩ := cells10h (h := h) (p := p) HB.out.b0))
      | (go_at_call 36; (with_reducible refine Calls.mono (HV2.out _ ?_) ?_); exact HB.out.beh; rintro e wy ⟨rfl, hb⟩; (have HB := Lib.hid (HB.out.on hb)); clear hb; (obtain ⟨c0, c1, c2, c3, c4, c5, c6, c7, c8, c9⟩ := cells10h (h := h) (p := p) HB.out.b0))
      | (apply Bh.load_bx 0 HB.out Try.underlying27; rfl; rfl; rfl; rfl; rfl; kernel_rfl)
      | (apply Bh.load_bx 1 HB.out Try.underlying23; rfl; rfl; rfl; rfl; rfl; kernel_rfl))
    refine Calls.mono (HBG.out _) ?_
    rintro e w1 ⟨xq, rfl, hm⟩
    have HB := Lib.hid (HB.out.on hm.beh)
    have HX := Lib.hid (Bh.Bx.one w1 (H.zero.obj Hp.none))
    have HKA : Hid (∀ W, Kv.Beh w1 W → Calls Try.prog 34 #[(begin_ c).val xq, (begin_ c).val Hp.none] W fun e w' => e = .returned (.bool true) ∧ Below W.heap.size W w') := fun W hW => keepHard_self (begin_ c) xq Hp.none W (hm.on hW).at_ (begin_at W c) (Nat.zero_le _)
    clear hm HV1 HV2 HBG
    generalize begin_ c = bc at *
    go_wp2_with (first
      | (apply Bh.store_bx 10 0 HX.out; rfl; rfl; rfl; rfl; rfl; rfl; kernel_rfl; rfl; rfl; intro wz hz; have HX := Lib.hid hz; (have HB := Lib.hid (HB.out.on hz.beh)); clear hz))
    refine wp_region_quiet (C := Kv.Beh wz) (by kernel_rfl) (by kernel_rfl) (Beh.start _).drew ?_
    repeat (first
      | (refine BigFrame.wpQuiet_skip (by exact Eq.refl false) ?_
         ((try simp only [Act.put]); (try simp only [List.setIfInBounds_toArray]); (try simp only [List.set_cons_zero, List.set_cons_succ])))
      | (refine BigFrame.wpQuiet_want (by exact Eq.refl true) (fun K hK => ?_)
         first
         | (refine quiet_move2 _ rfl (by go_simp; rfl) ?_; refine hK _ ?_)
         | (apply Exists.intro
            refine ⟨fun wq hq => ?_, hK _ ?_⟩
            · ((obtain ⟨x0, x1, x2, x3, x4, x5, x6, x7, x8, x9⟩ := cells10h (h := bc) (p := xq) (HX.out.on hq).b0); (obtain ⟨v0, v1, v2, v3⟩ := cells4c (HB.out.on hq).b1)
               have HQ := Lib.hid hq
               clear hq
               unfold Oper.quietAt
               go_simp
               first
               | rfl
               | (go_at_call 38; exact (HRC.out _).mono (fun e w' ⟨he, hb⟩ => ⟨he, HQ.out.on hb⟩)) | (go_at_call 39; exact (HRB.out _).mono (fun e w' ⟨he, hb⟩ => ⟨he, HQ.out.on hb⟩)) | (go_at_call 34; exact (HKA.out _ (HX.out.beh.trans HQ.out)).mono (fun e w' ⟨he, hb⟩ => ⟨he, HQ.out.on hb⟩))))
         clear hK K
         ((try simp only [Act.put]); (try simp only [List.setIfInBounds_toArray]); (try simp only [List.set_cons_zero, List.set_cons_succ]))))
    refine wpQuiet_nil ?_
    intro wq hq
    have HB := Lib.hid (HB.out.on hq)
    clear hq
    clear HX HKA HRC HRB
    clear c0 c1 c2 c3 c4 c5 c6 c7 c8 c9
    go_wp2_with (first
      | (apply Bh.load_bx 0 HB.out Try.underlying27; rfl; rfl; rfl; rfl; rfl; kernel_rfl)
      | (go_at_call 13; refine Calls.mono (HTW.out _ HB.out.beh) ?_; rintro e wt ⟨q, rfl, hm⟩; (have HMQ := Lib.hid hm); (have HB := Lib.hid (HB.out.on hm.beh)); clear hm)
      | (go_at_call 40; refine Calls.mono (HTE.out _ HB.out.beh) ?_; rintro e wte ⟨eb, ea, ec, rfl, hml⟩; (have HME := Lib.hid hml); (have HMQ := Lib.hid (HMQ.out.on hml.beh)); (have HB := Lib.hid (HB.out.on hml.beh)); clear hml)
      | (go_at_call 41; refine Calls.mono (HTB.out _ HB.out.beh) ?_; intro e wi hq; obtain ⟨sb, sa, sc, rfl, hown, hb⟩ := OwnS.of (lo := 0) hq (Nat.zero_le _); (have HMS := Lib.hid hown.own.src); (have HME := Lib.hid (HME.out.on hb)); (have HMQ := Lib.hid (HMQ.out.on hb)); (have HB := Lib.hid (HB.out.on hb)); clear hb hown hq; (have HWI0 := Lib.hid (HB.out.lt)); (have HI := Lib.hid (Bh.Bx.one wi (H.zero.obj Hp.none))))
      | (apply Bh.store_bx 10 0 HI.out; rfl; rfl; rfl; rfl; rfl; rfl; kernel_rfl; rfl; rfl; intro wj hz; have HI := Lib.hid hz; (have HB := Lib.hid (HB.out.on hz.beh)); clear hz))
    have HIN : Hid (∀ W, Kv.Beh wi W → HardAt W h q ∧ EntAt W ea ec l ∧ Src W sb sa sc s) := fun W hW => ⟨(HMQ.out.on hW).at_, Made.list (HME.out.on hW), HMS.out.kept (Kept.of_below hW) (fun _ h => h)⟩
    clear HMQ HME HMS HTW HTE HTB
    have G0 := Lib.hid (put_len (h := h) (i := i) (l := l) hl1 hl2 hs1)
    have G1 := Lib.hid (comp_len (h := h) (i := i) (s := s) hl1 hs2)
    have G2 := Lib.hid (inst_len (h := h) (i := i) (t := t) (c := c) (s := s) hl1 hs2)
    have P0 : Hid (∀ W, Kv.Beh wi W → Calls Try.prog 42 #[h.val q, .int .i64 i, .slice ea l.length ec] W (HardTold (h.put i l) (h.putOk i l) W)) := fun W hW => Put_any h q i ea ec l W (HIN.out W hW).1 (HIN.out W hW).2.1 (by omega) (by omega) (by omega)
    have R0 : Hid (∀ W, Kv.Beh w W → Calls Try.prog 43 #[h.val p, .int .i64 i, .slice a l.length cap] W (HardTold (h.put i l) (h.putOk i l) W)) := fun W hW => rPut_any h p i a cap l W (HA1.out.1.on hW) (HA1.out.2.1.below hW) (by omega) (by omega) (by omega)
    have P1 : Hid (∀ W, Kv.Beh wi W → Calls Try.prog 44 #[h.val q, .int .i64 i, .slice sa s.length sc] W (HardTold (h.comp i s) (h.compOk i s) W)) := fun W hW => Compact_any h q i sb sa sc s W (HIN.out W hW).1 (HIN.out W hW).2.2 (by omega) (by omega)
    have R1 : Hid (∀ W, Kv.Beh w W → Calls Try.prog 45 #[h.val p, .int .i64 i, .slice a5 s.length cap5] W (HardTold (h.comp i s) (h.compOk i s) W)) := fun W hW => rCompact_any h p i b a5 cap5 s W (HA1.out.1.on hW) (HA1.out.2.2.kept (Kept.of_below hW) (fun _ h => h)) (by omega) (by omega)
    have P2 : Hid (∀ W, Kv.Beh wi W → Calls Try.prog 46 #[h.val q, .int .i64 i, .int .i64 t, c.val, .slice sa s.length sc] W (HardTold (h.inst i t c s) (h.instOk i t c s) W)) := fun W hW => Install_any h q i t c sb sa sc s W (HIN.out W hW).1 (HIN.out W hW).2.2 (by omega) (by omega)
    have R2 : Hid (∀ W, Kv.Beh w W → Calls Try.prog 47 #[h.val p, .int .i64 i, .int .i64 t, c.val, .slice a5 s.length cap5] W (HardTold (h.inst i t c s) (h.instOk i t c s) W)) := fun W hW => rInstall_any h p i t c b a5 cap5 s W (HA1.out.1.on hW) (HA1.out.2.2.kept (Kept.of_below hW) (fun _ h => h)) (by omega) (by omega)
    have KHI : Hid (∀ W, Kv.Beh wi W → Kv.Beh w W → Calls Try.prog 34 #[h.val q, h.val p] W fun e w' => e = .returned (.bool true) ∧ Below W.heap.size W w') := fun W hW hW2 => keepHard_self h q p W (HIN.out W hW).1 (HA1.out.1.on hW2) (by omega)
    have KEI : Hid (∀ W, Kv.Beh wi W → Kv.Beh w W → Calls Try.prog 27 #[.slice ea l.length ec, .slice a l.length cap] W fun e w' => e = .returned (.bool true) ∧ Below W.heap.size W w') := fun W hW hW2 => keepEnts_self ea ec a cap l W (HIN.out W hW).2.1 (HA1.out.2.1.below hW2)
    have KBI : Hid (∀ W, Kv.Beh wi W → Kv.Beh w W → Calls Try.prog 49 #[.slice sa s.length sc, .slice a5 s.length cap5] W fun e w' => e = .returned (.bool true) ∧ Below W.heap.size W w') := fun W hW hW2 => (Kp.KBytes_any sb sa sc s b a5 cap5 s W (HIN.out W hW).2.2 (HA1.out.2.2.kept (Kept.of_below hW2) (fun _ h => h)) (by omega) (by omega)).mono fun e w' hx => same_bytes hx
    have hwi : w.heap.size + 2 ≤ wi.heap.size := HWI0.out
    clear HIN HA1
    go_loopw [14, 18] (fun e k wr => (k = .int .i64 0 ∨ k = .int .i64 1 ∨ k = .int .i64 2 ∨ k = .int .i64 3) ∧ (∃ x, e = .int .i64 x) ∧ Hid (Bh.Bx w [h.obj p, Lg.C.obj c] wr) ∧ Hid (Bh.Bx wi [h.obj q] wr)) (fun _ k _ => (3 - intOf k).toNat)
    case atStart => exact ⟨.inl rfl, ⟨_, rfl⟩, HB, HI⟩
    case round =>
      obtain ⟨hk, ⟨ec, rfl⟩, HB, HI⟩ := hrel
      have HBr := HB
      have HIr := HI
      have hlo1 : w.heap.size + 2 ≤ wr.heap.size := HB.out.lt
      have hlo2 : wi.heap.size + 1 ≤ wr.heap.size := HI.out.lt
      rcases hk with rfl | rfl | rfl | rfl
      · as_aux_lemma =>
        generalize h.put i l = X at *
        generalize h.putOk i l = cc at *
        have G := G0
        clear P1 P2 R1 R2
        have HN := Lib.hid (Bh.Bx.two wr (H.zero.obj Hp.none) (H.zero.obj Hp.none))
        have HB := Lib.hid (HB.out.on HN.out.beh)
        have HI := Lib.hid (HI.out.on HN.out.beh)
        go_wp2_with (first
          | (go_at_call 42; (with_reducible refine Calls.mono (P0.out _ ?_) ?_); exact HI.out.beh; rintro e wx ⟨xq, rfl, hm⟩; (have HX := Lib.hid (hm.own (lo := wr.heap.size + 2) HN.out.lt)); (have HNb := HN); (have HB := Lib.hid (HB.out.on hm.beh)); (have HI := Lib.hid (HI.out.on hm.beh)); (have HN := Lib.hid (HN.out.on hm.beh)); clear hm)
          | (go_at_call 43; (with_reducible refine Calls.mono (R0.out _ ?_) ?_); exact HB.out.beh; rintro e wy ⟨yq, rfl, hm⟩; (have HY := Lib.hid (hm.own (lo := wr.heap.size + 2) HN.out.lt)); (have HB := Lib.hid (HB.out.on hm.beh)); (have HI := Lib.hid (HI.out.on hm.beh)); (have HN := Lib.hid (HN.out.on hm.beh)); (have HX := Lib.hid (HX.out.on hm.beh)); clear hm)
          | (apply Bh.store_bk 10 0 HN.out; rfl; rfl; rfl; rfl; rfl; rfl; kernel_rfl; rfl; rfl; intro wz hz he; (have HX := Lib.hid (HX.out.els he (by omega))); (have HB := Lib.hid (HB.out.els he (by show w.heap.size + 2 ≤ wr.heap.size + 0; omega))); (have HI := Lib.hid (HI.out.els he (by show wi.heap.size + 1 ≤ wr.heap.size + 0; omega))); have HN := Lib.hid hz; clear hz he)
          | (apply Bh.store_bk 10 1 HN.out; rfl; rfl; rfl; rfl; rfl; rfl; kernel_rfl; rfl; rfl; intro wz hz he; (have HX := Lib.hid (HX.out.els he (by omega))); (have HY := Lib.hid (HY.out.els he (by omega))); (have HB := Lib.hid (HB.out.els he (by show w.heap.size + 2 ≤ wr.heap.size + 1; omega))); (have HI := Lib.hid (HI.out.els he (by show wi.heap.size + 1 ≤ wr.heap.size + 1; omega))); have HN := Lib.hid hz; clear hz he)
          | (go_at_call 34; refine Calls.mono (keepHard_self X xq yq _ HX.out.at_ HY.out.at_ G.out.1) ?_; rintro e wk ⟨rfl, hb⟩; (have HX := Lib.hid (HX.out.on hb)); (have HN := Lib.hid (HN.out.on hb)); clear hb)
          | (go_at_call 48; refine Calls.mono (spoilHard_any X xq wr _ ⟨HX.out.snap.own, Nat.le_trans (Nat.le_add_right _ 2) HX.out.snap.new, HX.out.log.own, Nat.le_trans (Nat.le_add_right _ 2) HX.out.log.new, HN.out.beh⟩ G.out.1 G.out.2) ?_; rintro e ws ⟨rfl, hb⟩; (have HB := Lib.hid (HBr.out.on hb)); (have HI := Lib.hid (HIr.out.on hb)); clear hb)
          | (apply Bh.load_bx 0 HI.out Try.underlying27; rfl; rfl; rfl; rfl; rfl; kernel_rfl)
          | (apply Bh.load_bx 0 HB.out Try.underlying27; rfl; rfl; rfl; rfl; rfl; kernel_rfl)
          | (apply Bh.load_bx 1 HB.out Try.underlying23; rfl; rfl; rfl; rfl; rfl; kernel_rfl)
          | (apply Bh.load_bx 0 HN.out Try.underlying27; rfl; rfl; rfl; rfl; rfl; kernel_rfl)
          | (apply Bh.load_bx 1 HN.out Try.underlying27; rfl; rfl; rfl; rfl; rfl; kernel_rfl))
        go_roundw
        case rel => exact ⟨.inr (.inl rfl), ⟨_, rfl⟩, HB, HI⟩
        case measure => simp [intOf]
      · as_aux_lemma =>
        generalize h.comp i s = X at *
        generalize h.compOk i s = cc at *
        have G := G1
        clear P0 P2 R0 R2
        have HN := Lib.hid (Bh.Bx.two wr (H.zero.obj Hp.none) (H.zero.obj Hp.none))
        have HB := Lib.hid (HB.out.on HN.out.beh)
        have HI := Lib.hid (HI.out.on HN.out.beh)
        go_wp2_with (first
          | (go_at_call 44; (with_reducible refine Calls.mono (P1.out _ ?_) ?_); exact HI.out.beh; rintro e wx ⟨xq, rfl, hm⟩; (have HX := Lib.hid (hm.own (lo := wr.heap.size + 2) HN.out.lt)); (have HNb := HN); (have HB := Lib.hid (HB.out.on hm.beh)); (have HI := Lib.hid (HI.out.on hm.beh)); (have HN := Lib.hid (HN.out.on hm.beh)); clear hm)
          | (go_at_call 45; (with_reducible refine Calls.mono (R1.out _ ?_) ?_); exact HB.out.beh; rintro e wy ⟨yq, rfl, hm⟩; (have HY := Lib.hid (hm.own (lo := wr.heap.size + 2) HN.out.lt)); (have HB := Lib.hid (HB.out.on hm.beh)); (have HI := Lib.hid (HI.out.on hm.beh)); (have HN := Lib.hid (HN.out.on hm.beh)); (have HX := Lib.hid (HX.out.on hm.beh)); clear hm)
          | (apply Bh.store_bk 10 0 HN.out; rfl; rfl; rfl; rfl; rfl; rfl; kernel_rfl; rfl; rfl; intro wz hz he; (have HX := Lib.hid (HX.out.els he (by omega))); (have HB := Lib.hid (HB.out.els he (by show w.heap.size + 2 ≤ wr.heap.size + 0; omega))); (have HI := Lib.hid (HI.out.els he (by show wi.heap.size + 1 ≤ wr.heap.size + 0; omega))); have HN := Lib.hid hz; clear hz he)
          | (apply Bh.store_bk 10 1 HN.out; rfl; rfl; rfl; rfl; rfl; rfl; kernel_rfl; rfl; rfl; intro wz hz he; (have HX := Lib.hid (HX.out.els he (by omega))); (have HY := Lib.hid (HY.out.els he (by omega))); (have HB := Lib.hid (HB.out.els he (by show w.heap.size + 2 ≤ wr.heap.size + 1; omega))); (have HI := Lib.hid (HI.out.els he (by show wi.heap.size + 1 ≤ wr.heap.size + 1; omega))); have HN := Lib.hid hz; clear hz he)
          | (go_at_call 34; refine Calls.mono (keepHard_self X xq yq _ HX.out.at_ HY.out.at_ G.out.1) ?_; rintro e wk ⟨rfl, hb⟩; (have HX := Lib.hid (HX.out.on hb)); (have HN := Lib.hid (HN.out.on hb)); clear hb)
          | (go_at_call 48; refine Calls.mono (spoilHard_any X xq wr _ ⟨HX.out.snap.own, Nat.le_trans (Nat.le_add_right _ 2) HX.out.snap.new, HX.out.log.own, Nat.le_trans (Nat.le_add_right _ 2) HX.out.log.new, HN.out.beh⟩ G.out.1 G.out.2) ?_; rintro e ws ⟨rfl, hb⟩; (have HB := Lib.hid (HBr.out.on hb)); (have HI := Lib.hid (HIr.out.on hb)); clear hb)
          | (apply Bh.load_bx 0 HI.out Try.underlying27; rfl; rfl; rfl; rfl; rfl; kernel_rfl)
          | (apply Bh.load_bx 0 HB.out Try.underlying27; rfl; rfl; rfl; rfl; rfl; kernel_rfl)
          | (apply Bh.load_bx 1 HB.out Try.underlying23; rfl; rfl; rfl; rfl; rfl; kernel_rfl)
          | (apply Bh.load_bx 0 HN.out Try.underlying27; rfl; rfl; rfl; rfl; rfl; kernel_rfl)
          | (apply Bh.load_bx 1 HN.out Try.underlying27; rfl; rfl; rfl; rfl; rfl; kernel_rfl))
        go_roundw
        case rel => exact ⟨.inr (.inr (.inl rfl)), ⟨_, rfl⟩, HB, HI⟩
        case measure => simp [intOf]
      · as_aux_lemma =>
        generalize h.inst i t c s = X at *
        generalize h.instOk i t c s = cc at *
        have G := G2
        clear P0 P1 R0 R1
        have HN := Lib.hid (Bh.Bx.two wr (H.zero.obj Hp.none) (H.zero.obj Hp.none))
        have HB := Lib.hid (HB.out.on HN.out.beh)
        have HI := Lib.hid (HI.out.on HN.out.beh)
        go_wp2_with (first
          | (go_at_call 46; (with_reducible refine Calls.mono (P2.out _ ?_) ?_); exact HI.out.beh; rintro e wx ⟨xq, rfl, hm⟩; (have HX := Lib.hid (hm.own (lo := wr.heap.size + 2) HN.out.lt)); (have HNb := HN); (have HB := Lib.hid (HB.out.on hm.beh)); (have HI := Lib.hid (HI.out.on hm.beh)); (have HN := Lib.hid (HN.out.on hm.beh)); clear hm)
          | (go_at_call 47; (with_reducible refine Calls.mono (R2.out _ ?_) ?_); exact HB.out.beh; rintro e wy ⟨yq, rfl, hm⟩; (have HY := Lib.hid (hm.own (lo := wr.heap.size + 2) HN.out.lt)); (have HB := Lib.hid (HB.out.on hm.beh)); (have HI := Lib.hid (HI.out.on hm.beh)); (have HN := Lib.hid (HN.out.on hm.beh)); (have HX := Lib.hid (HX.out.on hm.beh)); clear hm)
          | (apply Bh.store_bk 10 0 HN.out; rfl; rfl; rfl; rfl; rfl; rfl; kernel_rfl; rfl; rfl; intro wz hz he; (have HX := Lib.hid (HX.out.els he (by omega))); (have HB := Lib.hid (HB.out.els he (by show w.heap.size + 2 ≤ wr.heap.size + 0; omega))); (have HI := Lib.hid (HI.out.els he (by show wi.heap.size + 1 ≤ wr.heap.size + 0; omega))); have HN := Lib.hid hz; clear hz he)
          | (apply Bh.store_bk 10 1 HN.out; rfl; rfl; rfl; rfl; rfl; rfl; kernel_rfl; rfl; rfl; intro wz hz he; (have HX := Lib.hid (HX.out.els he (by omega))); (have HY := Lib.hid (HY.out.els he (by omega))); (have HB := Lib.hid (HB.out.els he (by show w.heap.size + 2 ≤ wr.heap.size + 1; omega))); (have HI := Lib.hid (HI.out.els he (by show wi.heap.size + 1 ≤ wr.heap.size + 1; omega))); have HN := Lib.hid hz; clear hz he)
          | (go_at_call 34; refine Calls.mono (keepHard_self X xq yq _ HX.out.at_ HY.out.at_ G.out.1) ?_; rintro e wk ⟨rfl, hb⟩; (have HX := Lib.hid (HX.out.on hb)); (have HN := Lib.hid (HN.out.on hb)); clear hb)
          | (go_at_call 48; refine Calls.mono (spoilHard_any X xq wr _ ⟨HX.out.snap.own, Nat.le_trans (Nat.le_add_right _ 2) HX.out.snap.new, HX.out.log.own, Nat.le_trans (Nat.le_add_right _ 2) HX.out.log.new, HN.out.beh⟩ G.out.1 G.out.2) ?_; rintro e ws ⟨rfl, hb⟩; (have HB := Lib.hid (HBr.out.on hb)); (have HI := Lib.hid (HIr.out.on hb)); clear hb)
          | (apply Bh.load_bx 0 HI.out Try.underlying27; rfl; rfl; rfl; rfl; rfl; kernel_rfl)
          | (apply Bh.load_bx 0 HB.out Try.underlying27; rfl; rfl; rfl; rfl; rfl; kernel_rfl)
          | (apply Bh.load_bx 1 HB.out Try.underlying23; rfl; rfl; rfl; rfl; rfl; kernel_rfl)
          | (apply Bh.load_bx 0 HN.out Try.underlying27; rfl; rfl; rfl; rfl; rfl; kernel_rfl)
          | (apply Bh.load_bx 1 HN.out Try.underlying27; rfl; rfl; rfl; rfl; rfl; kernel_rfl))
        go_roundw
        case rel => exact ⟨.inr (.inr (.inr rfl)), ⟨_, rfl⟩, HB, HI⟩
        case measure => simp [intOf]
      · as_aux_lemma =>
        (obtain ⟨c0, c1, c2, c3, c4, c5, c6, c7, c8, c9⟩ := cells10h (h := h) (p := p) HB.out.b0)
        (obtain ⟨y0, y1, y2, y3, y4, y5, y6, y7, y8, y9⟩ := cells10h (h := h) (p := q) HI.out.b0)
        go_wp2_with (first
          | (apply Bh.load_bx 0 HI.out Try.underlying27; rfl; rfl; rfl; rfl; rfl; kernel_rfl)
          | (apply Bh.load_bx 0 HB.out Try.underlying27; rfl; rfl; rfl; rfl; rfl; kernel_rfl)
          | (go_at_call 34; refine Calls.mono (KHI.out _ HI.out.beh HB.out.beh) ?_; rintro e wk ⟨rfl, hb⟩; (have HB := Lib.hid (HB.out.on hb)); (have HI := Lib.hid (HI.out.on hb)); clear hb; (obtain ⟨c0, c1, c2, c3, c4, c5, c6, c7, c8, c9⟩ := cells10h (h := h) (p := p) HB.out.b0); (obtain ⟨y0, y1, y2, y3, y4, y5, y6, y7, y8, y9⟩ := cells10h (h := h) (p := q) HI.out.b0))
          | (go_at_call 27; refine Calls.mono (KEI.out _ HI.out.beh HB.out.beh) ?_; rintro e wk ⟨rfl, hb⟩; (have HB := Lib.hid (HB.out.on hb)); (have HI := Lib.hid (HI.out.on hb)); clear hb; (obtain ⟨c0, c1, c2, c3, c4, c5, c6, c7, c8, c9⟩ := cells10h (h := h) (p := p) HB.out.b0); (obtain ⟨y0, y1, y2, y3, y4, y5, y6, y7, y8, y9⟩ := cells10h (h := h) (p := q) HI.out.b0))
          | (go_at_call 49; refine Calls.mono (KBI.out _ HI.out.beh HB.out.beh) ?_; rintro e wk ⟨rfl, hb⟩; (have HB := Lib.hid (HB.out.on hb)); (have HI := Lib.hid (HI.out.on hb)); clear hb; (obtain ⟨c0, c1, c2, c3, c4, c5, c6, c7, c8, c9⟩ := cells10h (h := h) (p := p) HB.out.b0); (obtain ⟨y0, y1, y2, y3, y4, y5, y6, y7, y8, y9⟩ := cells10h (h := h) (p := q) HI.out.b0))
          | (go_at_call 35; refine ((HWK _).out).mono ?_; rintro e wy ⟨rfl, hb⟩; (have HB := Lib.hid (HB.out.on hb)); clear hb))
        go_ret
        exact ⟨rfl, HB.out.beh⟩
  case false =>
    rw [hcr] at HRC HBG
    rw [if_neg (by simp), if_neg (by simp)] at HBG
    clear hcr
    go_enter Try.func4, Try.ntmps4
    go_wp2_with (first
      | (go_at_call 11; (with_reducible refine Calls.mono (HV1.out _ ?_) ?_); exact HB.out.beh; rintro e wy ⟨rfl, hb⟩; (have HB := Lib.hid (HB.out.on hb)); clear hb; (obtain ⟨c0, c1, c2, c3, c4, c5, c6, c7, c8, c9⟩ := cells10h (h := h) (p := p) HB.out.b0))
      | (go_at_call 36; (with_reducible refine Calls.mono (HV2.out _ ?_) ?_); exact HB.out.beh; rintro e wy ⟨rfl, hb⟩; (have HB := Lib.hid (HB.out.on hb)); clear hb; (obtain ⟨c0, c1, c2, c3, c4, c5, c6, c7, c8, c9⟩ := cells10h (h := h) (p := p) HB.out.b0))
      | (apply Bh.load_bx 0 HB.out Try.underlying27; rfl; rfl; rfl; rfl; rfl; kernel_rfl)
      | (apply Bh.load_bx 1 HB.out Try.underlying23; rfl; rfl; rfl; rfl; rfl; kernel_rfl))
    refine Calls.mono (HBG.out _) ?_
    rintro e w1 ⟨xq, rfl, hm⟩
    have HB := Lib.hid (HB.out.on hm.beh)
    have HX := Lib.hid (Bh.Bx.one w1 (H.zero.obj Hp.none))
    have HKA : Hid (∀ W, Kv.Beh w1 W → Calls Try.prog 34 #[H.zero.val xq, H.zero.val Hp.none] W fun e w' => e = .returned (.bool true) ∧ Below W.heap.size W w') := fun W hW => keepHard_self H.zero xq Hp.none W (hm.on hW).at_ (HardAt.none W) (Nat.zero_le _)
    clear hm HV1 HV2 HBG
    go_wp2_with (first
      | (apply Bh.store_bx 10 0 HX.out; rfl; rfl; rfl; rfl; rfl; rfl; kernel_rfl; rfl; rfl; intro wz hz; have HX := Lib.hid hz; (have HB := Lib.hid (HB.out.on hz.beh)); clear hz))
    refine wp_region_quiet (C := Kv.Beh wz) (by kernel_rfl) (by kernel_rfl) (Beh.start _).drew ?_
    repeat (first
      | (refine BigFrame.wpQuiet_skip (by exact Eq.refl false) ?_
         ((try simp only [Act.put]); (try simp only [List.setIfInBounds_toArray]); (try simp only [List.set_cons_zero, List.set_cons_succ])))
      | (refine BigFrame.wpQuiet_want (by exact Eq.refl true) (fun K hK => ?_)
         first
         | (refine quiet_move2 _ rfl (by go_simp; rfl) ?_; refine hK _ ?_)
         | (apply Exists.intro
            refine ⟨fun wq hq => ?_, hK _ ?_⟩
            · ((obtain ⟨x0, x1, x2, x3, x4, x5, x6, x7, x8, x9⟩ := cells10h (h := H.zero) (p := xq) (HX.out.on hq).b0); (obtain ⟨v0, v1, v2, v3⟩ := cells4c (HB.out.on hq).b1)
               have HQ := Lib.hid hq
               clear hq
               unfold Oper.quietAt
               go_simp
               first
               | rfl
               | (go_at_call 38; exact (HRC.out _).mono (fun e w' ⟨he, hb⟩ => ⟨he, HQ.out.on hb⟩)) | (go_at_call 39; exact (HRB.out _).mono (fun e w' ⟨he, hb⟩ => ⟨he, HQ.out.on hb⟩)) | (go_at_call 34; exact (HKA.out _ (HX.out.beh.trans HQ.out)).mono (fun e w' ⟨he, hb⟩ => ⟨he, HQ.out.on hb⟩))))
         clear hK K
         ((try simp only [Act.put]); (try simp only [List.setIfInBounds_toArray]); (try simp only [List.set_cons_zero, List.set_cons_succ]))))
    refine wpQuiet_nil ?_
    intro wq hq
    have HB := Lib.hid (HB.out.on hq)
    clear hq
    clear HX HKA HRC HRB
    clear c0 c1 c2 c3 c4 c5 c6 c7 c8 c9
    go_wp2_with (first
      | (apply Bh.load_bx 0 HB.out Try.underlying27; rfl; rfl; rfl; rfl; rfl; kernel_rfl)
      | (go_at_call 13; refine Calls.mono (HTW.out _ HB.out.beh) ?_; rintro e wt ⟨q, rfl, hm⟩; (have HMQ := Lib.hid hm); (have HB := Lib.hid (HB.out.on hm.beh)); clear hm)
      | (go_at_call 40; refine Calls.mono (HTE.out _ HB.out.beh) ?_; rintro e wte ⟨eb, ea, ec, rfl, hml⟩; (have HME := Lib.hid hml); (have HMQ := Lib.hid (HMQ.out.on hml.beh)); (have HB := Lib.hid (HB.out.on hml.beh)); clear hml)
      | (go_at_call 41; refine Calls.mono (HTB.out _ HB.out.beh) ?_; intro e wi hq; obtain ⟨sb, sa, sc, rfl, hown, hb⟩ := OwnS.of (lo := 0) hq (Nat.zero_le _); (have HMS := Lib.hid hown.own.src); (have HME := Lib.hid (HME.out.on hb)); (have HMQ := Lib.hid (HMQ.out.on hb)); (have HB := Lib.hid (HB.out.on hb)); clear hb hown hq; (have HWI0 := Lib.hid (HB.out.lt)); (have HI := Lib.hid (Bh.Bx.one wi (H.zero.obj Hp.none))))
      | (apply Bh.store_bx 10 0 HI.out; rfl; rfl; rfl; rfl; rfl; rfl; kernel_rfl; rfl; rfl; intro wj hz; have HI := Lib.hid hz; (have HB := Lib.hid (HB.out.on hz.beh)); clear hz))
    have HIN : Hid (∀ W, Kv.Beh wi W → HardAt W h q ∧ EntAt W ea ec l ∧ Src W sb sa sc s) := fun W hW => ⟨(HMQ.out.on hW).at_, Made.list (HME.out.on hW), HMS.out.kept (Kept.of_below hW) (fun _ h => h)⟩
    clear HMQ HME HMS HTW HTE HTB
    have G0 := Lib.hid (put_len (h := h) (i := i) (l := l) hl1 hl2 hs1)
    have G1 := Lib.hid (comp_len (h := h) (i := i) (s := s) hl1 hs2)
    have G2 := Lib.hid (inst_len (h := h) (i := i) (t := t) (c := c) (s := s) hl1 hs2)
    have P0 : Hid (∀ W, Kv.Beh wi W → Calls Try.prog 42 #[h.val q, .int .i64 i, .slice ea l.length ec] W (HardTold (h.put i l) (h.putOk i l) W)) := fun W hW => Put_any h q i ea ec l W (HIN.out W hW).1 (HIN.out W hW).2.1 (by omega) (by omega) (by omega)
    have R0 : Hid (∀ W, Kv.Beh w W → Calls Try.prog 43 #[h.val p, .int .i64 i, .slice a l.length cap] W (HardTold (h.put i l) (h.putOk i l) W)) := fun W hW => rPut_any h p i a cap l W (HA1.out.1.on hW) (HA1.out.2.1.below hW) (by omega) (by omega) (by omega)
    have P1 : Hid (∀ W, Kv.Beh wi W → Calls Try.prog 44 #[h.val q, .int .i64 i, .slice sa s.length sc] W (HardTold (h.comp i s) (h.compOk i s) W)) := fun W hW => Compact_any h q i sb sa sc s W (HIN.out W hW).1 (HIN.out W hW).2.2 (by omega) (by omega)
    have R1 : Hid (∀ W, Kv.Beh w W → Calls Try.prog 45 #[h.val p, .int .i64 i, .slice a5 s.length cap5] W (HardTold (h.comp i s) (h.compOk i s) W)) := fun W hW => rCompact_any h p i b a5 cap5 s W (HA1.out.1.on hW) (HA1.out.2.2.kept (Kept.of_below hW) (fun _ h => h)) (by omega) (by omega)
    have P2 : Hid (∀ W, Kv.Beh wi W → Calls Try.prog 46 #[h.val q, .int .i64 i, .int .i64 t, c.val, .slice sa s.length sc] W (HardTold (h.inst i t c s) (h.instOk i t c s) W)) := fun W hW => Install_any h q i t c sb sa sc s W (HIN.out W hW).1 (HIN.out W hW).2.2 (by omega) (by omega)
    have R2 : Hid (∀ W, Kv.Beh w W → Calls Try.prog 47 #[h.val p, .int .i64 i, .int .i64 t, c.val, .slice a5 s.length cap5] W (HardTold (h.inst i t c s) (h.instOk i t c s) W)) := fun W hW => rInstall_any h p i t c b a5 cap5 s W (HA1.out.1.on hW) (HA1.out.2.2.kept (Kept.of_below hW) (fun _ h => h)) (by omega) (by omega)
    have KHI : Hid (∀ W, Kv.Beh wi W → Kv.Beh w W → Calls Try.prog 34 #[h.val q, h.val p] W fun e w' => e = .returned (.bool true) ∧ Below W.heap.size W w') := fun W hW hW2 => keepHard_self h q p W (HIN.out W hW).1 (HA1.out.1.on hW2) (by omega)
    have KEI : Hid (∀ W, Kv.Beh wi W → Kv.Beh w W → Calls Try.prog 27 #[.slice ea l.length ec, .slice a l.length cap] W fun e w' => e = .returned (.bool true) ∧ Below W.heap.size W w') := fun W hW hW2 => keepEnts_self ea ec a cap l W (HIN.out W hW).2.1 (HA1.out.2.1.below hW2)
    have KBI : Hid (∀ W, Kv.Beh wi W → Kv.Beh w W → Calls Try.prog 49 #[.slice sa s.length sc, .slice a5 s.length cap5] W fun e w' => e = .returned (.bool true) ∧ Below W.heap.size W w') := fun W hW hW2 => (Kp.KBytes_any sb sa sc s b a5 cap5 s W (HIN.out W hW).2.2 (HA1.out.2.2.kept (Kept.of_below hW2) (fun _ h => h)) (by omega) (by omega)).mono fun e w' hx => same_bytes hx
    have hwi : w.heap.size + 2 ≤ wi.heap.size := HWI0.out
    clear HIN HA1
    go_loopw [14, 18] (fun e k wr => (k = .int .i64 0 ∨ k = .int .i64 1 ∨ k = .int .i64 2 ∨ k = .int .i64 3) ∧ (∃ x, e = .int .i64 x) ∧ Hid (Bh.Bx w [h.obj p, Lg.C.obj c] wr) ∧ Hid (Bh.Bx wi [h.obj q] wr)) (fun _ k _ => (3 - intOf k).toNat)
    case atStart => exact ⟨.inl rfl, ⟨_, rfl⟩, HB, HI⟩
    case round =>
      obtain ⟨hk, ⟨ec, rfl⟩, HB, HI⟩ := hrel
      have HBr := HB
      have HIr := HI
      have hlo1 : w.heap.size + 2 ≤ wr.heap.size := HB.out.lt
      have hlo2 : wi.heap.size + 1 ≤ wr.heap.size := HI.out.lt
      rcases hk with rfl | rfl | rfl | rfl
      · as_aux_lemma =>
        generalize h.put i l = X at *
        generalize h.putOk i l = cc at *
        have G := G0
        clear P1 P2 R1 R2
        have HN := Lib.hid (Bh.Bx.two wr (H.zero.obj Hp.none) (H.zero.obj Hp.none))
        have HB := Lib.hid (HB.out.on HN.out.beh)
        have HI := Lib.hid (HI.out.on HN.out.beh)
        go_wp2_with (first
          | (go_at_call 42; (with_reducible refine Calls.mono (P0.out _ ?_) ?_); exact HI.out.beh; rintro e wx ⟨xq, rfl, hm⟩; (have HX := Lib.hid (hm.own (lo := wr.heap.size + 2) HN.out.lt)); (have HNb := HN); (have HB := Lib.hid (HB.out.on hm.beh)); (have HI := Lib.hid (HI.out.on hm.beh)); (have HN := Lib.hid (HN.out.on hm.beh)); clear hm)
          | (go_at_call 43; (with_reducible refine Calls.mono (R0.out _ ?_) ?_); exact HB.out.beh; rintro e wy ⟨yq, rfl, hm⟩; (have HY := Lib.hid (hm.own (lo := wr.heap.size + 2) HN.out.lt)); (have HB := Lib.hid (HB.out.on hm.beh)); (have HI := Lib.hid (HI.out.on hm.beh)); (have HN := Lib.hid (HN.out.on hm.beh)); (have HX := Lib.hid (HX.out.on hm.beh)); clear hm)
          | (apply Bh.store_bk 10 0 HN.out; rfl; rfl; rfl; rfl; rfl; rfl; kernel_rfl; rfl; rfl; intro wz hz he; (have HX := Lib.hid (HX.out.els he (by omega))); (have HB := Lib.hid (HB.out.els he (by show w.heap.size + 2 ≤ wr.heap.size + 0; omega))); (have HI := Lib.hid (HI.out.els he (by show wi.heap.size + 1 ≤ wr.heap.size + 0; omega))); have HN := Lib.hid hz; clear hz he)
          | (apply Bh.store_bk 10 1 HN.out; rfl; rfl; rfl; rfl; rfl; rfl; kernel_rfl; rfl; rfl; intro wz hz he; (have HX := Lib.hid (HX.out.els he (by omega))); (have HY := Lib.hid (HY.out.els he (by omega))); (have HB := Lib.hid (HB.out.els he (by show w.heap.size + 2 ≤ wr.heap.size + 1; omega))); (have HI := Lib.hid (HI.out.els he (by show wi.heap.size + 1 ≤ wr.heap.size + 1; omega))); have HN := Lib.hid hz; clear hz he)
          | (go_at_call 34; refine Calls.mono (keepHard_self X xq yq _ HX.out.at_ HY.out.at_ G.out.1) ?_; rintro e wk ⟨rfl, hb⟩; (have HX := Lib.hid (HX.out.on hb)); (have HN := Lib.hid (HN.out.on hb)); clear hb)
          | (go_at_call 48; refine Calls.mono (spoilHard_any X xq wr _ ⟨HX.out.snap.own, Nat.le_trans (Nat.le_add_right _ 2) HX.out.snap.new, HX.out.log.own, Nat.le_trans (Nat.le_add_right _ 2) HX.out.log.new, HN.out.beh⟩ G.out.1 G.out.2) ?_; rintro e ws ⟨rfl, hb⟩; (have HB := Lib.hid (HBr.out.on hb)); (have HI := Lib.hid (HIr.out.on hb)); clear hb)
          | (apply Bh.load_bx 0 HI.out Try.underlying27; rfl; rfl; rfl; rfl; rfl; kernel_rfl)
          | (apply Bh.load_bx 0 HB.out Try.underlying27; rfl; rfl; rfl; rfl; rfl; kernel_rfl)
          | (apply Bh.load_bx 1 HB.out Try.underlying23; rfl; rfl; rfl; rfl; rfl; kernel_rfl)
          | (apply Bh.load_bx 0 HN.out Try.underlying27; rfl; rfl; rfl; rfl; rfl; kernel_rfl)
          | (apply Bh.load_bx 1 HN.out Try.underlying27; rfl; rfl; rfl; rfl; rfl; kernel_rfl))
        go_roundw
        case rel => exact ⟨.inr (.inl rfl), ⟨_, rfl⟩, HB, HI⟩
        case measure => simp [intOf]
      · as_aux_lemma =>
        generalize h.comp i s = X at *
        generalize h.compOk i s = cc at *
        have G := G1
        clear P0 P2 R0 R2
        have HN := Lib.hid (Bh.Bx.two wr (H.zero.obj Hp.none) (H.zero.obj Hp.none))
        have HB := Lib.hid (HB.out.on HN.out.beh)
        have HI := Lib.hid (HI.out.on HN.out.beh)
        go_wp2_with (first
          | (go_at_call 44; (with_reducible refine Calls.mono (P1.out _ ?_) ?_); exact HI.out.beh; rintro e wx ⟨xq, rfl, hm⟩; (have HX := Lib.hid (hm.own (lo := wr.heap.size + 2) HN.out.lt)); (have HNb := HN); (have HB := Lib.hid (HB.out.on hm.beh)); (have HI := Lib.hid (HI.out.on hm.beh)); (have HN := Lib.hid (HN.out.on hm.beh)); clear hm)
          | (go_at_call 45; (with_reducible refine Calls.mono (R1.out _ ?_) ?_); exact HB.out.beh; rintro e wy ⟨yq, rfl, hm⟩; (have HY := Lib.hid (hm.own (lo := wr.heap.size + 2) HN.out.lt)); (have HB := Lib.hid (HB.out.on hm.beh)); (have HI := Lib.hid (HI.out.on hm.beh)); (have HN := Lib.hid (HN.out.on hm.beh)); (have HX := Lib.hid (HX.out.on hm.beh)); clear hm)
          | (apply Bh.store_bk 10 0 HN.out; rfl; rfl; rfl; rfl; rfl; rfl; kernel_rfl; rfl; rfl; intro wz hz he; (have HX := Lib.hid (HX.out.els he (by omega))); (have HB := Lib.hid (HB.out.els he (by show w.heap.size + 2 ≤ wr.heap.size + 0; omega))); (have HI := Lib.hid (HI.out.els he (by show wi.heap.size + 1 ≤ wr.heap.size + 0; omega))); have HN := Lib.hid hz; clear hz he)
          | (apply Bh.store_bk 10 1 HN.out; rfl; rfl; rfl; rfl; rfl; rfl; kernel_rfl; rfl; rfl; intro wz hz he; (have HX := Lib.hid (HX.out.els he (by omega))); (have HY := Lib.hid (HY.out.els he (by omega))); (have HB := Lib.hid (HB.out.els he (by show w.heap.size + 2 ≤ wr.heap.size + 1; omega))); (have HI := Lib.hid (HI.out.els he (by show wi.heap.size + 1 ≤ wr.heap.size + 1; omega))); have HN := Lib.hid hz; clear hz he)
          | (go_at_call 34; refine Calls.mono (keepHard_self X xq yq _ HX.out.at_ HY.out.at_ G.out.1) ?_; rintro e wk ⟨rfl, hb⟩; (have HX := Lib.hid (HX.out.on hb)); (have HN := Lib.hid (HN.out.on hb)); clear hb)
          | (go_at_call 48; refine Calls.mono (spoilHard_any X xq wr _ ⟨HX.out.snap.own, Nat.le_trans (Nat.le_add_right _ 2) HX.out.snap.new, HX.out.log.own, Nat.le_trans (Nat.le_add_right _ 2) HX.out.log.new, HN.out.beh⟩ G.out.1 G.out.2) ?_; rintro e ws ⟨rfl, hb⟩; (have HB := Lib.hid (HBr.out.on hb)); (have HI := Lib.hid (HIr.out.on hb)); clear hb)
          | (apply Bh.load_bx 0 HI.out Try.underlying27; rfl; rfl; rfl; rfl; rfl; kernel_rfl)
          | (apply Bh.load_bx 0 HB.out Try.underlying27; rfl; rfl; rfl; rfl; rfl; kernel_rfl)
          | (apply Bh.load_bx 1 HB.out Try.underlying23; rfl; rfl; rfl; rfl; rfl; kernel_rfl)
          | (apply Bh.load_bx 0 HN.out Try.underlying27; rfl; rfl; rfl; rfl; rfl; kernel_rfl)
          | (apply Bh.load_bx 1 HN.out Try.underlying27; rfl; rfl; rfl; rfl; rfl; kernel_rfl))
        go_roundw
        case rel => exact ⟨.inr (.inr (.inl rfl)), ⟨_, rfl⟩, HB, HI⟩
        case measure => simp [intOf]
      · as_aux_lemma =>
        generalize h.inst i t c s = X at *
        generalize h.instOk i t c s = cc at *
        have G := G2
        clear P0 P1 R0 R1
        have HN := Lib.hid (Bh.Bx.two wr (H.zero.obj Hp.none) (H.zero.obj Hp.none))
        have HB := Lib.hid (HB.out.on HN.out.beh)
        have HI := Lib.hid (HI.out.on HN.out.beh)
        go_wp2_with (first
          | (go_at_call 46; (with_reducible refine Calls.mono (P2.out _ ?_) ?_); exact HI.out.beh; rintro e wx ⟨xq, rfl, hm⟩; (have HX := Lib.hid (hm.own (lo := wr.heap.size + 2) HN.out.lt)); (have HNb := HN); (have HB := Lib.hid (HB.out.on hm.beh)); (have HI := Lib.hid (HI.out.on hm.beh)); (have HN := Lib.hid (HN.out.on hm.beh)); clear hm)
          | (go_at_call 47; (with_reducible refine Calls.mono (R2.out _ ?_) ?_); exact HB.out.beh; rintro e wy ⟨yq, rfl, hm⟩; (have HY := Lib.hid (hm.own (lo := wr.heap.size + 2) HN.out.lt)); (have HB := Lib.hid (HB.out.on hm.beh)); (have HI := Lib.hid (HI.out.on hm.beh)); (have HN := Lib.hid (HN.out.on hm.beh)); (have HX := Lib.hid (HX.out.on hm.beh)); clear hm)
          | (apply Bh.store_bk 10 0 HN.out; rfl; rfl; rfl; rfl; rfl; rfl; kernel_rfl; rfl; rfl; intro wz hz he; (have HX := Lib.hid (HX.out.els he (by omega))); (have HB := Lib.hid (HB.out.els he (by show w.heap.size + 2 ≤ wr.heap.size + 0; omega))); (have HI := Lib.hid (HI.out.els he (by show wi.heap.size + 1 ≤ wr.heap.size + 0; omega))); have HN := Lib.hid hz; clear hz he)
          | (apply Bh.store_bk 10 1 HN.out; rfl; rfl; rfl; rfl; rfl; rfl; kernel_rfl; rfl; rfl; intro wz hz he; (have HX := Lib.hid (HX.out.els he (by omega))); (have HY := Lib.hid (HY.out.els he (by omega))); (have HB := Lib.hid (HB.out.els he (by show w.heap.size + 2 ≤ wr.heap.size + 1; omega))); (have HI := Lib.hid (HI.out.els he (by show wi.heap.size + 1 ≤ wr.heap.size + 1; omega))); have HN := Lib.hid hz; clear hz he)
          | (go_at_call 34; refine Calls.mono (keepHard_self X xq yq _ HX.out.at_ HY.out.at_ G.out.1) ?_; rintro e wk ⟨rfl, hb⟩; (have HX := Lib.hid (HX.out.on hb)); (have HN := Lib.hid (HN.out.on hb)); clear hb)
          | (go_at_call 48; refine Calls.mono (spoilHard_any X xq wr _ ⟨HX.out.snap.own, Nat.le_trans (Nat.le_add_right _ 2) HX.out.snap.new, HX.out.log.own, Nat.le_trans (Nat.le_add_right _ 2) HX.out.log.new, HN.out.beh⟩ G.out.1 G.out.2) ?_; rintro e ws ⟨rfl, hb⟩; (have HB := Lib.hid (HBr.out.on hb)); (have HI := Lib.hid (HIr.out.on hb)); clear hb)
          | (apply Bh.load_bx 0 HI.out Try.underlying27; rfl; rfl; rfl; rfl; rfl; kernel_rfl)
          | (apply Bh.load_bx 0 HB.out Try.underlying27; rfl; rfl; rfl; rfl; rfl; kernel_rfl)
          | (apply Bh.load_bx 1 HB.out Try.underlying23; rfl; rfl; rfl; rfl; rfl; kernel_rfl)
          | (apply Bh.load_bx 0 HN.out Try.underlying27; rfl; rfl; rfl; rfl; rfl; kernel_rfl)
          | (apply Bh.load_bx 1 HN.out Try.underlying27; rfl; rfl; rfl; rfl; rfl; kernel_rfl))
        go_roundw
        case rel => exact ⟨.inr (.inr (.inr rfl)), ⟨_, rfl⟩, HB, HI⟩
        case measure => simp [intOf]
      · as_aux_lemma =>
        (obtain ⟨c0, c1, c2, c3, c4, c5, c6, c7, c8, c9⟩ := cells10h (h := h) (p := p) HB.out.b0)
        (obtain ⟨y0, y1, y2, y3, y4, y5, y6, y7, y8, y9⟩ := cells10h (h := h) (p := q) HI.out.b0)
        go_wp2_with (first
          | (apply Bh.load_bx 0 HI.out Try.underlying27; rfl; rfl; rfl; rfl; rfl; kernel_rfl)
          | (apply Bh.load_bx 0 HB.out Try.underlying27; rfl; rfl; rfl; rfl; rfl; kernel_rfl)
          | (go_at_call 34; refine Calls.mono (KHI.out _ HI.out.beh HB.out.beh) ?_; rintro e wk ⟨rfl, hb⟩; (have HB := Lib.hid (HB.out.on hb)); (have HI := Lib.hid (HI.out.on hb)); clear hb; (obtain ⟨c0, c1, c2, c3, c4, c5, c6, c7, c8, c9⟩ := cells10h (h := h) (p := p) HB.out.b0); (obtain ⟨y0, y1, y2, y3, y4, y5, y6, y7, y8, y9⟩ := cells10h (h := h) (p := q) HI.out.b0))
          | (go_at_call 27; refine Calls.mono (KEI.out _ HI.out.beh HB.out.beh) ?_; rintro e wk ⟨rfl, hb⟩; (have HB := Lib.hid (HB.out.on hb)); (have HI := Lib.hid (HI.out.on hb)); clear hb; (obtain ⟨c0, c1, c2, c3, c4, c5, c6, c7, c8, c9⟩ := cells10h (h := h) (p := p) HB.out.b0); (obtain ⟨y0, y1, y2, y3, y4, y5, y6, y7, y8, y9⟩ := cells10h (h := h) (p := q) HI.out.b0))
          | (go_at_call 49; refine Calls.mono (KBI.out _ HI.out.beh HB.out.beh) ?_; rintro e wk ⟨rfl, hb⟩; (have HB := Lib.hid (HB.out.on hb)); (have HI := Lib.hid (HI.out.on hb)); clear hb; (obtain ⟨c0, c1, c2, c3, c4, c5, c6, c7, c8, c9⟩ := cells10h (h := h) (p := p) HB.out.b0); (obtain ⟨y0, y1, y2, y3, y4, y5, y6, y7, y8, y9⟩ := cells10h (h := h) (p := q) HI.out.b0))
          | (go_at_call 35; refine ((HWK _).out).mono ?_; rintro e wy ⟨rfl, hb⟩; (have HB := Lib.hid (HB.out.on hb)); clear hb))
        go_ret
        exact ⟨rfl, HB.out.beh⟩
end Go.Proofs.Ytaifjkilmdnfbaa.Lg
