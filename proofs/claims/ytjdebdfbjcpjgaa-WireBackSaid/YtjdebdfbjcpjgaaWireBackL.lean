import Derived.Test.YtjdebdfbjcpjgaaWireCutP
import Derived.Test.YtjdebdfbjcpjgaaWireHm
import Derived.Test.YtjdebdfbjcpjgaaWireKM
import Derived.Test.YtjdebdfbjcpjgaaMergeWrHv
import Derived.Test.YtjdebdfbjcpjgaaWireMsgL
/- The law WireBack. -/
namespace Go.Proofs.Ytjdebdfbjcpjgaa.Wr
open Go Go.RowKit Vl Kv Ss Cn Lg Nm Mem
attribute [local go_sem] Nm.run_bits Nm.run_frombits run_store_float
theorem Rd_E {x : E} {w : World} {b cap : Nat} {a : Option Addr} (o : cEnt.ok x) (hl : (cEnt.enc x).length ≤ 16384) (ho : OwnB 5 w b a cap (cEnt.enc x)) :
    Calls Try.prog 14 #[.slice a (cEnt.enc x).length cap] w fun e w' => e = .returned (.tuple #[x.agg, .int .i64 0]) ∧ Below w.heap.size w w' :=
  (ReadEntry_any ho.src (cEnt_B x o) (by omega)).mono fun e w' h => by
    obtain ⟨h1, h2⟩ := h
    rw [all_enc cEnt o hl] at h2
    exact ⟨h2, h1⟩
theorem Rd_H {h : H} {w : World} {b cap : Nat} {a : Option Addr} (o : cHard.ok h) (hl : (cHard.enc h).length ≤ 16384) (ho : OwnB 5 w b a cap (cHard.enc h)) :
    Calls Try.prog 22 #[.slice a (cHard.enc h).length cap] w fun e w' => ∃ p2, e = .returned (.tuple #[h.val p2, .int .i64 0]) ∧ HardAt w' h p2 ∧ Below w.heap.size w w' :=
  (ReadHard_any ho.src (cHard_B h o) (by omega)).mono fun e w' hx => by
    obtain ⟨h1, h2⟩ := hx
    rw [all_enc cHard o hl] at h2
    obtain ⟨p2, h3, h4⟩ := h2
    exact ⟨p2, h3, h4.hard, h1⟩
theorem Rd_M {x : Mr} {L : List Mr} {w : World} {b cap : Nat} {a : Option Addr} (o : okM x L) (hl : (cMsg.enc (me x L)).length ≤ 16384) (ho : OwnB 5 w b a cap (cMsg.enc (me x L))) :
    Calls Try.prog 28 #[.slice a (cMsg.enc (me x L)).length cap] w fun e w' => ∃ p2 LM, e = .returned (.tuple #[Mr.val (x.1, p2), .int .i64 0]) ∧ MsgAt w' (x.1, p2) LM ∧ LM.map Prod.fst = L.map Prod.fst ∧ (∀ k, k < LM.length → (LM.getD k Mr.zero).2.n = (L.getD k Mr.zero).2.n) ∧ Below w.heap.size w w' :=
  (ReadMsg_any ho.src (cMsg_B _ o.1) (by omega)).mono fun e w' hx => by
    obtain ⟨h1, h2⟩ := hx
    rw [all_enc cMsg o.1 hl] at h2
    obtain ⟨p2, LM, h3, h4, h5⟩ := h2
    have h4 : LM.map Prod.fst = L.map Prod.fst := h4
    refine ⟨p2, LM, h3, h5.msg, h4, fun k hk => ?_, h1⟩
    have hl2 := fst_len h4
    rw [h5.zero _ (getD_in hk), o.2 _ (getD_in (k := k) (by omega))]
theorem fst_all {L M : List Mr} (h : L.map Prod.fst = M.map Prod.fst) : (∀ y ∈ L, y.1.snap.length ≤ 100000) = (∀ f ∈ M.map Prod.fst, f.snap.length ≤ 100000) := by
  rw [← h]
  exact propext ⟨fun hL f hf => by obtain ⟨y, hy, rfl⟩ := List.mem_map.1 hf; exact hL y hy, fun hL y hy => hL _ (List.mem_map_of_mem hy)⟩
set_option maxHeartbeats 25600000 in
set_option maxRecDepth 100000 in
theorem WireBack_law (e0 : E) (h : H) (p : Hp) (x : Mr) (L : List Mr) (w : World) (re : RE e0) (hh : HardAt w h p) (rh : RH h) (hm : MsgIn w x L) (rx : RF x.1) (rl : ∀ y ∈ L, RF y.1) :
    Calls Try.prog 5 #[e0.agg, h.val p, x.val] w fun e w' => e = .returned (.bool true) ∧ Below w.heap.size w w' := by
  have HB := Lib.hid (Bh.Bx.three w (E.obj e0) (h.obj p) x.obj)
  have HWK := fun w => Lib.hid (wakes_any w)
  have HV0 : Hid (Calls Try.prog 10 #[.slice (some ⟨w.heap.size + 1 + 1 + 1, 0, none⟩) 1 1] ((((w.alloc (E.obj e0)).alloc (h.obj p)).alloc x.obj).alloc (E.obj e0)) fun e w' => e = .returned (.bool e0.call.cmd.heavy) ∧ Bh.Bx w [E.obj e0, h.obj p, x.obj] w') := by
    have hz : (((w.alloc (E.obj e0)).alloc (h.obj p)).alloc x.obj).heap.size = w.heap.size + 1 + 1 + 1 := by rw [size_alloc, size_alloc, size_alloc]
    have h1 := heavyEnts_any (some ⟨w.heap.size + 1 + 1 + 1, 0, none⟩) 1 [e0] ((((w.alloc (E.obj e0)).alloc (h.obj p)).alloc x.obj).alloc (E.obj e0)) (Li.lit_list (L := [e0]) (by rw [← hz]; exact Bh.alloc_here _ rfl) rfl (by simp))
    have e1 : heavyL [e0] = e0.call.cmd.heavy := by unfold heavyL; simp
    rw [e1] at h1
    exact h1.mono fun e w' ⟨h2, h3⟩ => ⟨h2, (HB.out.alloc _).on h3⟩
  have HV1 : Hid (∀ W, Kv.Beh w W → Calls Try.prog 18 #[h.val p] W fun e w' => e = .returned (.bool (heavyL h.log || decide (32768 < (h.snap.length : Int)))) ∧ Below W.heap.size W w') := fun W hW => Lg.heavy_any h p W (hh.on hW)
  have HV2 : Hid (∀ W, Kv.Beh w W → Calls Try.prog 26 #[x.val] W (HvTold x L W)) := fun W hW => heavyMsg_any x L W (hm.on hW)
  cases k0 : e0.call.cmd.heavy
  case true =>
    rw [k0] at HV0
    clear hh hm
    (obtain ⟨s0, s1, s2, s3, s4, s5, s6, s7, s8, s9, s10, s11, s12, s13, s14, s15⟩ := Lg.cells16 (show _ = some (E.obj e0) from HB.out.b0)); (obtain ⟨c0, c1, c2, c3, c4, c5, c6, c7, c8, c9⟩ := cells10h (h := h) (p := p) HB.out.b1); (obtain ⟨d0, d1, d2, d3, d4, d5, d6, d7, d8, d9, d10, d11, d12, d13, d14, d15⟩ := cells16m (x := x) HB.out.b2)
    go_enter Try.func5, Try.ntmps5
    go_wp2_with (first | (go_at_call 10; refine Calls.mono HV0.out ?_; rintro e wy ⟨rfl, hb⟩; (have HB := Lib.hid hb); clear hb; (obtain ⟨s0, s1, s2, s3, s4, s5, s6, s7, s8, s9, s10, s11, s12, s13, s14, s15⟩ := Lg.cells16 (show _ = some (E.obj e0) from HB.out.b0)); (obtain ⟨c0, c1, c2, c3, c4, c5, c6, c7, c8, c9⟩ := cells10h (h := h) (p := p) HB.out.b1); (obtain ⟨d0, d1, d2, d3, d4, d5, d6, d7, d8, d9, d10, d11, d12, d13, d14, d15⟩ := cells16m (x := x) HB.out.b2)) | (apply Bh.load_bx 0 HB.out Try.underlying32; rfl; rfl; rfl; rfl; rfl; kernel_rfl) | (apply Bh.load_bx 1 HB.out Try.underlying48; rfl; rfl; rfl; rfl; rfl; kernel_rfl) | (apply Bh.load_bx 2 HB.out Try.underlying61; rfl; rfl; rfl; rfl; rfl; kernel_rfl))
    go_ret
    exact ⟨rfl, HB.out.beh⟩
  rw [k0] at HV0
  cases k1 : (heavyL h.log || decide (32768 < (h.snap.length : Int)))
  case true =>
    rw [k1] at HV1
    clear hh hm
    (obtain ⟨s0, s1, s2, s3, s4, s5, s6, s7, s8, s9, s10, s11, s12, s13, s14, s15⟩ := Lg.cells16 (show _ = some (E.obj e0) from HB.out.b0)); (obtain ⟨c0, c1, c2, c3, c4, c5, c6, c7, c8, c9⟩ := cells10h (h := h) (p := p) HB.out.b1); (obtain ⟨d0, d1, d2, d3, d4, d5, d6, d7, d8, d9, d10, d11, d12, d13, d14, d15⟩ := cells16m (x := x) HB.out.b2)
    go_enter Try.func5, Try.ntmps5
    go_wp2_with (first | (go_at_call 10; refine Calls.mono HV0.out ?_; rintro e wy ⟨rfl, hb⟩; (have HB := Lib.hid hb); clear hb; (obtain ⟨s0, s1, s2, s3, s4, s5, s6, s7, s8, s9, s10, s11, s12, s13, s14, s15⟩ := Lg.cells16 (show _ = some (E.obj e0) from HB.out.b0)); (obtain ⟨c0, c1, c2, c3, c4, c5, c6, c7, c8, c9⟩ := cells10h (h := h) (p := p) HB.out.b1); (obtain ⟨d0, d1, d2, d3, d4, d5, d6, d7, d8, d9, d10, d11, d12, d13, d14, d15⟩ := cells16m (x := x) HB.out.b2)) | (go_at_call 18; refine Calls.mono (HV1.out _ HB.out.beh) ?_; rintro e wy ⟨rfl, hb⟩; (have HB := Lib.hid (HB.out.on hb)); clear hb; (obtain ⟨s0, s1, s2, s3, s4, s5, s6, s7, s8, s9, s10, s11, s12, s13, s14, s15⟩ := Lg.cells16 (show _ = some (E.obj e0) from HB.out.b0)); (obtain ⟨c0, c1, c2, c3, c4, c5, c6, c7, c8, c9⟩ := cells10h (h := h) (p := p) HB.out.b1); (obtain ⟨d0, d1, d2, d3, d4, d5, d6, d7, d8, d9, d10, d11, d12, d13, d14, d15⟩ := cells16m (x := x) HB.out.b2)) | (apply Bh.load_bx 0 HB.out Try.underlying32; rfl; rfl; rfl; rfl; rfl; kernel_rfl) | (apply Bh.load_bx 1 HB.out Try.underlying48; rfl; rfl; rfl; rfl; rfl; kernel_rfl) | (apply Bh.load_bx 2 HB.out Try.underlying61; rfl; rfl; rfl; rfl; rfl; kernel_rfl))
    go_ret
    exact ⟨rfl, HB.out.beh⟩
  rw [Bool.or_eq_false_iff] at k1
  have hsn : h.snap.length ≤ 32768 := by have := of_decide_eq_false k1.2; omega
  have hfit := rh.fit k1.1 hsn
  rw [k1.1, k1.2] at HV1
  have HTE : Hid (∀ W, Kv.Beh w W → Calls Try.prog 11 #[e0.agg] W (Told (cEnt.ok e0) (cEnt.enc e0) W)) := fun W _ => Entry_told (re.fit k0) W
  have HTH : Hid (∀ W, Kv.Beh w W → Calls Try.prog 19 #[h.val p] W (Told (cHard.ok h) (cHard.enc h) W)) := fun W hW => Hard_told (hh.on hW) hfit
  have HTM : Hid (Light x L → ∀ W, Kv.Beh w W → Calls Try.prog 27 #[x.val] W (Told (okM x L) (cMsg.enc (me x L)) W)) := fun hl W hW => Msg_told (hm.on hW).at_ (hl.fit hm rx rl)
  have HIN : Hid (HardAt w h p ∧ MsgIn w x L ∧ h.snap.length ≤ 100000) := ⟨hh, hm, by omega⟩
  clear hh hm k0 k1 hfit hsn
  (obtain ⟨s0, s1, s2, s3, s4, s5, s6, s7, s8, s9, s10, s11, s12, s13, s14, s15⟩ := Lg.cells16 (show _ = some (E.obj e0) from HB.out.b0)); (obtain ⟨c0, c1, c2, c3, c4, c5, c6, c7, c8, c9⟩ := cells10h (h := h) (p := p) HB.out.b1); (obtain ⟨d0, d1, d2, d3, d4, d5, d6, d7, d8, d9, d10, d11, d12, d13, d14, d15⟩ := cells16m (x := x) HB.out.b2)
  go_enter Try.func5, Try.ntmps5
  go_wp2_with (first | (go_at_call 10; refine Calls.mono HV0.out ?_; rintro e wy ⟨rfl, hb⟩; (have HB := Lib.hid hb); clear hb; (obtain ⟨s0, s1, s2, s3, s4, s5, s6, s7, s8, s9, s10, s11, s12, s13, s14, s15⟩ := Lg.cells16 (show _ = some (E.obj e0) from HB.out.b0)); (obtain ⟨c0, c1, c2, c3, c4, c5, c6, c7, c8, c9⟩ := cells10h (h := h) (p := p) HB.out.b1); (obtain ⟨d0, d1, d2, d3, d4, d5, d6, d7, d8, d9, d10, d11, d12, d13, d14, d15⟩ := cells16m (x := x) HB.out.b2)) | (go_at_call 18; refine Calls.mono (HV1.out _ HB.out.beh) ?_; rintro e wy ⟨rfl, hb⟩; (have HB := Lib.hid (HB.out.on hb)); clear hb; (obtain ⟨s0, s1, s2, s3, s4, s5, s6, s7, s8, s9, s10, s11, s12, s13, s14, s15⟩ := Lg.cells16 (show _ = some (E.obj e0) from HB.out.b0)); (obtain ⟨c0, c1, c2, c3, c4, c5, c6, c7, c8, c9⟩ := cells10h (h := h) (p := p) HB.out.b1); (obtain ⟨d0, d1, d2, d3, d4, d5, d6, d7, d8, d9, d10, d11, d12, d13, d14, d15⟩ := cells16m (x := x) HB.out.b2)) | (apply Bh.load_bx 0 HB.out Try.underlying32; rfl; rfl; rfl; rfl; rfl; kernel_rfl) | (apply Bh.load_bx 1 HB.out Try.underlying48; rfl; rfl; rfl; rfl; rfl; kernel_rfl) | (apply Bh.load_bx 2 HB.out Try.underlying61; rfl; rfl; rfl; rfl; rfl; kernel_rfl))
  refine Calls.mono (HV2.out _ HB.out.beh) ?_
  rintro e wv ⟨q, rfl, hb, hq⟩
  have HB := Lib.hid (HB.out.on hb)
  clear hb
  cases q
  case true =>
    clear hq
    go_wp2_with fail
    go_ret
    exact ⟨rfl, HB.out.beh⟩
  have HTM := Lib.hid (HTM.out (hq rfl))
  have HLG : Hid (x.1.snap.length ≤ 100000 ∧ ∀ f ∈ L.map Prod.fst, f.snap.length ≤ 100000) := ⟨by have := (heavyF_no (hq rfl).self).2; omega, fun f hf => by
    obtain ⟨y, hy, rfl⟩ := List.mem_map.1 hf
    have := (heavyF_no ((hq rfl).all y hy).1).2
    omega⟩
  clear hq s0 s1 s2 s3 s4 s5 s6 s7 s8 s9 s10 s11 s12 s13 s14 s15 c0 c1 c2 c3 c4 c5 c6 c7 c8 c9 d0 d1 d2 d3 d4 d5 d6 d7 d8 d9 d10 d11 d12 d13 d14 d15 HV0 HV1 HV2
  (obtain ⟨s0, s1, s2, s3, s4, s5, s6, s7, s8, s9, s10, s11, s12, s13, s14, s15⟩ := Lg.cells16 (show _ = some (E.obj e0) from HB.out.b0)); (obtain ⟨c0, c1, c2, c3, c4, c5, c6, c7, c8, c9⟩ := cells10h (h := h) (p := p) HB.out.b1); (obtain ⟨d0, d1, d2, d3, d4, d5, d6, d7, d8, d9, d10, d11, d12, d13, d14, d15⟩ := cells16m (x := x) HB.out.b2)
  go_wp2_with (first | (apply Bh.load_bx 0 HB.out Try.underlying32; rfl; rfl; rfl; rfl; rfl; kernel_rfl) | (apply Bh.load_bx 1 HB.out Try.underlying48; rfl; rfl; rfl; rfl; rfl; kernel_rfl) | (apply Bh.load_bx 2 HB.out Try.underlying61; rfl; rfl; rfl; rfl; rfl; kernel_rfl))
  refine Calls.mono (HTE.out _ HB.out.beh) ?_
  rintro e w1 ⟨hb, hx⟩
  have HB := Lib.hid (HB.out.on hb)
  clear hb
  (obtain ⟨s0, s1, s2, s3, s4, s5, s6, s7, s8, s9, s10, s11, s12, s13, s14, s15⟩ := Lg.cells16 (show _ = some (E.obj e0) from HB.out.b0)); (obtain ⟨c0, c1, c2, c3, c4, c5, c6, c7, c8, c9⟩ := cells10h (h := h) (p := p) HB.out.b1); (obtain ⟨d0, d1, d2, d3, d4, d5, d6, d7, d8, d9, d10, d11, d12, d13, d14, d15⟩ := cells16m (x := x) HB.out.b2)
  rcases hx with ⟨ok, hl, b, a, cap, rfl, ho, _⟩ | ⟨_, c, hc, rfl⟩
  rotate_left
  focus
    have b1 : (c == 0) = false := beq_eq_false_iff_ne.2 hc
    clear hc
    go_wp2_with (first | (apply Bh.load_bx 0 HB.out Try.underlying32; rfl; rfl; rfl; rfl; rfl; kernel_rfl) | (apply Bh.load_bx 1 HB.out Try.underlying48; rfl; rfl; rfl; rfl; rfl; kernel_rfl) | (apply Bh.load_bx 2 HB.out Try.underlying61; rfl; rfl; rfl; rfl; rfl; kernel_rfl))
  rotate_left
  focus
    have HRX := Lib.hid (fun W (hW : Kv.Beh w1 W) => Rd_E ok hl (ho.kept (kept_beh hW) (fun _ h => h.elim)))
    clear ok hl ho
    generalize (cEnt.enc e0).length = nb at *
    go_wp2_with fail
    refine Calls.mono (HRX.out _ (Beh.start _)) ?_
    rintro e w2 ⟨rfl, hb⟩
    have HKX := Lib.hid (fun W (_ : Kv.Beh w2 W) (_ : Kv.Beh w W) => keepEntry_self e0 W)
    have HB := Lib.hid (HB.out.on hb)
    have HX := Lib.hid (Bh.Bx.one w2 E.zero.obj)
    clear hb HRX s0 s1 s2 s3 s4 s5 s6 s7 s8 s9 s10 s11 s12 s13 s14 s15 c0 c1 c2 c3 c4 c5 c6 c7 c8 c9 d0 d1 d2 d3 d4 d5 d6 d7 d8 d9 d10 d11 d12 d13 d14 d15
    (obtain ⟨s0, s1, s2, s3, s4, s5, s6, s7, s8, s9, s10, s11, s12, s13, s14, s15⟩ := Lg.cells16 (show _ = some (E.obj e0) from HB.out.b0)); (obtain ⟨c0, c1, c2, c3, c4, c5, c6, c7, c8, c9⟩ := cells10h (h := h) (p := p) HB.out.b1); (obtain ⟨d0, d1, d2, d3, d4, d5, d6, d7, d8, d9, d10, d11, d12, d13, d14, d15⟩ := cells16m (x := x) HB.out.b2)
    go_wp2_with (first
      | (apply Bh.store_bx 16 0 HX.out; rfl; rfl; rfl; rfl; rfl; rfl; kernel_rfl; rfl; rfl; intro wz hz; have HX := Lib.hid hz; clear hz; have HB := Lib.hid (HB.out.on HX.out.beh); (obtain ⟨s0, s1, s2, s3, s4, s5, s6, s7, s8, s9, s10, s11, s12, s13, s14, s15⟩ := Lg.cells16 (show _ = some (E.obj e0) from HB.out.b0)); (obtain ⟨c0, c1, c2, c3, c4, c5, c6, c7, c8, c9⟩ := cells10h (h := h) (p := p) HB.out.b1); (obtain ⟨d0, d1, d2, d3, d4, d5, d6, d7, d8, d9, d10, d11, d12, d13, d14, d15⟩ := cells16m (x := x) HB.out.b2); (obtain ⟨g0, g1, g2, g3, g4, g5, g6, g7, g8, g9, g10, g11, g12, g13, g14, g15⟩ := Lg.cells16 (show _ = some (E.obj e0) from HX.out.b0)))
      | (go_at_call 16; refine Calls.mono (HKX.out _ HX.out.beh HB.out.beh) ?_; rintro e wk ⟨rfl, hb⟩; (have HB := Lib.hid (HB.out.on hb)); clear hb; (obtain ⟨s0, s1, s2, s3, s4, s5, s6, s7, s8, s9, s10, s11, s12, s13, s14, s15⟩ := Lg.cells16 (show _ = some (E.obj e0) from HB.out.b0)); (obtain ⟨c0, c1, c2, c3, c4, c5, c6, c7, c8, c9⟩ := cells10h (h := h) (p := p) HB.out.b1); (obtain ⟨d0, d1, d2, d3, d4, d5, d6, d7, d8, d9, d10, d11, d12, d13, d14, d15⟩ := cells16m (x := x) HB.out.b2))
      | (apply Bh.load_bx 0 HB.out Try.underlying32; rfl; rfl; rfl; rfl; rfl; kernel_rfl)
      | (apply Bh.load_bx 1 HB.out Try.underlying48; rfl; rfl; rfl; rfl; rfl; kernel_rfl)
      | (apply Bh.load_bx 2 HB.out Try.underlying61; rfl; rfl; rfl; rfl; rfl; kernel_rfl))
    clear HX HKX
  all_goals as_aux_lemma =>
    refine Calls.mono (HTH.out _ HB.out.beh) ?_
    rintro e w1 ⟨hb, hx⟩
    have HB := Lib.hid (HB.out.on hb)
    clear hb
    (obtain ⟨s0, s1, s2, s3, s4, s5, s6, s7, s8, s9, s10, s11, s12, s13, s14, s15⟩ := Lg.cells16 (show _ = some (E.obj e0) from HB.out.b0)); (obtain ⟨c0, c1, c2, c3, c4, c5, c6, c7, c8, c9⟩ := cells10h (h := h) (p := p) HB.out.b1); (obtain ⟨d0, d1, d2, d3, d4, d5, d6, d7, d8, d9, d10, d11, d12, d13, d14, d15⟩ := cells16m (x := x) HB.out.b2)
    rcases hx with ⟨ok, hl, b, a, cap, rfl, ho, _⟩ | ⟨_, c, hc, rfl⟩
    rotate_left
    focus
      have b1 : (c == 0) = false := beq_eq_false_iff_ne.2 hc
      clear hc
      go_wp2_with (first | (apply Bh.load_bx 0 HB.out Try.underlying32; rfl; rfl; rfl; rfl; rfl; kernel_rfl) | (apply Bh.load_bx 1 HB.out Try.underlying48; rfl; rfl; rfl; rfl; rfl; kernel_rfl) | (apply Bh.load_bx 2 HB.out Try.underlying61; rfl; rfl; rfl; rfl; rfl; kernel_rfl))
    rotate_left
    focus
      have HRX := Lib.hid (fun W (hW : Kv.Beh w1 W) => Rd_H ok hl (ho.kept (kept_beh hW) (fun _ h => h.elim)))
      clear ok hl ho
      generalize (cHard.enc h).length = nb at *
      go_wp2_with fail
      refine Calls.mono (HRX.out _ (Beh.start _)) ?_
      rintro e w2 ⟨p2, rfl, hh2, hb⟩
      have HKX : Hid (∀ W, Kv.Beh w2 W → Kv.Beh w W → Calls Try.prog 25 #[h.val p2, h.val p] W fun e w' => e = .returned (.bool true) ∧ Below W.heap.size W w') := fun W h1 h2 => keepHard_self h p2 p W (hh2.on h1) (HIN.out.1.on h2) HIN.out.2.2
      clear hh2
      have HB := Lib.hid (HB.out.on hb)
      have HX := Lib.hid (Bh.Bx.one w2 (H.zero.obj Hp.none))
      clear hb HRX s0 s1 s2 s3 s4 s5 s6 s7 s8 s9 s10 s11 s12 s13 s14 s15 c0 c1 c2 c3 c4 c5 c6 c7 c8 c9 d0 d1 d2 d3 d4 d5 d6 d7 d8 d9 d10 d11 d12 d13 d14 d15
      (obtain ⟨s0, s1, s2, s3, s4, s5, s6, s7, s8, s9, s10, s11, s12, s13, s14, s15⟩ := Lg.cells16 (show _ = some (E.obj e0) from HB.out.b0)); (obtain ⟨c0, c1, c2, c3, c4, c5, c6, c7, c8, c9⟩ := cells10h (h := h) (p := p) HB.out.b1); (obtain ⟨d0, d1, d2, d3, d4, d5, d6, d7, d8, d9, d10, d11, d12, d13, d14, d15⟩ := cells16m (x := x) HB.out.b2)
      go_wp2_with (first
        | (apply Bh.store_bx 10 0 HX.out; rfl; rfl; rfl; rfl; rfl; rfl; kernel_rfl; rfl; rfl; intro wz hz; have HX := Lib.hid hz; clear hz; have HB := Lib.hid (HB.out.on HX.out.beh); (obtain ⟨s0, s1, s2, s3, s4, s5, s6, s7, s8, s9, s10, s11, s12, s13, s14, s15⟩ := Lg.cells16 (show _ = some (E.obj e0) from HB.out.b0)); (obtain ⟨c0, c1, c2, c3, c4, c5, c6, c7, c8, c9⟩ := cells10h (h := h) (p := p) HB.out.b1); (obtain ⟨d0, d1, d2, d3, d4, d5, d6, d7, d8, d9, d10, d11, d12, d13, d14, d15⟩ := cells16m (x := x) HB.out.b2); (obtain ⟨g0, g1, g2, g3, g4, g5, g6, g7, g8, g9⟩ := cells10h (h := h) (p := p2) HX.out.b0))
        | (go_at_call 25; refine Calls.mono (HKX.out _ HX.out.beh HB.out.beh) ?_; rintro e wk ⟨rfl, hb⟩; (have HB := Lib.hid (HB.out.on hb)); clear hb; (obtain ⟨s0, s1, s2, s3, s4, s5, s6, s7, s8, s9, s10, s11, s12, s13, s14, s15⟩ := Lg.cells16 (show _ = some (E.obj e0) from HB.out.b0)); (obtain ⟨c0, c1, c2, c3, c4, c5, c6, c7, c8, c9⟩ := cells10h (h := h) (p := p) HB.out.b1); (obtain ⟨d0, d1, d2, d3, d4, d5, d6, d7, d8, d9, d10, d11, d12, d13, d14, d15⟩ := cells16m (x := x) HB.out.b2))
        | (apply Bh.load_bx 0 HB.out Try.underlying32; rfl; rfl; rfl; rfl; rfl; kernel_rfl)
        | (apply Bh.load_bx 1 HB.out Try.underlying48; rfl; rfl; rfl; rfl; rfl; kernel_rfl)
        | (apply Bh.load_bx 2 HB.out Try.underlying61; rfl; rfl; rfl; rfl; rfl; kernel_rfl))
      clear HX HKX
    all_goals as_aux_lemma =>
      refine Calls.mono (HTM.out _ HB.out.beh) ?_
      rintro e w1 ⟨hb, hx⟩
      have HB := Lib.hid (HB.out.on hb)
      clear hb
      (obtain ⟨s0, s1, s2, s3, s4, s5, s6, s7, s8, s9, s10, s11, s12, s13, s14, s15⟩ := Lg.cells16 (show _ = some (E.obj e0) from HB.out.b0)); (obtain ⟨c0, c1, c2, c3, c4, c5, c6, c7, c8, c9⟩ := cells10h (h := h) (p := p) HB.out.b1); (obtain ⟨d0, d1, d2, d3, d4, d5, d6, d7, d8, d9, d10, d11, d12, d13, d14, d15⟩ := cells16m (x := x) HB.out.b2)
      rcases hx with ⟨ok, hl, b, a, cap, rfl, ho, _⟩ | ⟨_, c, hc, rfl⟩
      rotate_left
      focus
        have b1 : (c == 0) = false := beq_eq_false_iff_ne.2 hc
        clear hc
        go_wp2_with (first | (apply Bh.load_bx 0 HB.out Try.underlying32; rfl; rfl; rfl; rfl; rfl; kernel_rfl) | (apply Bh.load_bx 1 HB.out Try.underlying48; rfl; rfl; rfl; rfl; rfl; kernel_rfl) | (apply Bh.load_bx 2 HB.out Try.underlying61; rfl; rfl; rfl; rfl; rfl; kernel_rfl))
      rotate_left
      focus
        have HRX := Lib.hid (fun W (hW : Kv.Beh w1 W) => Rd_M ok hl (ho.kept (kept_beh hW) (fun _ h => h.elim)))
        clear ok hl ho
        generalize (cMsg.enc (me x L)).length = nb at *
        go_wp2_with fail
        refine Calls.mono (HRX.out _ (Beh.start _)) ?_
        rintro e w2 ⟨p2, LM, rfl, hm2, he2, hn2, hb⟩
        have HKX : Hid (∀ W, Kv.Beh w2 W → Kv.Beh w W → Calls Try.prog 29 #[Mr.val (x.1, p2), x.val] W fun e w' => e = .returned (.bool true) ∧ Below W.heap.size W w') := fun W h1 h2 => keepMsg_self x.1 p2 x.2 LM L W (hm2.on h1) (HIN.out.2.1.on h2).at_ he2 hn2 (HLG.out.1) (by rw [fst_all he2]; exact HLG.out.2)
        clear hm2 he2 hn2
        have HB := Lib.hid (HB.out.on hb)
        have HX := Lib.hid (Bh.Bx.one w2 Mr.zero.obj)
        clear hb HRX s0 s1 s2 s3 s4 s5 s6 s7 s8 s9 s10 s11 s12 s13 s14 s15 c0 c1 c2 c3 c4 c5 c6 c7 c8 c9 d0 d1 d2 d3 d4 d5 d6 d7 d8 d9 d10 d11 d12 d13 d14 d15
        (obtain ⟨s0, s1, s2, s3, s4, s5, s6, s7, s8, s9, s10, s11, s12, s13, s14, s15⟩ := Lg.cells16 (show _ = some (E.obj e0) from HB.out.b0)); (obtain ⟨c0, c1, c2, c3, c4, c5, c6, c7, c8, c9⟩ := cells10h (h := h) (p := p) HB.out.b1); (obtain ⟨d0, d1, d2, d3, d4, d5, d6, d7, d8, d9, d10, d11, d12, d13, d14, d15⟩ := cells16m (x := x) HB.out.b2)
        go_wp2_with (first
          | (apply Bh.store_bx 16 0 HX.out; rfl; rfl; rfl; rfl; rfl; rfl; kernel_rfl; rfl; rfl; intro wz hz; have HX := Lib.hid hz; clear hz; have HB := Lib.hid (HB.out.on HX.out.beh); (obtain ⟨s0, s1, s2, s3, s4, s5, s6, s7, s8, s9, s10, s11, s12, s13, s14, s15⟩ := Lg.cells16 (show _ = some (E.obj e0) from HB.out.b0)); (obtain ⟨c0, c1, c2, c3, c4, c5, c6, c7, c8, c9⟩ := cells10h (h := h) (p := p) HB.out.b1); (obtain ⟨d0, d1, d2, d3, d4, d5, d6, d7, d8, d9, d10, d11, d12, d13, d14, d15⟩ := cells16m (x := x) HB.out.b2); (obtain ⟨g0, g1, g2, g3, g4, g5, g6, g7, g8, g9, g10, g11, g12, g13, g14, g15⟩ := cells16m (x := (x.1, p2)) HX.out.b0))
          | (go_at_call 29; refine Calls.mono (HKX.out _ HX.out.beh HB.out.beh) ?_; rintro e wk ⟨rfl, hb⟩; (have HB := Lib.hid (HB.out.on hb)); clear hb; (obtain ⟨s0, s1, s2, s3, s4, s5, s6, s7, s8, s9, s10, s11, s12, s13, s14, s15⟩ := Lg.cells16 (show _ = some (E.obj e0) from HB.out.b0)); (obtain ⟨c0, c1, c2, c3, c4, c5, c6, c7, c8, c9⟩ := cells10h (h := h) (p := p) HB.out.b1); (obtain ⟨d0, d1, d2, d3, d4, d5, d6, d7, d8, d9, d10, d11, d12, d13, d14, d15⟩ := cells16m (x := x) HB.out.b2))
          | (apply Bh.load_bx 0 HB.out Try.underlying32; rfl; rfl; rfl; rfl; rfl; kernel_rfl)
          | (apply Bh.load_bx 1 HB.out Try.underlying48; rfl; rfl; rfl; rfl; rfl; kernel_rfl)
          | (apply Bh.load_bx 2 HB.out Try.underlying61; rfl; rfl; rfl; rfl; rfl; kernel_rfl))
        clear HX HKX
      all_goals as_aux_lemma =>
        refine Calls.mono (HWK _).out ?_
        rintro e w9 ⟨rfl, hb⟩
        have HB := Lib.hid (HB.out.on hb)
        clear hb
        go_wp2_with fail
        go_ret
        exact ⟨rfl, HB.out.beh⟩
end Go.Proofs.Ytjdebdfbjcpjgaa.Wr
