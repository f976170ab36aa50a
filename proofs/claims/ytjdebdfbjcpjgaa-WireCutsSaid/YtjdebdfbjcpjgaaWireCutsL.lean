import Derived.Test.YtjdebdfbjcpjgaaWireCutP
import Derived.Test.YtjdebdfbjcpjgaaWireHm
import Derived.Test.YtjdebdfbjcpjgaaWireMsgL
import Derived.Test.YtjdebdfbjcpjgaaMergeWrHv
/- The law WireCuts. -/
namespace Go.Proofs.Ytjdebdfbjcpjgaa.Wr
open Go Go.RowKit Vl Kv Ss Cn Lg Nm Mem
attribute [local go_sem] Nm.run_bits Nm.run_frombits run_store_float
set_option maxHeartbeats 12800000 in
set_option maxRecDepth 100000 in
theorem WireCuts_law (h : H) (p : Hp) (x : Mr) (L : List Mr) (AT : Int) (MO : Nat) (w : World) (hh : HardAt w h p) (rh : RH h) (hm : MsgIn w x L) (rx : RF x.1) (rl : ∀ y ∈ L, RF y.1) (hmo : MO < 256) :
    Calls Try.prog 7 #[h.val p, x.val, .int .i64 AT, .int .u8 MO] w fun e w' => e = .returned (.bool true) ∧ Below w.heap.size w w' := by
  obtain ⟨i0, hi0, hz0, hz1, hz2⟩ := info_parts Kp.infoU8
  have HB := Lib.hid (Bh.Bx.two w (h.obj p) x.obj)
  have HWK := fun w => Lib.hid (wakes_any w)
  have HMO := Lib.hid hmo
  have HV1 : Hid (∀ W, Kv.Beh w W → Calls Try.prog 18 #[h.val p] W fun e w' => e = .returned (.bool (heavyL h.log || decide (32768 < (h.snap.length : Int)))) ∧ Below W.heap.size W w') := fun W hW => Lg.heavy_any h p W (hh.on hW)
  have HV2 : Hid (∀ W, Kv.Beh w W → Calls Try.prog 26 #[x.val] W (HvTold x L W)) := fun W hW => heavyMsg_any x L W (hm.on hW)
  cases k1 : (heavyL h.log || decide (32768 < (h.snap.length : Int)))
  case true =>
    rw [k1] at HV1
    clear hh hm
    (obtain ⟨c0, c1, c2, c3, c4, c5, c6, c7, c8, c9⟩ := cells10h (h := h) (p := p) HB.out.b0)
    (obtain ⟨d0, d1, d2, d3, d4, d5, d6, d7, d8, d9, d10, d11, d12, d13, d14, d15⟩ := cells16m (x := x) HB.out.b1)
    go_enter Try.func7, Try.ntmps7
    go_wp2_with (first | (go_at_call 18; refine Calls.mono (HV1.out _ HB.out.beh) ?_; rintro e wy ⟨rfl, hb⟩; (have HB := Lib.hid (HB.out.on hb)); clear hb; (obtain ⟨c0, c1, c2, c3, c4, c5, c6, c7, c8, c9⟩ := cells10h (h := h) (p := p) HB.out.b0); (obtain ⟨d0, d1, d2, d3, d4, d5, d6, d7, d8, d9, d10, d11, d12, d13, d14, d15⟩ := cells16m (x := x) HB.out.b1)) | (apply Bh.load_bx 0 HB.out Try.underlying48; rfl; rfl; rfl; rfl; rfl; kernel_rfl))
    go_ret
    exact ⟨rfl, HB.out.beh⟩
  rw [Bool.or_eq_false_iff] at k1
  have hfit := rh.fit k1.1 (by have := of_decide_eq_false k1.2; omega)
  rw [k1.1, k1.2] at HV1
  have HTH : Hid (∀ W, Kv.Beh w W → Calls Try.prog 19 #[h.val p] W (Told (cHard.ok h) (cHard.enc h) W)) := fun W hW => Hard_told (hh.on hW) hfit
  have HTM : Hid (Light x L → ∀ W, Kv.Beh w W → Calls Try.prog 27 #[x.val] W (Told (okM x L) (cMsg.enc (me x L)) W)) := fun hl W hW => Msg_told (hm.on hW).at_ (hl.fit hm rx rl)
  clear hh hm k1 hfit
  (obtain ⟨c0, c1, c2, c3, c4, c5, c6, c7, c8, c9⟩ := cells10h (h := h) (p := p) HB.out.b0)
  (obtain ⟨d0, d1, d2, d3, d4, d5, d6, d7, d8, d9, d10, d11, d12, d13, d14, d15⟩ := cells16m (x := x) HB.out.b1)
  go_enter Try.func7, Try.ntmps7
  go_wp2_with (first | (go_at_call 18; refine Calls.mono (HV1.out _ HB.out.beh) ?_; rintro e wy ⟨rfl, hb⟩; (have HB := Lib.hid (HB.out.on hb)); clear hb; (obtain ⟨c0, c1, c2, c3, c4, c5, c6, c7, c8, c9⟩ := cells10h (h := h) (p := p) HB.out.b0); (obtain ⟨d0, d1, d2, d3, d4, d5, d6, d7, d8, d9, d10, d11, d12, d13, d14, d15⟩ := cells16m (x := x) HB.out.b1)) | (apply Bh.load_bx 0 HB.out Try.underlying48; rfl; rfl; rfl; rfl; rfl; kernel_rfl))
  refine Calls.mono (HV2.out _ HB.out.beh) ?_
  rintro e wv ⟨q, rfl, hb, hq⟩
  have HB := Lib.hid (HB.out.on hb)
  clear hb
  cases q
  case true =>
    clear hq
    go_wp2_with fail
    go_ret
    exact ⟨rfl, HB.out.beh⟩
  have HTM := Lib.hid (HTM.out (hq rfl))
  clear hq c0 c1 c2 c3 c4 c5 c6 c7 c8 c9 d0 d1 d2 d3 d4 d5 d6 d7 d8 d9 d10 d11 d12 d13 d14 d15
  (obtain ⟨c0, c1, c2, c3, c4, c5, c6, c7, c8, c9⟩ := cells10h (h := h) (p := p) HB.out.b0)
  (obtain ⟨d0, d1, d2, d3, d4, d5, d6, d7, d8, d9, d10, d11, d12, d13, d14, d15⟩ := cells16m (x := x) HB.out.b1)
  go_wp2_with (first | (apply Bh.load_bx 0 HB.out Try.underlying48; rfl; rfl; rfl; rfl; rfl; kernel_rfl))
  refine Calls.mono (HTH.out _ HB.out.beh) ?_
  rintro e w1 ⟨hb, hx⟩
  have HB := Lib.hid (HB.out.on hb)
  clear hb
  rcases hx with ⟨ok, hl, b, a, cap, rfl, ho, _⟩ | ⟨_, c, hc, rfl⟩
  rotate_left
  focus
    have b1 : (c == 0) = false := beq_eq_false_iff_ne.2 hc
    clear hc
    (obtain ⟨c0, c1, c2, c3, c4, c5, c6, c7, c8, c9⟩ := cells10h (h := h) (p := p) HB.out.b0); (obtain ⟨d0, d1, d2, d3, d4, d5, d6, d7, d8, d9, d10, d11, d12, d13, d14, d15⟩ := cells16m (x := x) HB.out.b1)
    go_wp2_with (first | (apply Bh.load_bx 1 HB.out Try.underlying61; rfl; rfl; rfl; rfl; rfl; kernel_rfl))
  rotate_left
  focus
    have HT := Lib.hid (fun k (hk : k < _) => take_none cHard ok (cHard_B _ ok) (k := k) hk)
    have HM := Lib.hid (more_none cHard ok (cHard_B _ ok) HMO.out)
    have H8 := Lib.hid (cHard_B _ ok)
    have hpos := hard_pos h
    clear ok HTH
    generalize cHard.enc h = B at *
    obtain rfl : a = some ⟨b, 0, Option.none⟩ := by
      rcases ho with h | h
      · have := h.2.2; rw [this] at hpos; simp at hpos
      · exact h.1
    have hcap := ho.shows.1
    have HO := Lib.hid ho
    clear ho
    have hbe : ((B.length : Int) == 0) = false := beq_eq_false_iff_ne.2 (by omega)
    obtain ⟨k, hk, hke⟩ : ∃ k : Nat, k < B.length ∧ (IntKind.u64.wrap AT).tmod (B.length : Int) = (k : Int) := by
      have h0 : 0 ≤ IntKind.u64.wrap AT := by simp [IntKind.wrap, IntKind.bits, IntKind.signed]; omega
      refine ⟨((IntKind.u64.wrap AT).tmod (B.length : Int)).toNat, ?_, ?_⟩
      · have := Int.tmod_lt_of_pos (IntKind.u64.wrap AT) (b := (B.length : Int)) (by omega)
        have := Int.tmod_nonneg (B.length : Int) h0
        omega
      · have := Int.tmod_nonneg (B.length : Int) h0
        omega
    have HRK : Hid (∀ W, Kv.Beh w1 W → Calls Try.prog 22 #[.slice (some ⟨b, 0, none⟩) k cap] W fun e w' => e = .returned (.tuple #[H.zero.val Hp.none, .int .i64 3]) ∧ Below W.heap.size W w') := fun W hW => by
      have e1 : (B.take k).length = k := by rw [List.length_take]; omega
      have := H_none (w := W) (Kp.fits_left (HO.out.kept (kept_beh hW) (fun _ h => h.elim)).shows (Nat.le_of_lt hk)).src (fun y hy => H8.out y (List.mem_of_mem_take hy)) (by omega) (HT.out k hk)
      rwa [e1] at this
    have HTW : Hid (∀ W, Kv.Beh w1 W → Calls Try.prog 21 #[.slice (some ⟨b, 0, none⟩) B.length cap] W (Kp.NewB B W)) := fun W hW => Kp.Twin_any b _ cap B W (HO.out.kept (kept_beh hW) (fun _ h => h.elim)).src (by omega)
    have HB0 := Lib.hid (Beh.start w1)
    (obtain ⟨c0, c1, c2, c3, c4, c5, c6, c7, c8, c9⟩ := cells10h (h := h) (p := p) HB.out.b0); (obtain ⟨d0, d1, d2, d3, d4, d5, d6, d7, d8, d9, d10, d11, d12, d13, d14, d15⟩ := cells16m (x := x) HB.out.b1)
    go_wp2_with (first | (go_at_call 22; refine Calls.mono (HRK.out _ HB0.out) ?_; rintro e w2 ⟨rfl, hb⟩; (have HB := Lib.hid (HB.out.on hb)); (have HB0 := Lib.hid (HB0.out.on hb)); clear hb))
    refine Calls.mono (HTW.out _ HB0.out) ?_
    rintro e w3 ⟨b3, a3, cap3, rfl, ho3, hn3, hk3, hsz3⟩
    have HO3 := Lib.hid ho3
    clear ho3 HTW HRK HT
    have HL : Hid (Mem.Src (w3.alloc (.cells #[.int .u8 (MO : Int)] 5)) w3.heap.size (some ⟨w3.heap.size, 0, none⟩) 1 [MO]) := Kp.shows_lit _ _ _ _ rfl
    go_wp2_with (at_builtin; refine wpList_append_bytes rfl _ _ 33 rfl 5 i0 Try.underlying33 hi0 hz0 hz1 hz2 b3 a3 cap3 B _ rfl (HO3.out.kept (kept_beh (below_alloc _ _)) (fun _ h => h.elim)) rfl w3.heap.size (some ⟨w3.heap.size, 0, none⟩) 1 [MO] 1 rfl HL.out rfl (by omega) ?_)
    intro b5 a5 cap5 w5 ho5 hk5 hw5 _
    have HO5 := Lib.hid ho5
    have hk25 : Kept Mem.None w2 w5 := (hk3.trans (kept_beh (below_alloc w3 _))).trans' hk5 (fun x hx => .inr (by rw [hx.2]; exact hn3))
    have HB := Lib.hid (HB.out.on (beh_kept hk25))
    have HRM : Hid (Calls Try.prog 22 #[.slice a5 (B.length + 1) cap5] w5 fun e w' => e = .returned (.tuple #[H.zero.val Hp.none, .int .i64 3]) ∧ Below w5.heap.size w5 w') := by
      have e1 : (B ++ [MO]).length = B.length + 1 := by rw [List.length_append]; rfl
      have := H_none (w := w5) HO5.out.src (Mem.B8.append H8.out (fun y hy => by rw [List.mem_singleton] at hy; rw [hy]; exact HMO.out)) (by omega) HM.out
      rwa [e1] at this
    clear ho5 hk5 hk3 hk25 hw5 HO3 HL HO HB0 hke hk hbe hn3 hsz3 c0 c1 c2 c3 c4 c5 c6 c7 c8 c9 d0 d1 d2 d3 d4 d5 d6 d7 d8 d9 d10 d11 d12 d13 d14 d15
    go_wp2_with fail
    refine Calls.mono HRM.out ?_
    rintro e w6 ⟨rfl, hb⟩
    have HB := Lib.hid (HB.out.on hb)
    have HX := Lib.hid (Bh.Bx.one w6 (H.zero.obj Hp.none))
    clear hb HRM HM H8
    go_wp2_with (first | (apply Bh.store_bx 10 0 HX.out; rfl; rfl; rfl; rfl; rfl; rfl; kernel_rfl; rfl; rfl; intro wz hz; have HX := Lib.hid hz; clear hz; have HB := Lib.hid (HB.out.on HX.out.beh)) | (apply Bh.load_bx 1 HB.out Try.underlying61; rfl; rfl; rfl; rfl; rfl; kernel_rfl))
    clear HX
  all_goals
    refine Calls.mono (HTM.out _ HB.out.beh) ?_
    rintro e w1 ⟨hb, hx⟩
    have HB := Lib.hid (HB.out.on hb)
    clear hb
    rcases hx with ⟨⟨ok, _⟩, hl, b, a, cap, rfl, ho, _⟩ | ⟨_, c, hc, rfl⟩
    rotate_left
    focus
      have b1 : (c == 0) = false := beq_eq_false_iff_ne.2 hc
      clear hc
      (obtain ⟨c0, c1, c2, c3, c4, c5, c6, c7, c8, c9⟩ := cells10h (h := h) (p := p) HB.out.b0); (obtain ⟨d0, d1, d2, d3, d4, d5, d6, d7, d8, d9, d10, d11, d12, d13, d14, d15⟩ := cells16m (x := x) HB.out.b1)
      go_wp2_with (first | (apply Bh.load_bx 1 HB.out Try.underlying61; rfl; rfl; rfl; rfl; rfl; kernel_rfl))
    rotate_left
    focus
      have HT := Lib.hid (fun k (hk : k < _) => take_none cMsg ok (cMsg_B _ ok) (k := k) hk)
      have HM := Lib.hid (more_none cMsg ok (cMsg_B _ ok) HMO.out)
      have H8 := Lib.hid (cMsg_B _ ok)
      have hpos := msg_pos (me x L)
      clear ok HTM
      generalize cMsg.enc (me x L) = B at *
      obtain rfl : a = some ⟨b, 0, Option.none⟩ := by
        rcases ho with h | h
        · have := h.2.2; rw [this] at hpos; simp at hpos
        · exact h.1
      have hcap := ho.shows.1
      have HO := Lib.hid ho
      clear ho
      have hbe : ((B.length : Int) == 0) = false := beq_eq_false_iff_ne.2 (by omega)
      obtain ⟨k, hk, hke⟩ : ∃ k : Nat, k < B.length ∧ (IntKind.u64.wrap AT).tmod (B.length : Int) = (k : Int) := by
        have h0 : 0 ≤ IntKind.u64.wrap AT := by simp [IntKind.wrap, IntKind.bits, IntKind.signed]; omega
        refine ⟨((IntKind.u64.wrap AT).tmod (B.length : Int)).toNat, ?_, ?_⟩
        · have := Int.tmod_lt_of_pos (IntKind.u64.wrap AT) (b := (B.length : Int)) (by omega)
          have := Int.tmod_nonneg (B.length : Int) h0
          omega
        · have := Int.tmod_nonneg (B.length : Int) h0
          omega
      have HRK : Hid (∀ W, Kv.Beh w1 W → Calls Try.prog 28 #[.slice (some ⟨b, 0, none⟩) k cap] W fun e w' => e = .returned (.tuple #[Mr.zero.val, .int .i64 3]) ∧ Below W.heap.size W w') := fun W hW => by
        have e1 : (B.take k).length = k := by rw [List.length_take]; omega
        have := M_none (w := W) (Kp.fits_left (HO.out.kept (kept_beh hW) (fun _ h => h.elim)).shows (Nat.le_of_lt hk)).src (fun y hy => H8.out y (List.mem_of_mem_take hy)) (by omega) (HT.out k hk)
        rwa [e1] at this
      have HTW : Hid (∀ W, Kv.Beh w1 W → Calls Try.prog 21 #[.slice (some ⟨b, 0, none⟩) B.length cap] W (Kp.NewB B W)) := fun W hW => Kp.Twin_any b _ cap B W (HO.out.kept (kept_beh hW) (fun _ h => h.elim)).src (by omega)
      have HB0 := Lib.hid (Beh.start w1)
      (obtain ⟨c0, c1, c2, c3, c4, c5, c6, c7, c8, c9⟩ := cells10h (h := h) (p := p) HB.out.b0); (obtain ⟨d0, d1, d2, d3, d4, d5, d6, d7, d8, d9, d10, d11, d12, d13, d14, d15⟩ := cells16m (x := x) HB.out.b1)
      go_wp2_with (first | (go_at_call 28; refine Calls.mono (HRK.out _ HB0.out) ?_; rintro e w2 ⟨rfl, hb⟩; (have HB := Lib.hid (HB.out.on hb)); (have HB0 := Lib.hid (HB0.out.on hb)); clear hb))
      refine Calls.mono (HTW.out _ HB0.out) ?_
      rintro e w3 ⟨b3, a3, cap3, rfl, ho3, hn3, hk3, hsz3⟩
      have HO3 := Lib.hid ho3
      clear ho3 HTW HRK HT
      have HL : Hid (Mem.Src (w3.alloc (.cells #[.int .u8 (MO : Int)] 5)) w3.heap.size (some ⟨w3.heap.size, 0, none⟩) 1 [MO]) := Kp.shows_lit _ _ _ _ rfl
      go_wp2_with (at_builtin; refine wpList_append_bytes rfl _ _ 33 rfl 5 i0 Try.underlying33 hi0 hz0 hz1 hz2 b3 a3 cap3 B _ rfl (HO3.out.kept (kept_beh (below_alloc _ _)) (fun _ h => h.elim)) rfl w3.heap.size (some ⟨w3.heap.size, 0, none⟩) 1 [MO] 1 rfl HL.out rfl (by omega) ?_)
      intro b5 a5 cap5 w5 ho5 hk5 hw5 _
      have HO5 := Lib.hid ho5
      have hk25 : Kept Mem.None w2 w5 := (hk3.trans (kept_beh (below_alloc w3 _))).trans' hk5 (fun x hx => .inr (by rw [hx.2]; exact hn3))
      have HB := Lib.hid (HB.out.on (beh_kept hk25))
      have HRM : Hid (Calls Try.prog 28 #[.slice a5 (B.length + 1) cap5] w5 fun e w' => e = .returned (.tuple #[Mr.zero.val, .int .i64 3]) ∧ Below w5.heap.size w5 w') := by
        have e1 : (B ++ [MO]).length = B.length + 1 := by rw [List.length_append]; rfl
        have := M_none (w := w5) HO5.out.src (Mem.B8.append H8.out (fun y hy => by rw [List.mem_singleton] at hy; rw [hy]; exact HMO.out)) (by omega) HM.out
        rwa [e1] at this
      clear ho5 hk5 hk3 hk25 hw5 HO3 HL HO HB0 hke hk hbe hn3 hsz3 c0 c1 c2 c3 c4 c5 c6 c7 c8 c9 d0 d1 d2 d3 d4 d5 d6 d7 d8 d9 d10 d11 d12 d13 d14 d15
      go_wp2_with fail
      refine Calls.mono HRM.out ?_
      rintro e w6 ⟨rfl, hb⟩
      have HB := Lib.hid (HB.out.on hb)
      have HX := Lib.hid (Bh.Bx.one w6 Mr.zero.obj)
      clear hb HRM HM H8
      go_wp2_with (first | (apply Bh.store_bx 16 0 HX.out; rfl; rfl; rfl; rfl; rfl; rfl; kernel_rfl; rfl; rfl; intro wz hz; have HX := Lib.hid hz; clear hz; have HB := Lib.hid (HB.out.on HX.out.beh)) | (apply Bh.load_bx 1 HB.out Try.underlying61; rfl; rfl; rfl; rfl; rfl; kernel_rfl))
      clear HX
  all_goals
    refine Calls.mono (HWK _).out ?_
    rintro e w9 ⟨rfl, hb⟩
    have HB := Lib.hid (HB.out.on hb)
    clear hb
    go_wp2_with fail
    go_ret
    exact ⟨rfl, HB.out.beh⟩
end Go.Proofs.Ytjdebdfbjcpjgaa.Wr
