/- PackWrites' walk. -/
import Derived.Test.YtjlpmmbmjkbdiaaLong
namespace Go.Proofs.Ytjlpmmbmjkbdiaa.Pk
open Go Go.RowKit Mem
/-- what a Writer holds behind some items -/
def stO (L : List It) : Option (List Nat) := if wantOk L then some (wantB L) else Option.none
theorem stO_next {L : List It} {k : Nat} (h : k < L.length) : stepO (stO (L.take k)) (L.getD k It.none) = stO (L.take (k + 1)) := by
  unfold stO
  rw [wantOk_take h, wantB_take h]
  cases wantOk (L.take k)
  · simp [stepO]
  · cases hl : (L.getD k It.none).long
    · show (if (L.getD k It.none).long = true then _ else _) = _
      rw [hl]; simp
    · show (if (L.getD k It.none).long = true then _ else _) = _
      rw [hl]; simp
/-- the same item, with another text of the same bytes -/
def It.with_ (x : It) (b : Nat) (a : Option Addr) (c : Nat) : It := ⟨x.K, x.N, x.I, x.X, b, a, c, x.t⟩
theorem stepO_with (o : Option (List Nat)) (x : It) (b : Nat) (a : Option Addr) (c : Nat) : stepO o (x.with_ b a c) = stepO o x := rfl
theorem run_store_float (P : Program) (w : World) (a : Addr) (k : FloatKind) (n : Nat) (m : Mode) : (store a (.float k n) m).run P w = stored P w a (.float k n) m := run_store P w a _ m rfl
attribute [local go_sem] run_store_float
theorem of_ne {a : Option Addr} {b k : Nat} (h : Of a b k) : a ≠ Option.none ∧ k = b := h
set_option maxHeartbeats 8000000 in
set_option maxRecDepth 100000 in
theorem PackWrites_any (a : Option Addr) (cap : Nat) (L : List It) (w : World) (hi : Items w a L) :
    Calls Try.prog 3 #[.slice a L.length cap] w fun e w' => e = .returned (.bool true) ∧ Kept Mem.None w w' := by
  have HI := Lib.hid hi
  have hm := hi.2.1
  clear hi
  cases hq : heavyB L
  · have hL := (heavy_no hq).1
    have HT := Lib.hid (heavy_no hq).2
    have HQ := Lib.hid hq
    clear hq
    go_enter Try.func3, Try.ntmps3
    go_wp2_with fail
    refine (heavy_any a cap L w HI.out).mono ?_
    rintro x w' ⟨rfl, rfl⟩
    rw [HQ.out]
    have H0 := Lib.hid (WAt.new w)
    go_wp2
    go_loopw [4] (fun i wr => ∃ k : Nat, k ≤ L.length ∧ i = .int .i64 k ∧ Hid (∃ S, St wr w.heap.size S (stO (L.take k)) ∧ (∀ j, S j → w.heap.size ≤ j) ∧ Kept Mem.None w wr)) (fun i _ => L.length - (intOf i).toNat)
    case atStart => exact ⟨0, by omega, rfl, Only w.heap.size, H0.out, fun j hj => by cases hj; exact Nat.le_refl _, (Kept.refl _ _).alloc _⟩
    case round =>
      obtain ⟨k, hk, rfl, hw⟩ := hrel
      by_cases hlt : k < L.length
      · obtain ⟨S, hst, hsw, hkk⟩ := hw.out
        obtain ⟨b, off, rfl, hc⟩ := HI.out.2.2 (by omega)
        have hcs := (hc k hlt).kept hkk
        have HCW := Lib.hid (hc k hlt)
        have HX := Lib.hid ((HI.out.get hlt).kept hkk)
        have HXW := Lib.hid (HI.out.get hlt)
        have hxt : (L.getD k It.none).t.length ≤ 32768 := HT.out _ (by simp [hlt])
        have HN := Lib.hid (stO_next hlt)
        have hlen : ∀ l, stO (L.take k) = some l → l.length ≤ 35184372088832 := by
          intro l hl
          unfold stO at hl
          split at hl
          · cases hl
            have h1 := wantB_len (w := w) (L := L.take k) (fun x hx => HI.out.1 x (List.mem_of_mem_take hx))
            rw [List.length_take] at h1
            have : min k L.length ≤ 200 := by omega
            have := Nat.mul_le_mul_right 16394 this
            omega
          · cases hl
        have HLEN := Lib.hid hlen
        have HST := Lib.hid hst
        have HSW := Lib.hid hsw
        have HK := Lib.hid hkk
        have c4 := hcs.2.2.2.2
        clear hc hst hsw hkk hw hlen hcs
        generalize L.getD k It.none = x at *
        go_wp2_with fail
        refine (Twin_any x.tb x.ta x.tc x.t wr HX.out.2.2.2.1 (by omega)).mono ?_
        rintro x' w1 ⟨bt, at_, ct, rfl, ho, hb, hk1, hb2⟩
        have HO := Lib.hid ho
        have HK1 := Lib.hid hk1
        obtain ⟨d0, d1, d2, d3, d4⟩ := HCW.out.kept (HK.out.trans hk1)
        clear ho hk1 c4
        go_wp2_with fail
        obtain ⟨w2, hw2⟩ : ∃ w2, w2 = w1.alloc (.cells #[.int .i64 x.K, .int .i64 x.N, .bool x.I, .float .f64 x.X, .slice at_ x.t.length ct] 32) := ⟨_, rfl⟩
        rw [← hw2]
        have k12 : Kept Mem.None w1 w2 := by rw [hw2]; exact (Kept.refl _ _).alloc _
        have HK2 := Lib.hid (HK1.out.trans k12)
        have HO2 : Hid (OwnB 5 w2 bt at_ ct x.t) := HO.out.kept k12 (fun _ h => h)
        have HST2 : Hid (St w2 w.heap.size S (stO (L.take k))) := HST.out.kept HK2.out (fun _ _ h => h)
        have HX2 : Hid ((x.with_ bt at_ ct).ok w2) := ⟨HX.out.1, HX.out.2.1, HX.out.2.2.1, HO2.out.src, HX.out.2.2.2.2⟩
        have hsb : Hid (¬ S bt) := fun h => by have := HST.out.lt bt h; omega
        have hbt2 : Hid (at_ ≠ Option.none → bt < w2.heap.size) := fun h => HO2.out.lt h
        clear hw2 k12 d0 d1 d2 d3 d4
        refine (write_st w.heap.size S _ (x.with_ bt at_ ct) w2 HST2.out HX2.out (fun _ => hsb.out) hxt HLEN.out).mono ?_
        rintro x' w3 ⟨rfl, hst3, hk3⟩
        have HST3 := Lib.hid hst3
        have HK3 := Lib.hid ((HK.out.trans HK2.out).trans' hk3 (fun y hy => .inr (HSW.out y hy)))
        have HO3 : Hid (OwnB 5 w3 bt at_ ct x.t) := HO2.out.kept hk3 (fun _ => hsb.out)
        have HS3 := Lib.hid hk3.size
        obtain ⟨e0, e1, e2, e3, e4⟩ := HCW.out.kept HK3.out
        clear hst3 hk3
        go_wp2_with fail
        refine (KBytes_any bt at_ ct x.t x.tb x.ta x.tc x.t w3 HO3.out.src ((HXW.out.kept HK3.out).2.2.2.1) (by omega) (by omega)).mono ?_
        rintro x' w4 ⟨rfl, n4, rfl⟩
        have hdd : decide (x.t = x.t) = true := by simp
        rw [hdd]
        clear hdd e0 e1 e2 e3 e4
        go_wp2_with fail
        refine (Spoil_any bt at_ ct x.t (w3.drewN n4) (HO3.out.heap rfl) (by omega)).mono ?_
        rintro x' w5 ⟨rfl, l5, _, _, hk5⟩
        have HK5 := Lib.hid hk5
        clear hk5
        go_wp2
        go_roundw
        case rel =>
          refine ⟨k + 1, by omega, by go_num, Grow S w2 w3, ?_, fun j hj => ?_, ?_⟩
          · rw [← HN.out]
            have h5 : Kept (Of at_ bt) w3 w5 := HK5.out.heap2 rfl rfl rfl rfl
            refine St.kept HST3.out h5 (fun j hj ho => ?_)
            obtain ⟨hn, rfl⟩ := of_ne ho
            rcases hj with hj | hj
            · exact hsb.out hj
            · have := hbt2.out hn; omega
          · have := HK.out.size
            have := HK2.out.size
            exact hj.elim (HSW.out j) (fun h => by omega)
          · have h5 : Kept (Of at_ bt) w3 w5 := HK5.out.heap2 rfl rfl rfl rfl
            exact HK3.out.trans' h5 (fun y hy => .inr (by rw [(of_ne hy).2]; have := HK.out.size; omega))
        case measure => simp [intOf]; omega
      · obtain rfl : k = L.length := by omega
        obtain ⟨S, hst, hsw, hkk⟩ := hw.out
        rw [List.take_length] at hst
        have HST := Lib.hid hst
        have HSW := Lib.hid hsw
        have HK := Lib.hid hkk
        have HIR := Lib.hid (HI.out.kept hkk)
        have hwl := wantB_len (w := w) (L := L) HI.out.1
        have hwl2 : (wantB L).length ≤ 3278800 := by omega
        clear hst hsw hkk hw hwl
        go_wp2_with fail
        refine (want_any a cap L wr HIR.out hL HT.out).mono ?_
        rintro x' w1 ⟨b1, a1, cap1, rfl, ho1, hb1, hb12, hk1⟩
        have HO1 := Lib.hid ho1
        have HK1 := Lib.hid hk1
        clear ho1 hk1
        cases hok : wantOk L
        · have hwl3 : WLong w1 w.heap.size := by
            have h := HST.out.kept HK1.out (fun _ _ h => h)
            unfold stO at h
            rw [hok] at h
            exact h.2.2
          have HWL := Lib.hid hwl3
          have HOK := Lib.hid hok
          clear hwl3 hok
          go_wp2_with fail
          refine (Bytes_long w.heap.size w1 HWL.out).mono ?_
          rintro x' w2 ⟨rfl, rfl⟩
          have HKK := Lib.hid (HK.out.trans HK1.out)
          go_wp2_with (go_at_call 16; refine (wakes_any _).mono ?_; rintro x w13 ⟨rfl, k13⟩)
          go_ret
          exact ⟨rfl, HKK.out.trans k13⟩
        · have hwa : WAt w1 w.heap.size S (wantB L) := by
            have h := HST.out.kept HK1.out (fun _ _ h => h)
            unfold stO at h
            rw [hok] at h
            exact h
          have HWA := Lib.hid hwa
          have HOK := Lib.hid hok
          clear hwa hok
          go_wp2_with fail
          refine (WBytes_any w.heap.size S (wantB L) w1 HWA.out (by omega)).mono ?_
          rintro x' w2 ⟨b2, a2, cap2, rfl, ho2, hb2, hb22, hk2⟩
          have HO2 := Lib.hid ho2
          have HK2 := Lib.hid hk2
          clear ho2 hk2
          go_wp2_with fail
          refine (KBytes_any b2 a2 cap2 (wantB L) b1 a1 cap1 (wantB L) w2 HO2.out.src ((HO1.out.kept HK2.out (fun _ h => h)).src) (by omega) (by omega)).mono ?_
          rintro x' w3 ⟨rfl, n3, rfl⟩
          have hdd : decide (wantB L = wantB L) = true := by simp
          rw [hdd]
          clear hdd
          go_wp2_with fail
          refine (Spoil_any b2 a2 cap2 (wantB L) (w2.drewN n3) (HO2.out.heap rfl) (by omega)).mono ?_
          rintro x' w5 ⟨rfl, l5, _, _, hk5⟩
          have HK5 : Hid (Kept (Of a2 b2) w2 w5) := hk5.heap2 rfl rfl rfl rfl
          have HWA5 : Hid (WAt w5 w.heap.size S (wantB L)) := (HWA.out.kept HK2.out (fun _ _ h => h)).kept HK5.out (fun j hj ho => by have := HWA.out.2.1 j hj; have := (of_ne ho).2; omega)
          have HO5 : Hid (OwnB 5 w5 b1 a1 cap1 (wantB L)) := (HO1.out.kept HK2.out (fun _ h => h)).kept HK5.out (fun hn ho => by have := HO1.out.lt hn; have := (of_ne ho).2; omega)
          have HKK5 : Hid (Kept Mem.None w w5) := ((HK.out.trans HK1.out).trans HK2.out).trans' HK5.out (fun y hy => .inr (by rw [(of_ne hy).2]; have := HK.out.size; have := HK1.out.size; omega))
          clear hk5
          go_wp2_with fail
          refine (WBytes_any w.heap.size S (wantB L) w5 HWA5.out (by omega)).mono ?_
          rintro x' w6 ⟨b6, a6, cap6, rfl, ho6, hb6, hb62, hk6⟩
          have HO6 := Lib.hid ho6
          have HK6 := Lib.hid hk6
          clear ho6 hk6
          go_wp2_with fail
          refine (KBytes_any b6 a6 cap6 (wantB L) b1 a1 cap1 (wantB L) w6 HO6.out.src ((HO5.out.kept HK6.out (fun _ h => h)).src) (by omega) (by omega)).mono ?_
          rintro x' w7 ⟨rfl, n7, rfl⟩
          have hdd : decide (wantB L = wantB L) = true := by simp
          rw [hdd]
          clear hdd
          have HKK := Lib.hid ((HKK5.out.trans HK6.out).drewN n7)
          go_wp2_with (go_at_call 16; refine (wakes_any _).mono ?_; rintro x w13 ⟨rfl, k13⟩)
          go_ret
          exact ⟨rfl, HKK.out.trans k13⟩
  · have HQ := Lib.hid hq
    clear hq
    go_enter Try.func3, Try.ntmps3
    go_wp2_with fail
    refine (heavy_any a cap L w HI.out).mono ?_
    rintro x w' ⟨rfl, rfl⟩
    rw [HQ.out]
    go_wp2
    go_ret
    exact ⟨rfl, Kept.refl _ _⟩
theorem PackWrites_law (a : Option Addr) (len cap : Nat) (W : World) (h1 : ItemsIn W a len cap) :
    Calls Try.prog 3 #[.slice a len cap] W fun e w' => e = .returned (.bool true) ∧ Below W.heap.size W w' := by
  obtain ⟨_, L, rfl, hi⟩ := h1
  exact (PackWrites_any a cap L W hi).mono fun _ _ ⟨he, hk⟩ => ⟨he, all_below hk⟩
end Go.Proofs.Ytjlpmmbmjkbdiaa.Pk
