import Derived.Test.YtaifjkilmdnfbaaMergeLgO
import Derived.Test.YtaifjkilmdnfbaaMergeLgI
/- The law LogsNewer, walked. -/
namespace Go.Proofs.Ytaifjkilmdnfbaa.Lg
open Go Go.RowKit Vl Kv Ss Cn Mem Li Nm
attribute [local go_sem] Nm.run_bits Nm.run_frombits run_store_float
attribute [local irreducible] wpQuiet
set_option maxHeartbeats 6400000 in
set_option maxRecDepth 100000 in
theorem LogsNewer_law (g : H) (p : Hp) (h : H) (q : Hp) (a : Option Addr) (cap : Nat) (l : List E) (w : World) (hg : HardAt w g p) (hh : HardAt w h q) (hl : EntAt w a cap l) :
    Calls Try.prog 8 #[g.val p, h.val q, .slice a l.length cap] w fun e w' => e = .returned (.bool true) ∧ Below w.heap.size w w' := by
  have HB := Lib.hid (Bh.Bx.two w (g.obj p) (h.obj q))
  have HV1 : Hid (∀ W, Kv.Beh w W → Calls Try.prog 11 #[g.val p] W fun e w' => e = .returned (.bool (heavyL g.log || decide (32768 < (g.snap.length : Int)))) ∧ Below W.heap.size W w') := fun W hW => heavy_any g p W (hg.on hW)
  have HV2 : Hid (∀ W, Kv.Beh w W → Calls Try.prog 11 #[h.val q] W fun e w' => e = .returned (.bool (heavyL h.log || decide (32768 < (h.snap.length : Int)))) ∧ Below W.heap.size W w') := fun W hW => heavy_any h q W (hh.on hW)
  have HV3 : Hid (∀ W, Kv.Beh w W → Calls Try.prog 36 #[.slice a l.length cap] W fun e w' => e = .returned (.bool (heavyL l)) ∧ Below W.heap.size W w') := fun W hW => heavyEnts_any a cap l W (hl.below hW)
  have HK1 : Hid (∀ W, Kv.Beh w W → Calls Try.prog 12 #[g.val p] W fun e w' => e = .returned (.bool (lookedB g)) ∧ Below W.heap.size W w') := fun W _ => looked_any g p W
  have HK2 : Hid (∀ W, Kv.Beh w W → Calls Try.prog 12 #[h.val q] W fun e w' => e = .returned (.bool (lookedB h)) ∧ Below W.heap.size W w') := fun W _ => looked_any h q W
  have HWK := fun w => Lib.hid (wakes_any w)
  obtain ⟨c0, c1, c2, c3, c4, c5, c6, c7, c8, c9⟩ := cells10h HB.out.b0
  obtain ⟨d0, d1, d2, d3, d4, d5, d6, d7, d8, d9⟩ := cells10h HB.out.b1
  have HA : Hid (HardAt w g p ∧ HardAt w h q ∧ EntAt w a cap l) := ⟨hg, hh, hl⟩
  clear hg hh hl
  cases k1 : (heavyL g.log || decide (32768 < (g.snap.length : Int)))
  case true =>
    rw [k1] at HV1
    go_enter Try.func8, Try.ntmps8
    go_wp2_with (first
      | (go_at_call 11; (with_reducible refine Calls.mono (HV1.out _ ?_) ?_); exact HB.out.beh; rintro e wq ⟨rfl, hb⟩; (have HB := Lib.hid (HB.out.on hb)); clear hb; (obtain ⟨c0, c1, c2, c3, c4, c5, c6, c7, c8, c9⟩ := cells10h HB.out.b0); (obtain ⟨d0, d1, d2, d3, d4, d5, d6, d7, d8, d9⟩ := cells10h HB.out.b1))
      | (go_at_call 11; (with_reducible refine Calls.mono (HV2.out _ ?_) ?_); exact HB.out.beh; rintro e wq ⟨rfl, hb⟩; (have HB := Lib.hid (HB.out.on hb)); clear hb; (obtain ⟨c0, c1, c2, c3, c4, c5, c6, c7, c8, c9⟩ := cells10h HB.out.b0); (obtain ⟨d0, d1, d2, d3, d4, d5, d6, d7, d8, d9⟩ := cells10h HB.out.b1))
      | (go_at_call 36; (with_reducible refine Calls.mono (HV3.out _ ?_) ?_); exact HB.out.beh; rintro e wq ⟨rfl, hb⟩; (have HB := Lib.hid (HB.out.on hb)); clear hb; (obtain ⟨c0, c1, c2, c3, c4, c5, c6, c7, c8, c9⟩ := cells10h HB.out.b0); (obtain ⟨d0, d1, d2, d3, d4, d5, d6, d7, d8, d9⟩ := cells10h HB.out.b1))
      | (go_at_call 12; (with_reducible refine Calls.mono (HK1.out _ ?_) ?_); exact HB.out.beh; rintro e wq ⟨rfl, hb⟩; (have HB := Lib.hid (HB.out.on hb)); clear hb; (obtain ⟨c0, c1, c2, c3, c4, c5, c6, c7, c8, c9⟩ := cells10h HB.out.b0); (obtain ⟨d0, d1, d2, d3, d4, d5, d6, d7, d8, d9⟩ := cells10h HB.out.b1))
      | (go_at_call 12; (with_reducible refine Calls.mono (HK2.out _ ?_) ?_); exact HB.out.beh; rintro e wq ⟨rfl, hb⟩; (have HB := Lib.hid (HB.out.on hb)); clear hb; (obtain ⟨c0, c1, c2, c3, c4, c5, c6, c7, c8, c9⟩ := cells10h HB.out.b0); (obtain ⟨d0, d1, d2, d3, d4, d5, d6, d7, d8, d9⟩ := cells10h HB.out.b1))
      | (apply Bh.load_bx 0 HB.out Try.underlying27; rfl; rfl; rfl; rfl; rfl; kernel_rfl)
      | (apply Bh.load_bx 1 HB.out Try.underlying27; rfl; rfl; rfl; rfl; rfl; kernel_rfl))
    go_ret
    exact ⟨rfl, HB.out.beh⟩
  cases k2 : (heavyL h.log || decide (32768 < (h.snap.length : Int)))
  case true =>
    rw [k1] at HV1
    rw [k2] at HV2
    go_enter Try.func8, Try.ntmps8
    go_wp2_with (first
      | (go_at_call 11; (with_reducible refine Calls.mono (HV1.out _ ?_) ?_); exact HB.out.beh; rintro e wq ⟨rfl, hb⟩; (have HB := Lib.hid (HB.out.on hb)); clear hb; (obtain ⟨c0, c1, c2, c3, c4, c5, c6, c7, c8, c9⟩ := cells10h HB.out.b0); (obtain ⟨d0, d1, d2, d3, d4, d5, d6, d7, d8, d9⟩ := cells10h HB.out.b1))
      | (go_at_call 11; (with_reducible refine Calls.mono (HV2.out _ ?_) ?_); exact HB.out.beh; rintro e wq ⟨rfl, hb⟩; (have HB := Lib.hid (HB.out.on hb)); clear hb; (obtain ⟨c0, c1, c2, c3, c4, c5, c6, c7, c8, c9⟩ := cells10h HB.out.b0); (obtain ⟨d0, d1, d2, d3, d4, d5, d6, d7, d8, d9⟩ := cells10h HB.out.b1))
      | (go_at_call 36; (with_reducible refine Calls.mono (HV3.out _ ?_) ?_); exact HB.out.beh; rintro e wq ⟨rfl, hb⟩; (have HB := Lib.hid (HB.out.on hb)); clear hb; (obtain ⟨c0, c1, c2, c3, c4, c5, c6, c7, c8, c9⟩ := cells10h HB.out.b0); (obtain ⟨d0, d1, d2, d3, d4, d5, d6, d7, d8, d9⟩ := cells10h HB.out.b1))
      | (go_at_call 12; (with_reducible refine Calls.mono (HK1.out _ ?_) ?_); exact HB.out.beh; rintro e wq ⟨rfl, hb⟩; (have HB := Lib.hid (HB.out.on hb)); clear hb; (obtain ⟨c0, c1, c2, c3, c4, c5, c6, c7, c8, c9⟩ := cells10h HB.out.b0); (obtain ⟨d0, d1, d2, d3, d4, d5, d6, d7, d8, d9⟩ := cells10h HB.out.b1))
      | (go_at_call 12; (with_reducible refine Calls.mono (HK2.out _ ?_) ?_); exact HB.out.beh; rintro e wq ⟨rfl, hb⟩; (have HB := Lib.hid (HB.out.on hb)); clear hb; (obtain ⟨c0, c1, c2, c3, c4, c5, c6, c7, c8, c9⟩ := cells10h HB.out.b0); (obtain ⟨d0, d1, d2, d3, d4, d5, d6, d7, d8, d9⟩ := cells10h HB.out.b1))
      | (apply Bh.load_bx 0 HB.out Try.underlying27; rfl; rfl; rfl; rfl; rfl; kernel_rfl)
      | (apply Bh.load_bx 1 HB.out Try.underlying27; rfl; rfl; rfl; rfl; rfl; kernel_rfl))
    go_ret
    exact ⟨rfl, HB.out.beh⟩
  cases k3 : heavyL l
  case true =>
    rw [k1] at HV1
    rw [k2] at HV2
    rw [k3] at HV3
    go_enter Try.func8, Try.ntmps8
    go_wp2_with (first
      | (go_at_call 11; (with_reducible refine Calls.mono (HV1.out _ ?_) ?_); exact HB.out.beh; rintro e wq ⟨rfl, hb⟩; (have HB := Lib.hid (HB.out.on hb)); clear hb; (obtain ⟨c0, c1, c2, c3, c4, c5, c6, c7, c8, c9⟩ := cells10h HB.out.b0); (obtain ⟨d0, d1, d2, d3, d4, d5, d6, d7, d8, d9⟩ := cells10h HB.out.b1))
      | (go_at_call 11; (with_reducible refine Calls.mono (HV2.out _ ?_) ?_); exact HB.out.beh; rintro e wq ⟨rfl, hb⟩; (have HB := Lib.hid (HB.out.on hb)); clear hb; (obtain ⟨c0, c1, c2, c3, c4, c5, c6, c7, c8, c9⟩ := cells10h HB.out.b0); (obtain ⟨d0, d1, d2, d3, d4, d5, d6, d7, d8, d9⟩ := cells10h HB.out.b1))
      | (go_at_call 36; (with_reducible refine Calls.mono (HV3.out _ ?_) ?_); exact HB.out.beh; rintro e wq ⟨rfl, hb⟩; (have HB := Lib.hid (HB.out.on hb)); clear hb; (obtain ⟨c0, c1, c2, c3, c4, c5, c6, c7, c8, c9⟩ := cells10h HB.out.b0); (obtain ⟨d0, d1, d2, d3, d4, d5, d6, d7, d8, d9⟩ := cells10h HB.out.b1))
      | (go_at_call 12; (with_reducible refine Calls.mono (HK1.out _ ?_) ?_); exact HB.out.beh; rintro e wq ⟨rfl, hb⟩; (have HB := Lib.hid (HB.out.on hb)); clear hb; (obtain ⟨c0, c1, c2, c3, c4, c5, c6, c7, c8, c9⟩ := cells10h HB.out.b0); (obtain ⟨d0, d1, d2, d3, d4, d5, d6, d7, d8, d9⟩ := cells10h HB.out.b1))
      | (go_at_call 12; (with_reducible refine Calls.mono (HK2.out _ ?_) ?_); exact HB.out.beh; rintro e wq ⟨rfl, hb⟩; (have HB := Lib.hid (HB.out.on hb)); clear hb; (obtain ⟨c0, c1, c2, c3, c4, c5, c6, c7, c8, c9⟩ := cells10h HB.out.b0); (obtain ⟨d0, d1, d2, d3, d4, d5, d6, d7, d8, d9⟩ := cells10h HB.out.b1))
      | (apply Bh.load_bx 0 HB.out Try.underlying27; rfl; rfl; rfl; rfl; rfl; kernel_rfl)
      | (apply Bh.load_bx 1 HB.out Try.underlying27; rfl; rfl; rfl; rfl; rfl; kernel_rfl))
    go_ret
    exact ⟨rfl, HB.out.beh⟩
  cases k4 : lookedB g
  case false =>
    rw [k1] at HV1
    rw [k2] at HV2
    rw [k3] at HV3
    rw [k4] at HK1
    go_enter Try.func8, Try.ntmps8
    go_wp2_with (first
      | (go_at_call 11; (with_reducible refine Calls.mono (HV1.out _ ?_) ?_); exact HB.out.beh; rintro e wq ⟨rfl, hb⟩; (have HB := Lib.hid (HB.out.on hb)); clear hb; (obtain ⟨c0, c1, c2, c3, c4, c5, c6, c7, c8, c9⟩ := cells10h HB.out.b0); (obtain ⟨d0, d1, d2, d3, d4, d5, d6, d7, d8, d9⟩ := cells10h HB.out.b1))
      | (go_at_call 11; (with_reducible refine Calls.mono (HV2.out _ ?_) ?_); exact HB.out.beh; rintro e wq ⟨rfl, hb⟩; (have HB := Lib.hid (HB.out.on hb)); clear hb; (obtain ⟨c0, c1, c2, c3, c4, c5, c6, c7, c8, c9⟩ := cells10h HB.out.b0); (obtain ⟨d0, d1, d2, d3, d4, d5, d6, d7, d8, d9⟩ := cells10h HB.out.b1))
      | (go_at_call 36; (with_reducible refine Calls.mono (HV3.out _ ?_) ?_); exact HB.out.beh; rintro e wq ⟨rfl, hb⟩; (have HB := Lib.hid (HB.out.on hb)); clear hb; (obtain ⟨c0, c1, c2, c3, c4, c5, c6, c7, c8, c9⟩ := cells10h HB.out.b0); (obtain ⟨d0, d1, d2, d3, d4, d5, d6, d7, d8, d9⟩ := cells10h HB.out.b1))
      | (go_at_call 12; (with_reducible refine Calls.mono (HK1.out _ ?_) ?_); exact HB.out.beh; rintro e wq ⟨rfl, hb⟩; (have HB := Lib.hid (HB.out.on hb)); clear hb; (obtain ⟨c0, c1, c2, c3, c4, c5, c6, c7, c8, c9⟩ := cells10h HB.out.b0); (obtain ⟨d0, d1, d2, d3, d4, d5, d6, d7, d8, d9⟩ := cells10h HB.out.b1))
      | (go_at_call 12; (with_reducible refine Calls.mono (HK2.out _ ?_) ?_); exact HB.out.beh; rintro e wq ⟨rfl, hb⟩; (have HB := Lib.hid (HB.out.on hb)); clear hb; (obtain ⟨c0, c1, c2, c3, c4, c5, c6, c7, c8, c9⟩ := cells10h HB.out.b0); (obtain ⟨d0, d1, d2, d3, d4, d5, d6, d7, d8, d9⟩ := cells10h HB.out.b1))
      | (apply Bh.load_bx 0 HB.out Try.underlying27; rfl; rfl; rfl; rfl; rfl; kernel_rfl)
      | (apply Bh.load_bx 1 HB.out Try.underlying27; rfl; rfl; rfl; rfl; rfl; kernel_rfl))
    go_ret
    exact ⟨rfl, HB.out.beh⟩
  cases k5 : lookedB h
  case false =>
    rw [k1] at HV1
    rw [k2] at HV2
    rw [k3] at HV3
    rw [k4] at HK1
    rw [k5] at HK2
    go_enter Try.func8, Try.ntmps8
    go_wp2_with (first
      | (go_at_call 11; (with_reducible refine Calls.mono (HV1.out _ ?_) ?_); exact HB.out.beh; rintro e wq ⟨rfl, hb⟩; (have HB := Lib.hid (HB.out.on hb)); clear hb; (obtain ⟨c0, c1, c2, c3, c4, c5, c6, c7, c8, c9⟩ := cells10h HB.out.b0); (obtain ⟨d0, d1, d2, d3, d4, d5, d6, d7, d8, d9⟩ := cells10h HB.out.b1))
      | (go_at_call 11; (with_reducible refine Calls.mono (HV2.out _ ?_) ?_); exact HB.out.beh; rintro e wq ⟨rfl, hb⟩; (have HB := Lib.hid (HB.out.on hb)); clear hb; (obtain ⟨c0, c1, c2, c3, c4, c5, c6, c7, c8, c9⟩ := cells10h HB.out.b0); (obtain ⟨d0, d1, d2, d3, d4, d5, d6, d7, d8, d9⟩ := cells10h HB.out.b1))
      | (go_at_call 36; (with_reducible refine Calls.mono (HV3.out _ ?_) ?_); exact HB.out.beh; rintro e wq ⟨rfl, hb⟩; (have HB := Lib.hid (HB.out.on hb)); clear hb; (obtain ⟨c0, c1, c2, c3, c4, c5, c6, c7, c8, c9⟩ := cells10h HB.out.b0); (obtain ⟨d0, d1, d2, d3, d4, d5, d6, d7, d8, d9⟩ := cells10h HB.out.b1))
      | (go_at_call 12; (with_reducible refine Calls.mono (HK1.out _ ?_) ?_); exact HB.out.beh; rintro e wq ⟨rfl, hb⟩; (have HB := Lib.hid (HB.out.on hb)); clear hb; (obtain ⟨c0, c1, c2, c3, c4, c5, c6, c7, c8, c9⟩ := cells10h HB.out.b0); (obtain ⟨d0, d1, d2, d3, d4, d5, d6, d7, d8, d9⟩ := cells10h HB.out.b1))
      | (go_at_call 12; (with_reducible refine Calls.mono (HK2.out _ ?_) ?_); exact HB.out.beh; rintro e wq ⟨rfl, hb⟩; (have HB := Lib.hid (HB.out.on hb)); clear hb; (obtain ⟨c0, c1, c2, c3, c4, c5, c6, c7, c8, c9⟩ := cells10h HB.out.b0); (obtain ⟨d0, d1, d2, d3, d4, d5, d6, d7, d8, d9⟩ := cells10h HB.out.b1))
      | (apply Bh.load_bx 0 HB.out Try.underlying27; rfl; rfl; rfl; rfl; rfl; kernel_rfl)
      | (apply Bh.load_bx 1 HB.out Try.underlying27; rfl; rfl; rfl; rfl; rfl; kernel_rfl))
    go_ret
    exact ⟨rfl, HB.out.beh⟩
  have ng := looked_num k4 (played k1)
  have nh := looked_num k5 (played k2)
  have pl := played_l k3
  have ph := played k2
  rw [k1] at HV1
  rw [k2] at HV2
  rw [k3] at HV3
  rw [k4] at HK1
  rw [k5] at HK2
  have HL1 : Hid (∀ W, Kv.Beh w W → Calls Try.prog 14 #[g.val p] W fun e w' => e = .returned (.tuple #[.int .i64 g.last, .int .i64 g.lastT]) ∧ Below W.heap.size W w') := fun W hW => Last_any g p W ng (HA.out.1.on hW)
  have HL2 : Hid (∀ W, Kv.Beh w W → Calls Try.prog 14 #[h.val q] W fun e w' => e = .returned (.tuple #[.int .i64 h.last, .int .i64 h.lastT]) ∧ Below W.heap.size W w') := fun W hW => Last_any h q W nh (HA.out.2.1.on hW)
  have HN1 : Hid (∀ W, Kv.Beh w W → Calls Try.prog 31 #[g.val p, .int .i64 g.last, .int .i64 g.lastT] W fun e w' => e = .returned (.bool true) ∧ Below W.heap.size W w') := fun W hW => by
    have := Newer_any g p g.last g.lastT W ng (HA.out.1.on hW); rwa [newer_self] at this
  have HN2 : Hid (∀ W, Kv.Beh w W → Calls Try.prog 31 #[g.val p, .int .i64 h.last, .int .i64 h.lastT] W fun e w' => e = .returned (.bool (g.newer h.last h.lastT)) ∧ Below W.heap.size W w') := fun W hW => Newer_any g p h.last h.lastT W ng (HA.out.1.on hW)
  have HN3 : Hid (g.newer h.last h.lastT = false → ∀ W, Kv.Beh w W → Calls Try.prog 31 #[h.val q, .int .i64 g.last, .int .i64 g.lastT] W fun e w' => e = .returned (.bool true) ∧ Below W.heap.size W w') := fun hx W hW => by
    have := Newer_any h q g.last g.lastT W nh (HA.out.2.1.on hW); rwa [newer_any g h hx] at this
  have HP : Hid (∀ W, Kv.Beh w W → Calls Try.prog 42 #[h.val q, .int .i64 h.last, .slice a l.length cap] W (HardTold (h.put h.last l) (h.putOk h.last l) W)) := fun W hW => Put_any h q h.last a cap l W (HA.out.2.1.on hW) (HA.out.2.2.below hW) (by have := ph.snap; omega) (by have := ph.log; omega) (by omega)
  have HZ1 := Lib.hid (fun x => (newer_put (h := h) (l := l) x nh))
  have hxn : h.putOk h.last l = 0 → (h.put h.last l).Num := fun x => ⟨by rw [put_is x]; exact nh.lo, by rw [put_is x]; exact nh.hi, by
    have h1 := (put_end x nh).1
    have h2 := ph.log
    have h3 : (h.put h.last l).base = h.base := by rw [put_is x]
    have h4 : (h.put h.last l).last = (h.put h.last l).base + (h.put h.last l).log.length := rfl
    have h5 : h.last = h.base + h.log.length := rfl
    omega⟩
  have HN4 : Hid (h.putOk h.last l = 0 → ∀ W, Kv.Beh w W → Calls Try.prog 31 #[h.val q, .int .i64 (h.put h.last l).last, .int .i64 (h.put h.last l).lastT] W fun e w' => e = .returned (.bool true) ∧ Below W.heap.size W w') := fun hx W hW => by
    have := Newer_any h q (h.put h.last l).last (h.put h.last l).lastT W nh (HA.out.2.1.on hW); rwa [(HZ1.out hx).1] at this
  have HXN := Lib.hid hxn
  clear hxn
  generalize hnx : g.newer h.last h.lastT = nx at *
  clear hnx
  generalize hX : h.put h.last l = X at *
  generalize hC : h.putOk h.last l = C at *
  clear hX hC
  have hll : l.length ≤ 200 := pl
  clear k1 k2 k3 k4 k5 ng nh pl ph
  generalize g.last = gl at *
  generalize g.lastT = gt at *
  generalize h.last = hl at *
  generalize h.lastT = ht at *
  cases nx
  all_goals
    (try have HN3b := Lib.hid (HN3.out rfl))
    clear HN3
    go_enter Try.func8, Try.ntmps8
    go_wp2_with (first
      | (go_at_call 11; (with_reducible refine Calls.mono (HV1.out _ ?_) ?_); exact HB.out.beh; rintro e wq ⟨rfl, hb⟩; (have HB := Lib.hid (HB.out.on hb)); clear hb; (obtain ⟨c0, c1, c2, c3, c4, c5, c6, c7, c8, c9⟩ := cells10h HB.out.b0); (obtain ⟨d0, d1, d2, d3, d4, d5, d6, d7, d8, d9⟩ := cells10h HB.out.b1))
      | (go_at_call 11; (with_reducible refine Calls.mono (HV2.out _ ?_) ?_); exact HB.out.beh; rintro e wq ⟨rfl, hb⟩; (have HB := Lib.hid (HB.out.on hb)); clear hb; (obtain ⟨c0, c1, c2, c3, c4, c5, c6, c7, c8, c9⟩ := cells10h HB.out.b0); (obtain ⟨d0, d1, d2, d3, d4, d5, d6, d7, d8, d9⟩ := cells10h HB.out.b1))
      | (go_at_call 36; (with_reducible refine Calls.mono (HV3.out _ ?_) ?_); exact HB.out.beh; rintro e wq ⟨rfl, hb⟩; (have HB := Lib.hid (HB.out.on hb)); clear hb; (obtain ⟨c0, c1, c2, c3, c4, c5, c6, c7, c8, c9⟩ := cells10h HB.out.b0); (obtain ⟨d0, d1, d2, d3, d4, d5, d6, d7, d8, d9⟩ := cells10h HB.out.b1))
      | (go_at_call 12; (with_reducible refine Calls.mono (HK1.out _ ?_) ?_); exact HB.out.beh; rintro e wq ⟨rfl, hb⟩; (have HB := Lib.hid (HB.out.on hb)); clear hb; (obtain ⟨c0, c1, c2, c3, c4, c5, c6, c7, c8, c9⟩ := cells10h HB.out.b0); (obtain ⟨d0, d1, d2, d3, d4, d5, d6, d7, d8, d9⟩ := cells10h HB.out.b1))
      | (go_at_call 12; (with_reducible refine Calls.mono (HK2.out _ ?_) ?_); exact HB.out.beh; rintro e wq ⟨rfl, hb⟩; (have HB := Lib.hid (HB.out.on hb)); clear hb; (obtain ⟨c0, c1, c2, c3, c4, c5, c6, c7, c8, c9⟩ := cells10h HB.out.b0); (obtain ⟨d0, d1, d2, d3, d4, d5, d6, d7, d8, d9⟩ := cells10h HB.out.b1))
      | (go_at_call 14; (with_reducible refine Calls.mono (HL1.out _ ?_) ?_); exact HB.out.beh; rintro e wq ⟨rfl, hb⟩; (have HB := Lib.hid (HB.out.on hb)); clear hb; (obtain ⟨c0, c1, c2, c3, c4, c5, c6, c7, c8, c9⟩ := cells10h HB.out.b0); (obtain ⟨d0, d1, d2, d3, d4, d5, d6, d7, d8, d9⟩ := cells10h HB.out.b1))
      | (go_at_call 14; (with_reducible refine Calls.mono (HL2.out _ ?_) ?_); exact HB.out.beh; rintro e wq ⟨rfl, hb⟩; (have HB := Lib.hid (HB.out.on hb)); clear hb; (obtain ⟨c0, c1, c2, c3, c4, c5, c6, c7, c8, c9⟩ := cells10h HB.out.b0); (obtain ⟨d0, d1, d2, d3, d4, d5, d6, d7, d8, d9⟩ := cells10h HB.out.b1))
      | (go_at_call 31; (with_reducible refine Calls.mono (HN1.out _ ?_) ?_); exact HB.out.beh; rintro e wq ⟨rfl, hb⟩; (have HB := Lib.hid (HB.out.on hb)); clear hb; (obtain ⟨c0, c1, c2, c3, c4, c5, c6, c7, c8, c9⟩ := cells10h HB.out.b0); (obtain ⟨d0, d1, d2, d3, d4, d5, d6, d7, d8, d9⟩ := cells10h HB.out.b1))
      | (go_at_call 31; (with_reducible refine Calls.mono (HN2.out _ ?_) ?_); exact HB.out.beh; rintro e wq ⟨rfl, hb⟩; (have HB := Lib.hid (HB.out.on hb)); clear hb; (obtain ⟨c0, c1, c2, c3, c4, c5, c6, c7, c8, c9⟩ := cells10h HB.out.b0); (obtain ⟨d0, d1, d2, d3, d4, d5, d6, d7, d8, d9⟩ := cells10h HB.out.b1))
      | (go_at_call 31; (with_reducible refine Calls.mono (HN3b.out _ ?_) ?_); exact HB.out.beh; rintro e wq ⟨rfl, hb⟩; (have HB := Lib.hid (HB.out.on hb)); clear hb; (obtain ⟨c0, c1, c2, c3, c4, c5, c6, c7, c8, c9⟩ := cells10h HB.out.b0); (obtain ⟨d0, d1, d2, d3, d4, d5, d6, d7, d8, d9⟩ := cells10h HB.out.b1))
      | (apply Bh.load_bx 0 HB.out Try.underlying27; rfl; rfl; rfl; rfl; rfl; kernel_rfl)
      | (apply Bh.load_bx 1 HB.out Try.underlying27; rfl; rfl; rfl; rfl; rfl; kernel_rfl))
    refine Calls.mono (HP.out _ HB.out.beh) ?_
    rintro e wq ⟨xq, rfl, hm⟩
    have HB := Lib.hid (HB.out.on hm.beh)
    have HX := Lib.hid (Bh.Bx.one wq (H.zero.obj Hp.none))
    have HM := Lib.hid hm
    clear hm
    by_cases hc : C = 0
    · have HZ := Lib.hid (HZ1.out hc)
      have HN4b := Lib.hid (HN4.out hc)
      have HXN := HXN.out hc
      have HL3 : Hid (∀ W, Kv.Beh wq W → Calls Try.prog 14 #[X.val xq] W fun e w' => e = .returned (.tuple #[.int .i64 X.last, .int .i64 X.lastT]) ∧ Below W.heap.size W w') := fun W hW => Last_any X xq W HXN (HM.out.on hW).at_
      have HN5 : Hid (∀ W, Kv.Beh wq W → Calls Try.prog 31 #[X.val xq, .int .i64 hl, .int .i64 ht] W fun e w' => e = .returned (.bool (X.newer hl ht)) ∧ Below W.heap.size W w') := fun W hW => Newer_any X xq hl ht W HXN (HM.out.on hW).at_
      subst hc
      clear HN4 HZ1 HP
      by_cases hl0 : l.length = 0
      · have e0 : ((l.length : Int) == 0) = true := by simp [hl0]
        go_wp2_with (first
          | (apply Bh.store_bx 10 0 HX.out; rfl; rfl; rfl; rfl; rfl; rfl; kernel_rfl; rfl; rfl; intro wz hz; have HX := Lib.hid hz; clear hz; (have HBz := Lib.hid (HB.out.on HX.out.beh)); (obtain ⟨c0, c1, c2, c3, c4, c5, c6, c7, c8, c9⟩ := cells10h HBz.out.b0); (obtain ⟨d0, d1, d2, d3, d4, d5, d6, d7, d8, d9⟩ := cells10h HBz.out.b1); (obtain ⟨x0, x1, x2, x3, x4, x5, x6, x7, x8, x9⟩ := cells10h (h := X) (p := xq) HX.out.b0))
          | (apply Bh.load_bx 0 HX.out Try.underlying27; rfl; rfl; rfl; rfl; rfl; kernel_rfl)
          | (apply Bh.load_bx 1 HBz.out Try.underlying27; rfl; rfl; rfl; rfl; rfl; kernel_rfl)
          | (go_at_call 14; (with_reducible refine Calls.mono (HL3.out _ ?_) ?_); exact HX.out.beh; rintro e wy ⟨rfl, hb⟩; (have HX := Lib.hid (HX.out.on hb)); clear hb; (have HBz := Lib.hid (HB.out.on HX.out.beh)); (obtain ⟨c0, c1, c2, c3, c4, c5, c6, c7, c8, c9⟩ := cells10h HBz.out.b0); (obtain ⟨d0, d1, d2, d3, d4, d5, d6, d7, d8, d9⟩ := cells10h HBz.out.b1); (obtain ⟨x0, x1, x2, x3, x4, x5, x6, x7, x8, x9⟩ := cells10h (h := X) (p := xq) HX.out.b0))
          | (go_at_call 31; (with_reducible refine Calls.mono (HN4b.out _ ?_) ?_); exact HB.out.beh.trans HX.out.beh; rintro e wy ⟨rfl, hb⟩; (have HX := Lib.hid (HX.out.on hb)); clear hb; (have HBz := Lib.hid (HB.out.on HX.out.beh)); (obtain ⟨c0, c1, c2, c3, c4, c5, c6, c7, c8, c9⟩ := cells10h HBz.out.b0); (obtain ⟨d0, d1, d2, d3, d4, d5, d6, d7, d8, d9⟩ := cells10h HBz.out.b1); (obtain ⟨x0, x1, x2, x3, x4, x5, x6, x7, x8, x9⟩ := cells10h (h := X) (p := xq) HX.out.b0))
          | (go_at_call 31; (with_reducible refine Calls.mono (HN5.out _ ?_) ?_); exact HX.out.beh; rintro e wy ⟨rfl, hb⟩; (have HX := Lib.hid (HX.out.on hb)); clear hb; (have HBz := Lib.hid (HB.out.on HX.out.beh)); (obtain ⟨c0, c1, c2, c3, c4, c5, c6, c7, c8, c9⟩ := cells10h HBz.out.b0); (obtain ⟨d0, d1, d2, d3, d4, d5, d6, d7, d8, d9⟩ := cells10h HBz.out.b1); (obtain ⟨x0, x1, x2, x3, x4, x5, x6, x7, x8, x9⟩ := cells10h (h := X) (p := xq) HX.out.b0))
          | (go_at_call 35; refine ((HWK _).out).mono ?_; rintro e wy ⟨rfl, hb⟩; (have HX := Lib.hid (HX.out.on hb)); clear hb))
        go_ret
        exact ⟨rfl, HB.out.beh.trans HX.out.beh⟩
      · have e0 : ((l.length : Int) == 0) = false := by rw [beq_eq_false_iff_ne]; omega
        have hn5 := HZ.out.2 hl0
        rw [hn5] at HN5
        go_wp2_with (first
          | (apply Bh.store_bx 10 0 HX.out; rfl; rfl; rfl; rfl; rfl; rfl; kernel_rfl; rfl; rfl; intro wz hz; have HX := Lib.hid hz; clear hz; (have HBz := Lib.hid (HB.out.on HX.out.beh)); (obtain ⟨c0, c1, c2, c3, c4, c5, c6, c7, c8, c9⟩ := cells10h HBz.out.b0); (obtain ⟨d0, d1, d2, d3, d4, d5, d6, d7, d8, d9⟩ := cells10h HBz.out.b1); (obtain ⟨x0, x1, x2, x3, x4, x5, x6, x7, x8, x9⟩ := cells10h (h := X) (p := xq) HX.out.b0))
          | (apply Bh.load_bx 0 HX.out Try.underlying27; rfl; rfl; rfl; rfl; rfl; kernel_rfl)
          | (apply Bh.load_bx 1 HBz.out Try.underlying27; rfl; rfl; rfl; rfl; rfl; kernel_rfl)
          | (go_at_call 14; (with_reducible refine Calls.mono (HL3.out _ ?_) ?_); exact HX.out.beh; rintro e wy ⟨rfl, hb⟩; (have HX := Lib.hid (HX.out.on hb)); clear hb; (have HBz := Lib.hid (HB.out.on HX.out.beh)); (obtain ⟨c0, c1, c2, c3, c4, c5, c6, c7, c8, c9⟩ := cells10h HBz.out.b0); (obtain ⟨d0, d1, d2, d3, d4, d5, d6, d7, d8, d9⟩ := cells10h HBz.out.b1); (obtain ⟨x0, x1, x2, x3, x4, x5, x6, x7, x8, x9⟩ := cells10h (h := X) (p := xq) HX.out.b0))
          | (go_at_call 31; (with_reducible refine Calls.mono (HN4b.out _ ?_) ?_); exact HB.out.beh.trans HX.out.beh; rintro e wy ⟨rfl, hb⟩; (have HX := Lib.hid (HX.out.on hb)); clear hb; (have HBz := Lib.hid (HB.out.on HX.out.beh)); (obtain ⟨c0, c1, c2, c3, c4, c5, c6, c7, c8, c9⟩ := cells10h HBz.out.b0); (obtain ⟨d0, d1, d2, d3, d4, d5, d6, d7, d8, d9⟩ := cells10h HBz.out.b1); (obtain ⟨x0, x1, x2, x3, x4, x5, x6, x7, x8, x9⟩ := cells10h (h := X) (p := xq) HX.out.b0))
          | (go_at_call 31; (with_reducible refine Calls.mono (HN5.out _ ?_) ?_); exact HX.out.beh; rintro e wy ⟨rfl, hb⟩; (have HX := Lib.hid (HX.out.on hb)); clear hb; (have HBz := Lib.hid (HB.out.on HX.out.beh)); (obtain ⟨c0, c1, c2, c3, c4, c5, c6, c7, c8, c9⟩ := cells10h HBz.out.b0); (obtain ⟨d0, d1, d2, d3, d4, d5, d6, d7, d8, d9⟩ := cells10h HBz.out.b1); (obtain ⟨x0, x1, x2, x3, x4, x5, x6, x7, x8, x9⟩ := cells10h (h := X) (p := xq) HX.out.b0))
          | (go_at_call 35; refine ((HWK _).out).mono ?_; rintro e wy ⟨rfl, hb⟩; (have HX := Lib.hid (HX.out.on hb)); clear hb))
        go_ret
        exact ⟨rfl, HB.out.beh.trans HX.out.beh⟩
    · have b1 := beq_eq_false_iff_ne.2 hc
      have b2 : (C != 0) = true := by rw [bne, b1]; rfl
      clear HN4 HZ1 HP hc
      go_wp2_with (first
        | (apply Bh.store_bx 10 0 HX.out; rfl; rfl; rfl; rfl; rfl; rfl; kernel_rfl; rfl; rfl; intro wz hz; have HX := Lib.hid hz; clear hz; (have HBz := Lib.hid (HB.out.on HX.out.beh)); (obtain ⟨c0, c1, c2, c3, c4, c5, c6, c7, c8, c9⟩ := cells10h HBz.out.b0); (obtain ⟨d0, d1, d2, d3, d4, d5, d6, d7, d8, d9⟩ := cells10h HBz.out.b1); (obtain ⟨x0, x1, x2, x3, x4, x5, x6, x7, x8, x9⟩ := cells10h (h := X) (p := xq) HX.out.b0))
        | (go_at_call 35; refine ((HWK _).out).mono ?_; rintro e wq ⟨rfl, hb⟩; (have HX := Lib.hid (HX.out.on hb)); clear hb))
      go_ret
      exact ⟨rfl, HB.out.beh.trans HX.out.beh⟩
theorem LogsNewer_told (x y : H × Hp) (a : Option Addr) (len cap : Nat) (w : World) (hx : HardAt w x.1 x.2) (hy : HardAt w y.1 y.2) (hl : EntsIn w a len cap) :
    Calls Try.prog 8 #[x.1.val x.2, y.1.val y.2, .slice a len cap] w fun e w' => e = .returned (.bool true) ∧ Below w.heap.size w w' := by
  obtain ⟨L, rfl, hL⟩ := hl
  exact LogsNewer_law x.1 x.2 y.1 y.2 a cap L w hx hy hL
end Go.Proofs.Ytaifjkilmdnfbaa.Lg
