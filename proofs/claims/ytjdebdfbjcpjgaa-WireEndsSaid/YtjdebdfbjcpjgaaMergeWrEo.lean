import Derived.Test.YtjdebdfbjcpjgaaMergeWrEn
import Derived.Test.YtjdebdfbjcpjgaaWireTell
import Derived.Deep.DeepCutAuto
section
/- The law WireEnds: one of its ways. -/
namespace Go.Proofs.Ytjdebdfbjcpjgaa.Wr
open Go Go.RowKit Vl Kv Ss Cn Lg Nm Mem
attribute [local go_sem] Nm.run_bits Nm.run_frombits run_store_float
set_option maxHeartbeats 12800000 in
set_option maxRecDepth 100000 in
theorem WireEnds_11 (x : Mr) (n k : Nat) (w : World) (hx : FlAt w x) (rx : RF x.1) (hn : n ≤ 9) (hk : k ≤ 17) (hs : x.1.snap.length ≤ 100) (hy : n ≤ 8) (hz : k ≤ 16) :
    Calls Try.prog 9 #[x.val, .int .i64 (n : Int), .int .i64 (k : Int)] w fun e w' => e = .returned (.bool true) ∧ Below w.heap.size w w' := by
  have HB := Lib.hid (Bh.Bx.one w x.obj)
  have HWK := fun w => Lib.hid (wakes_any w)
  (obtain ⟨c0, c1, c2, c3, c4, c5, c6, c7, c8, c9, c10, c11, c12, c13, c14, c15⟩ := cells16m (x := x) HB.out.b0)
  have d1 : decide ((n : Int) < 0) = false := decide_eq_false (by omega)
  have d2 : decide ((9 : Int) < (n : Int)) = false := decide_eq_false (by omega)
  have d3 : decide ((k : Int) < 0) = false := decide_eq_false (by omega)
  have d4 : decide ((17 : Int) < (k : Int)) = false := decide_eq_false (by omega)
  have d5 : decide ((100 : Int) < (x.1.snap.length : Int)) = false := decide_eq_false (by omega)
  have hmk := fun w => run_makeE w n (by omega)
  have hmk2 := fun w => run_makeM w k (by omega)
  have HXA := Lib.hid hx
  have HRX := Lib.hid rx
  have HS := Lib.hid hs
  clear hx rx hs
  go_enter Try.func9, Try.ntmps9
  go_upto_region 3 with fail
  go_cut [] (fun wx => ∃ y : Mr, Bh.Bx w [y.obj] wx ∧ Wm (n ≤ 8) wx y [])
  case first =>
    go_region
    go_wp2_with fail
    go_meet
    case rel =>
      refine ⟨endX x (w.heap.size + 1) n, ?_, ?_⟩
      · rw [end_obj]
        exact ((Bh.Bx.one w _).alloc _).drew
      · refine wm_end (HXA.out.on ?_) HRX.out HS.out hn ?_
        · exact ((Bh.Bx.one w _).alloc _).drew.beh
        · have h := madeEnts (w.alloc (endX x (w.heap.size + 1) n).obj) n
          rw [size_alloc, end_obj] at h
          exact h
  case rest =>
    obtain ⟨y, hb, hyy⟩ := hcut
    have HB := Lib.hid hb
    have HWY := Lib.hid hyy
    clear hb hyy hmk HXA HRX HS c0 c1 c2 c3 c4 c5 c6 c7 c8 c9 c10 c11 c12 c13 c14 c15
    go_upto_region 4 with fail
    go_cut [7] (fun s7 wx => ∃ (wz : World) (z : Mr) (LZ : List Mr), s7 = .pointer (some ⟨wz.heap.size, 0, none⟩) ∧ Bh.Bx wz [z.obj] wx ∧ Bh.Bx w [y.obj] wx ∧ Wm (n ≤ 8) wx y [] ∧ Wm (k ≤ 16) wx z LZ)
    case first =>
      go_wp2_with fail
      go_meet
      case rel =>
        have h1 := below_alloc2 wc (.cells (madeCells Mr.zero.val.cells (k * 16)) 61) (relX wc.heap.size k).obj
        refine ⟨wc.alloc (.cells (madeCells Mr.zero.val.cells (k * 16)) 61), relX wc.heap.size k, _, by rw [size_alloc], Bh.Bx.one _ _, HB.out.on h1, HWY.out.on h1, wm_rel hk ?_⟩
        exact Bh.alloc_old _ (madeMsgs wc k)
    case rest =>
      obtain ⟨wz, z, LZ, rfl, hz1, hb, hyy, hz2⟩ := hcut
      have HB := Lib.hid hb
      have HZ := Lib.hid hz1
      have HWY := Lib.hid hyy
      have HWZ := Lib.hid hz2
      clear hb hz1 hyy hz2 hmk2
      have f1 : decide ((n : Int) ≤ 8) = true := decide_eq_true (by omega)
      have f2 : decide ((k : Int) ≤ 16) = true := decide_eq_true (by omega)
      go_wp2_with (first | (apply Bh.load_bx 0 HB.out Try.underlying61; rfl; rfl; rfl; rfl; rfl; kernel_rfl) | (apply Bh.load_bx 0 HZ.out Try.underlying61; rfl; rfl; rfl; rfl; rfl; kernel_rfl))
      refine Calls.mono ((HWY.out.on (Beh.start _)).write hy) ?_
      rintro e w1 ⟨b1, a1, c1, rfl, ho, hb⟩
      have HB := Lib.hid (HB.out.on hb); have HZ := Lib.hid (HZ.out.on hb); have HWY := Lib.hid (HWY.out.on hb); have HWZ := Lib.hid (HWZ.out.on hb)
      have HOY := Lib.hid ho; clear ho
      clear hb
      obtain ⟨n1, hn1⟩ : ∃ n1 : Nat, n1 = (cMsg.enc (me y [])).length := ⟨_, rfl⟩; have HN1 := Lib.hid hn1; rw [← hn1]; clear hn1
      go_wp2_with (first | (apply Bh.load_bx 0 HB.out Try.underlying61; rfl; rfl; rfl; rfl; rfl; kernel_rfl) | (apply Bh.load_bx 0 HZ.out Try.underlying61; rfl; rfl; rfl; rfl; rfl; kernel_rfl))
      refine Calls.mono ((HWZ.out.on (Beh.start _)).write hz) ?_
      rintro e w2 ⟨b2, a2, c2, rfl, ho, hb⟩
      have HB := Lib.hid (HB.out.on hb); have HZ := Lib.hid (HZ.out.on hb); have HWY := Lib.hid (HWY.out.on hb); have HWZ := Lib.hid (HWZ.out.on hb)
      have HOY := Lib.hid (HOY.out.kept (kept_beh hb) (fun _ h => h.elim))
      have HOZ := Lib.hid ho; clear ho
      clear hb
      obtain ⟨n2, hn2⟩ : ∃ n2 : Nat, n2 = (cMsg.enc (me z LZ)).length := ⟨_, rfl⟩; have HN2 := Lib.hid hn2; rw [← hn2]; clear hn2
      go_upto_region 7 with fail
      go_cut [90] (fun s90 wx => s90 = .bool false ∧ w2 = wx)
      case first =>
        go_wp2_with fail
        go_meet
        case rel => exact ⟨rfl, rfl⟩
      case rest =>
        obtain ⟨rfl, rfl⟩ := hcut
        go_wp2_with (first | (apply Bh.load_bx 0 HB.out Try.underlying61; rfl; rfl; rfl; rfl; rfl; kernel_rfl) | (apply Bh.load_bx 0 HZ.out Try.underlying61; rfl; rfl; rfl; rfl; rfl; kernel_rfl))
        have HRX := Rd_M2 (w := w2) (HWY.out.yes hy).1 (HWY.out.yes hy).2 HOY.out
        rw [← HN1.out] at HRX
        refine Calls.mono HRX ?_
        rintro e r1 ⟨p2, LM, rfl, hm2, he2, hn2, hb⟩
        have HKX : Hid (∀ W, Kv.Beh r1 W → Calls Try.prog 29 #[Mr.val (y.1, p2), y.val] W fun e w' => e = .returned (.bool true) ∧ Below W.heap.size W w') := fun W h1 => keepMsg_self y.1 p2 y.2 LM [] W (hm2.on h1) ((HWY.out.on hb).on h1).at_ he2 hn2 HWY.out.snap (by rw [fst_all2 he2]; exact fun f hf => by obtain ⟨y, hy, rfl⟩ := List.mem_map.1 hf; exact HWY.out.snaps y hy)
        have HB := Lib.hid (HB.out.on hb); have HZ := Lib.hid (HZ.out.on hb); have HWY := Lib.hid (HWY.out.on hb); have HWZ := Lib.hid (HWZ.out.on hb)
        have HOZ := Lib.hid (HOZ.out.kept (kept_beh hb) (fun _ h => h.elim))
        have HX := Lib.hid (Bh.Bx.one r1 Mr.zero.obj)
        clear HRX hm2 he2 hn2 hb
        go_upto_region 13 with (first | (apply Bh.store_bx 16 0 HX.out; rfl; rfl; rfl; rfl; rfl; rfl; kernel_rfl; rfl; rfl; intro wz hz1; have HX := Lib.hid hz1; (have HB := Lib.hid (HB.out.on hz1.beh)); (have HZ := Lib.hid (HZ.out.on hz1.beh)); (have HWY := Lib.hid (HWY.out.on hz1.beh)); (have HWZ := Lib.hid (HWZ.out.on hz1.beh)); (have HOZ := Lib.hid (HOZ.out.kept (kept_beh hz1.beh) (fun _ h => h.elim))); clear hz1) | (go_at_call 29; refine Calls.mono (HKX.out _ HX.out.beh) ?_; rintro e wky ⟨rfl, hb⟩; (have HB := Lib.hid (HB.out.on hb)); (have HZ := Lib.hid (HZ.out.on hb)); (have HWY := Lib.hid (HWY.out.on hb)); (have HWZ := Lib.hid (HWZ.out.on hb)); (have HOZ := Lib.hid (HOZ.out.kept (kept_beh hb) (fun _ h => h.elim))); clear hb) | (apply Bh.load_bxg 0 HX.out Try.underlying61; rfl; exact Eq.refl true; rfl; rfl; rfl; kernel_rfl) | (apply Bh.load_bxg 0 HB.out Try.underlying61; rfl; exact Eq.refl true; rfl; rfl; rfl; kernel_rfl) | (apply Bh.load_bxg 0 HZ.out Try.underlying61; rfl; exact Eq.refl true; rfl; rfl; rfl; kernel_rfl) | (apply Bh.load_bx 0 HB.out Try.underlying61; rfl; rfl; rfl; rfl; rfl; kernel_rfl) | (apply Bh.load_bx 0 HZ.out Try.underlying61; rfl; rfl; rfl; rfl; rfl; kernel_rfl))
        clear HX HKX
        go_cut [107] (fun s107 wx => s107 = .bool true ∧ wky = wx)
        case first =>
          go_wp2_with fail
          go_meet
          case rel => exact ⟨rfl, rfl⟩
        case rest =>
          obtain ⟨rfl, rfl⟩ := hcut
          go_wp2_with (first | (apply Bh.load_bx 0 HB.out Try.underlying61; rfl; rfl; rfl; rfl; rfl; kernel_rfl) | (apply Bh.load_bx 0 HZ.out Try.underlying61; rfl; rfl; rfl; rfl; rfl; kernel_rfl))
          have HRX := Rd_M2 (w := wky) (HWZ.out.yes hz).1 (HWZ.out.yes hz).2 HOZ.out
          rw [← HN2.out] at HRX
          refine Calls.mono HRX ?_
          rintro e r2 ⟨p2, LM, rfl, hm2, he2, hn2, hb⟩
          have HKX : Hid (∀ W, Kv.Beh r2 W → Calls Try.prog 29 #[Mr.val (z.1, p2), z.val] W fun e w' => e = .returned (.bool true) ∧ Below W.heap.size W w') := fun W h1 => keepMsg_self z.1 p2 z.2 LM LZ W (hm2.on h1) ((HWZ.out.on hb).on h1).at_ he2 hn2 HWZ.out.snap (by rw [fst_all2 he2]; exact fun f hf => by obtain ⟨y, hy, rfl⟩ := List.mem_map.1 hf; exact HWZ.out.snaps y hy)
          have HB := Lib.hid (HB.out.on hb); have HZ := Lib.hid (HZ.out.on hb); have HWY := Lib.hid (HWY.out.on hb); have HWZ := Lib.hid (HWZ.out.on hb)
          have HX := Lib.hid (Bh.Bx.one r2 Mr.zero.obj)
          clear HRX hm2 he2 hn2 hb
          go_wp2_with (first | (apply Bh.store_bx 16 0 HX.out; rfl; rfl; rfl; rfl; rfl; rfl; kernel_rfl; rfl; rfl; intro wz hz1; have HX := Lib.hid hz1; (have HB := Lib.hid (HB.out.on hz1.beh)); (have HZ := Lib.hid (HZ.out.on hz1.beh)); (have HWY := Lib.hid (HWY.out.on hz1.beh)); (have HWZ := Lib.hid (HWZ.out.on hz1.beh)); clear hz1) | (go_at_call 29; refine Calls.mono (HKX.out _ HX.out.beh) ?_; rintro e wkz ⟨rfl, hb⟩; (have HB := Lib.hid (HB.out.on hb)); (have HZ := Lib.hid (HZ.out.on hb)); (have HWY := Lib.hid (HWY.out.on hb)); (have HWZ := Lib.hid (HWZ.out.on hb)); clear hb) | (apply Bh.load_bxg 0 HX.out Try.underlying61; rfl; exact Eq.refl true; rfl; rfl; rfl; kernel_rfl) | (apply Bh.load_bxg 0 HB.out Try.underlying61; rfl; exact Eq.refl true; rfl; rfl; rfl; kernel_rfl) | (apply Bh.load_bxg 0 HZ.out Try.underlying61; rfl; exact Eq.refl true; rfl; rfl; rfl; kernel_rfl) | (apply Bh.load_bx 0 HB.out Try.underlying61; rfl; rfl; rfl; rfl; rfl; kernel_rfl) | (apply Bh.load_bx 0 HZ.out Try.underlying61; rfl; rfl; rfl; rfl; rfl; kernel_rfl))
          clear HX HKX
          have HNO := Lib.hid (in_no (w := wkz))
          (try go_wp2_with fail)
          refine Calls.mono HNO.out ?_
          rintro e w9 ⟨rfl, hb⟩
          have HB := Lib.hid ((HB.out.on (below_alloc2 _ _ _)).on hb)
          clear hb HNO
          go_wp2_with (go_at_call 17; refine Calls.mono ((HWK _).out) ?_; rintro e w10 ⟨rfl, hb⟩; (have HB := Lib.hid (HB.out.on hb)); clear hb)
          go_ret
          exact ⟨rfl, HB.out.beh⟩
end Go.Proofs.Ytjdebdfbjcpjgaa.Wr
end
section
/- The law WireEnds. -/
namespace Go.Proofs.Ytjdebdfbjcpjgaa.Wr
open Go Go.RowKit Vl Kv Ss Cn Lg Nm Mem
attribute [local go_sem] Nm.run_bits Nm.run_frombits run_store_float
set_option maxHeartbeats 12800000 in
set_option maxRecDepth 100000 in
theorem WireEnds_out (x : Mr) (N K : Int) (w : World) (h : N < 0 ∨ 9 < N ∨ K < 0 ∨ 17 < K ∨ 100 < x.1.snap.length) :
    Calls Try.prog 9 #[x.val, .int .i64 N, .int .i64 K] w fun e w' => e = .returned (.bool true) ∧ Below w.heap.size w w' := by
  have HB := Lib.hid (Bh.Bx.one w x.obj)
  (obtain ⟨c0, c1, c2, c3, c4, c5, c6, c7, c8, c9, c10, c11, c12, c13, c14, c15⟩ := cells16m (x := x) HB.out.b0)
  by_cases h1 : N < 0
  · have d1 : decide (N < 0) = true := decide_eq_true h1
    clear h
    go_enter Try.func9, Try.ntmps9
    go_wp2_with fail
    go_ret
    exact ⟨rfl, HB.out.beh⟩
  have d1 : decide (N < 0) = false := decide_eq_false h1
  by_cases h2 : 9 < N
  · have d2 : decide (9 < N) = true := decide_eq_true h2
    clear h
    go_enter Try.func9, Try.ntmps9
    go_wp2_with fail
    go_ret
    exact ⟨rfl, HB.out.beh⟩
  have d2 : decide (9 < N) = false := decide_eq_false h2
  by_cases h3 : K < 0
  · have d3 : decide (K < 0) = true := decide_eq_true h3
    clear h
    go_enter Try.func9, Try.ntmps9
    go_wp2_with fail
    go_ret
    exact ⟨rfl, HB.out.beh⟩
  have d3 : decide (K < 0) = false := decide_eq_false h3
  by_cases h4 : 17 < K
  · have d4 : decide (17 < K) = true := decide_eq_true h4
    clear h
    go_enter Try.func9, Try.ntmps9
    go_wp2_with fail
    go_ret
    exact ⟨rfl, HB.out.beh⟩
  have d4 : decide (17 < K) = false := decide_eq_false h4
  have d5 : decide ((100 : Int) < (x.1.snap.length : Int)) = true := decide_eq_true (by omega)
  clear h
  go_enter Try.func9, Try.ntmps9
  go_wp2_with fail
  go_ret
  exact ⟨rfl, HB.out.beh⟩
theorem WireEnds_law (x : Mr) (N K : Int) (w : World) (hx : FlAt w x) (rx : RF x.1) :
    Calls Try.prog 9 #[x.val, .int .i64 N, .int .i64 K] w fun e w' => e = .returned (.bool true) ∧ Below w.heap.size w w' := by
  by_cases h : N < 0 ∨ 9 < N ∨ K < 0 ∨ 17 < K ∨ 100 < x.1.snap.length
  · exact WireEnds_out x N K w h
  · obtain ⟨n, rfl⟩ : ∃ n : Nat, N = (n : Int) := ⟨N.toNat, by omega⟩
    obtain ⟨k, rfl⟩ : ∃ k : Nat, K = (k : Int) := ⟨K.toNat, by omega⟩
    have h1 : n ≤ 9 := by omega
    have h2 : k ≤ 17 := by omega
    have h3 : x.1.snap.length ≤ 100 := by omega
    by_cases hy : n ≤ 8
    · by_cases hz : k ≤ 16
      · exact WireEnds_11 x n k w hx rx h1 h2 h3 hy hz
      · exact WireEnds_10 x n k w hx rx h1 h2 h3 hy hz
    · by_cases hz : k ≤ 16
      · exact WireEnds_01 x n k w hx rx h1 h2 h3 hy hz
      · exact WireEnds_00 x n k w hx rx h1 h2 h3 hy hz
end Go.Proofs.Ytjdebdfbjcpjgaa.Wr
end
section
/- WireEnds, in the form that its card wants. -/
namespace Go.Proofs.Ytjdebdfbjcpjgaa.Wr
open Go Go.RowKit Lg
theorem WireEnds_told (x : Mr) (N K : Int) (w : World) (hx : MsgD w 2 x) (_ : (Lit.int IntKind.i64 N).wf = true) (_ : (Lit.int IntKind.i64 K).wf = true) :
    Calls Try.prog 9 #[x.val, .int .i64 N, .int .i64 K] w fun e w' => e = .returned (.bool true) ∧ Below w.heap.size w w' := by
  obtain ⟨L, h1, h2, h3⟩ := hx.open_
  exact WireEnds_law x N K w h1.flat h2
end Go.Proofs.Ytjdebdfbjcpjgaa.Wr
end
