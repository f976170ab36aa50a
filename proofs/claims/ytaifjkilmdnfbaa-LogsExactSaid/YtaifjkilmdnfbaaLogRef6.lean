/- The reference: Force. -/
import Derived.Test.YtaifjkilmdnfbaaLogCode9
namespace Go.Proofs.Ytaifjkilmdnfbaa.Lg
open Go Go.RowKit Vl Kv Ss Cn Mem Li Nm
attribute [local go_sem] Nm.run_bits Nm.run_frombits run_store_float
attribute [local irreducible] wpQuiet
set_option maxHeartbeats 6400000 in
set_option maxRecDepth 100000 in
theorem rForce_any (h : H) (p : Hp) (u : Int) (w : World) (hn : h.Num) (ha : HardAt w h p) :
    Calls Try.prog 24 #[h.val p, .int .i64 u] w (ForceTold h u w) := by
  unfold ForceTold
  have HB := Lib.hid (Bh.Bx.three w (h.obj p) (Lg.C.obj C.zero) (Lg.C.obj C.zero))
  have HI := Lib.hid ha.log
  have n1 := hn.lo; have n2 := hn.hi; have n3 := hn.len
  have HF := Lib.hid (show h.force u = forceK h u h.log.length from rfl)
  have HS1 := fun k => Lib.hid (forceK_step (h := h) (u := u) (k := k))
  have HS2 := fun k => Lib.hid (forceK_skip (h := h) (u := u) (k := k))
  have HS0 := Lib.hid (show forceK h u 0 = (h.conf, h.base) from rfl)
  clear ha hn
  rw [HF.out]
  obtain ⟨c0, c1, c2, c3, c4, c5, c6, c7, c8, c9⟩ := cells10h (Bh.Bx.two w (h.obj p) (Lg.C.obj C.zero)).b0
  go_enter Try.func24, Try.ntmps24
  go_wp2_with fail
  go_region
  all_goals
    have HB : Hid (Bh.Bx w [h.obj p, Lg.C.obj C.zero, Lg.C.obj h.conf] ((((w.alloc (h.obj p)).alloc (Lg.C.obj C.zero)).alloc (Lg.C.obj h.conf)).drew)) := (Bh.Bx.three w (h.obj p) (Lg.C.obj C.zero) (Lg.C.obj h.conf)).drew
    clear c0 c1 c2 c3 c4 c5 c6 c7 c8 c9
    go_wp2_with fail
    go_loopw [7, 8] (fun s i wr => ∃ k : Nat, k ≤ h.log.length ∧ i = .int .i64 k ∧ s = .int .i64 (forceK h u k).2 ∧ Hid (Bh.Bx w [h.obj p, Lg.C.obj C.zero, Lg.C.obj (forceK h u k).1] wr)) (fun _ i _ => h.log.length - (intOf i).toNat)
    case atStart => exact ⟨0, by omega, rfl, by rw [HS0.out], by show Bh.Bx _ _ _; rw [HS0.out]; exact HB.out⟩
    case round =>
      obtain ⟨k, hk, rfl, rfl, HW⟩ := hrel
      obtain ⟨c0, c1, c2, c3, c4, c5, c6, c7, c8, c9⟩ := cells10h HW.out.b0
      by_cases hlt : k < h.log.length
      · obtain ⟨bb, off, hla, _⟩ := HI.out.at_ (by omega)
        have HC : Hid (∀ W, Kv.Beh w W → E.Cells W bb (off + k * 16) (h.log.getD k E.zero)) := fun W hW => by
          obtain ⟨_, _, he, hc⟩ := (HI.out.below hW).at_ (by omega)
          rw [hla] at he
          cases he
          have := hc k hlt
          rw [show h.log.getD k E.zero = h.log[k] by simp [hlt]]
          exact cells_of this
        have HS1 := Lib.hid ((HS1 k).out)
        have HS2 := Lib.hid ((HS2 k).out)
        generalize h.log.getD k E.zero = x at *
        generalize hfk : forceK h u k = fk at *
        clear hfk
        obtain ⟨fc, fi⟩ := fk
        dsimp only at HW HS2
        rw [hla] at c9
        obtain ⟨e0, e1, e2, e3, e4, e5, e6, e7, e8, e9, e10, e11, e12, e13, e14, e15⟩ := HC.out _ HW.out.beh
        cases x2 : decide (h.base + (k : Int) + 1 ≤ u)
        · have HN := Lib.hid (HS2.out (by intro hh; have h2 := hh.2; rw [decide_eq_true h2] at x2; cases x2))
          go_wp2_with fail
          go_roundw
          case rel => exact ⟨k + 1, by omega, by go_num, by rw [HN.out], by show Bh.Bx _ _ _; rw [HN.out]; exact HW.out⟩
          case measure => simp [intOf]; omega
        · cases x1 : (x.kind == 2)
          · have HN := Lib.hid (HS2.out (by intro hh; rw [hh.1] at x1; cases x1))
            go_wp2_with fail
            go_roundw
            case rel => exact ⟨k + 1, by omega, by go_num, by rw [HN.out], by show Bh.Bx _ _ _; rw [HN.out]; exact HW.out⟩
            case measure => simp [intOf]; omega
          · have HN := Lib.hid (HS1.out (by simpa using x1) (of_decide_eq_true x2))
            obtain ⟨d0, d1, d2, d3⟩ := cells4c HW.out.b2
            have f := fun j => frozen_of HW.out.b2 j
            have v1 : IntKind.i64.wrap (h.base + (k : Int)) = h.base + k := wrap_in (by omega) (by omega)
            have v2 : IntKind.i64.wrap (h.base + (k : Int) + 1) = h.base + k + 1 := wrap_in (by omega) (by omega)
            go_wp2_with fail
            go_region
            all_goals
              have HY := Lib.hid (HW.out.drew.st4 2 (b := w.heap.size + 1 + 1) rfl rfl (.int .i64 x.conf.f) (.int .i64 x.conf.w) (.int .i64 x.conf.l) (.int .i64 x.conf.x))
              go_wp2_with fail
              go_roundw
              case rel => exact ⟨k + 1, by omega, by go_num, by rw [HN.out], by show Bh.Bx _ _ _; rw [HN.out]; exact HY.out⟩
              case measure => simp [intOf]; omega
      · obtain rfl : k = h.log.length := by omega
        clear c0 c1 c2 c3 c4 c5 c6 c7 c8 c9
        obtain ⟨c0, c1, c2, c3, c4, c5, c6, c7, c8, c9⟩ := cells10h HW.out.b0
        go_wp2_with (first
          | (apply Bh.load_bx 2 HW.out Try.underlying23; rfl; rfl; rfl; rfl; rfl; kernel_rfl)
          | (apply Bh.store_bx 4 1 HW.out; rfl; rfl; rfl; rfl; rfl; rfl; kernel_rfl; rfl; rfl; intro wy hy; have HW := Lib.hid hy; clear hy))
        (try simp only [Exit.inBlock, Exit.then])
        refine bodyPost_ret (Bh.results_cell_row2 rfl _ _ _ _ _ _ _ rfl HW.out.b1 Try.underlying23 rfl (by kernel_rfl)) rfl ?_
        exact ⟨rfl, HW.out.beh⟩
end Go.Proofs.Ytaifjkilmdnfbaa.Lg
