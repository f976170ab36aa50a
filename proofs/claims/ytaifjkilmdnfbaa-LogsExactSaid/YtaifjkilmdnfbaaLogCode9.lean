import Derived.Test.YtaifjkilmdnfbaaMergeLgC
import Derived.Test.YtaifjkilmdnfbaaLogSlice
/- Package logs: Conf. -/
namespace Go.Proofs.Ytaifjkilmdnfbaa.Lg
open Go Go.RowKit Vl Kv Ss Cn Mem Li Nm
attribute [local go_sem] Nm.run_bits Nm.run_frombits run_store_float
attribute [local irreducible] wpQuiet
theorem forceK_step {h : H} {u : Int} {k : Nat} (x : (h.log.getD k E.zero).kind = 2) (y : h.base + k + 1 ≤ u) : forceK h u (k + 1) = ((h.log.getD k E.zero).conf, h.base + k + 1) := by
  show (if _ then _ else _) = _; rw [if_pos ⟨x, y⟩]
theorem forceK_skip {h : H} {u : Int} {k : Nat} (x : ¬ ((h.log.getD k E.zero).kind = 2 ∧ h.base + k + 1 ≤ u)) : forceK h u (k + 1) = forceK h u k := by
  show (if _ then _ else _) = _; rw [if_neg x]
/-- what Conf tells -/
def ForceTold (h : H) (u : Int) (w : World) (e : Ending) (w' : World) : Prop := e = .returned (.tuple #[(h.force u).1.val, .int .i64 (h.force u).2]) ∧ Below w.heap.size w w'
theorem cells4c {w : World} {b : Nat} {c : C} (h : w.heap[b]? = some (Lg.C.obj c)) : w.cell? ⟨b, 0, none⟩ = some (.int .i64 c.f) ∧ w.cell? ⟨b, 1, none⟩ = some (.int .i64 c.w) ∧ w.cell? ⟨b, 2, none⟩ = some (.int .i64 c.l) ∧ w.cell? ⟨b, 3, none⟩ = some (.int .i64 c.x) := Bh.cells4 h
set_option maxHeartbeats 6400000 in
set_option maxRecDepth 100000 in
theorem Conf_any (h : H) (p : Hp) (u : Int) (w : World) (hn : h.Num) (ha : HardAt w h p) :
    Calls Try.prog 23 #[h.val p, .int .i64 u] w (ForceTold h u w) := by
  unfold ForceTold
  have HB := Lib.hid (Bh.Bx.two w (h.obj p) (Lg.C.obj C.zero))
  have HI := Lib.hid ha.log
  have n1 := hn.lo; have n2 := hn.hi; have n3 := hn.len
  have HF := Lib.hid (show h.force u = forceK h u h.log.length from rfl)
  have HS1 := fun k => Lib.hid (forceK_step (h := h) (u := u) (k := k))
  have HS2 := fun k => Lib.hid (forceK_skip (h := h) (u := u) (k := k))
  have HS0 := Lib.hid (show forceK h u 0 = (h.conf, h.base) from rfl)
  clear ha hn
  rw [HF.out]
  obtain ⟨c0, c1, c2, c3, c4, c5, c6, c7, c8, c9⟩ := cells10h HB.out.b0
  obtain ⟨d0, d1, d2, d3⟩ := cells4c HB.out.b1
  have f := fun j => frozen_of HB.out.b1 j
  go_enter Try.func23, Try.ntmps23
  go_wp2_with fail
  go_region
  all_goals
    have HB : Hid (Bh.Bx w [h.obj p, Lg.C.obj h.conf] (((w.alloc (h.obj p)).alloc (Lg.C.obj h.conf)).drew)) := (Bh.Bx.two w (h.obj p) (Lg.C.obj h.conf)).drew
    clear c0 c1 c2 c3 c4 c5 c6 c7 c8 c9 d0 d1 d2 d3 f
    obtain ⟨c0, c1, c2, c3, c4, c5, c6, c7, c8, c9⟩ := cells10h HB.out.b0
    go_wp2_with fail
    clear c0 c1 c2 c3 c4 c5 c6 c7 c8 c9
    go_loopw [5, 6, 7, 8, 16] (fun s _ _ _ i wr => ∃ k : Nat, k ≤ h.log.length ∧ i = .int .i64 k ∧ s = .int .i64 (forceK h u k).2 ∧ Hid (Bh.Bx w [h.obj p, Lg.C.obj (forceK h u k).1] wr)) (fun _ _ _ _ i _ => h.log.length - (intOf i).toNat)
    case atStart => exact ⟨0, by omega, rfl, by rw [HS0.out], by show Bh.Bx _ _ _; rw [HS0.out]; exact HB.out⟩
    case round =>
      obtain ⟨k, hk, rfl, rfl, HW⟩ := hrel
      obtain ⟨c0, c1, c2, c3, c4, c5, c6, c7, c8, c9⟩ := cells10h HW.out.b0
      by_cases hlt : k < h.log.length
      · obtain ⟨bb, off, hla, _⟩ := HI.out.at_ (by omega)
        have HC : Hid (∀ W, Kv.Beh w W → W.rangeAt bb (off + k * 16) (h.log.getD k E.zero).cells) := fun W hW => by
          obtain ⟨_, _, he, hc⟩ := (HI.out.below hW).at_ (by omega)
          rw [hla] at he
          cases he
          have := hc k hlt
          rw [show h.log.getD k E.zero = h.log[k] by simp [hlt]]
          exact this
        have HS1 := Lib.hid ((HS1 k).out)
        have HS2 := Lib.hid ((HS2 k).out)
        have HX := Lib.hid (Bh.Bx.one wr E.zero.obj)
        generalize h.log.getD k E.zero = x at *
        generalize hfk : forceK h u k = fk at *
        clear hfk
        obtain ⟨fc, fi⟩ := fk
        dsimp only at HW HS2
        rw [hla] at *
        cases x1 : (x.kind == 2)
        · have HN := Lib.hid (HS2.out (by intro hh; rw [hh.1] at x1; cases x1))
          go_wp2_with (first
            | (refine wpList_load_mid rfl _ _ rfl _ _ rfl x.cells _ (HC.out _ HW.out.beh) Try.underlying40 rfl (by kernel_rfl) ?_)
            | (apply Bh.store_bx 16 0 HX.out; rfl; rfl; rfl; rfl; rfl; rfl; kernel_rfl; rfl; rfl; intro wz hz; have HX := Lib.hid hz; clear hz; (have HW := Lib.hid (HW.out.on HX.out.beh)); (obtain ⟨c0, c1, c2, c3, c4, c5, c6, c7, c8, c9⟩ := cells10h HW.out.b0); (obtain ⟨e0, e1, e2, e3, e4, e5, e6, e7, e8, e9, e10, e11, e12, e13, e14, e15⟩ := cells16 HX.out.b0)))
          go_roundw
          case rel => exact ⟨k + 1, by omega, by go_num, by rw [HN.out], by show Bh.Bx _ _ _; rw [HN.out]; exact HW.out⟩
          case measure => simp [intOf]; omega
        · cases x2 : decide (h.base + (k : Int) + 1 ≤ u)
          · have HN := Lib.hid (HS2.out (by intro hh; have h2 := hh.2; rw [decide_eq_true h2] at x2; cases x2))
            go_wp2_with (first
              | (refine wpList_load_mid rfl _ _ rfl _ _ rfl x.cells _ (HC.out _ HW.out.beh) Try.underlying40 rfl (by kernel_rfl) ?_)
              | (apply Bh.store_bx 16 0 HX.out; rfl; rfl; rfl; rfl; rfl; rfl; kernel_rfl; rfl; rfl; intro wz hz; have HX := Lib.hid hz; clear hz; (have HW := Lib.hid (HW.out.on HX.out.beh)); (obtain ⟨c0, c1, c2, c3, c4, c5, c6, c7, c8, c9⟩ := cells10h HW.out.b0); (obtain ⟨e0, e1, e2, e3, e4, e5, e6, e7, e8, e9, e10, e11, e12, e13, e14, e15⟩ := cells16 HX.out.b0)))
            go_roundw
            case rel => exact ⟨k + 1, by omega, by go_num, by rw [HN.out], by show Bh.Bx _ _ _; rw [HN.out]; exact HW.out⟩
            case measure => simp [intOf]; omega
          · have HN := Lib.hid (HS1.out (by simpa using x1) (of_decide_eq_true x2))
            go_wp2_with (first
              | (refine wpList_load_mid rfl _ _ rfl _ _ rfl x.cells _ (HC.out _ HW.out.beh) Try.underlying40 rfl (by kernel_rfl) ?_)
              | (apply Bh.store_bx 16 0 HX.out; rfl; rfl; rfl; rfl; rfl; rfl; kernel_rfl; rfl; rfl; intro wz hz; have HX := Lib.hid hz; clear hz; (have HW := Lib.hid (HW.out.on HX.out.beh)); (obtain ⟨c0, c1, c2, c3, c4, c5, c6, c7, c8, c9⟩ := cells10h HW.out.b0); (obtain ⟨e0, e1, e2, e3, e4, e5, e6, e7, e8, e9, e10, e11, e12, e13, e14, e15⟩ := cells16 HX.out.b0))
              | (apply Bh.store_bx 4 1 HW.out; rfl; rfl; rfl; rfl; rfl; rfl; kernel_rfl; rfl; rfl; intro wy hy; have HW := Lib.hid hy; clear hy))
            go_roundw
            case rel => exact ⟨k + 1, by omega, by go_num, by rw [HN.out], by show Bh.Bx _ _ _; rw [HN.out]; exact HW.out⟩
            case measure => simp [intOf]; omega
      · obtain rfl : k = h.log.length := by omega
        go_wp2_with (first
          | (apply Bh.load_bx 1 HW.out Try.underlying23; rfl; rfl; rfl; rfl; rfl; kernel_rfl)
          | (apply Bh.store_bx 4 1 HW.out; rfl; rfl; rfl; rfl; rfl; rfl; kernel_rfl; rfl; rfl; intro wy hy; have HW := Lib.hid hy; clear hy))
        (try simp only [Exit.inBlock, Exit.then])
        refine bodyPost_ret (Bh.results_cell_row2 rfl _ _ _ _ _ _ _ rfl HW.out.b1 Try.underlying23 rfl (by kernel_rfl)) rfl ?_
        exact ⟨rfl, HW.out.beh⟩
end Go.Proofs.Ytaifjkilmdnfbaa.Lg
