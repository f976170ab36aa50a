import Derived.Test.YtaifjkilmdnfbaaLogMem
import Derived.Test.YtaifjkilmdnfbaaMergeLgC
import Derived.Test.YtaifjkilmdnfbaaConfC1
/- Package logs: Begin; the keeper's TwinHard. -/
namespace Go.Proofs.Ytaifjkilmdnfbaa.Lg
open Go Go.RowKit Vl Kv Ss Cn Mem Li Nm
attribute [local go_sem] Nm.run_bits Nm.run_frombits run_store_float
attribute [local irreducible] wpQuiet
/-- what is told of a log and an error -/
def HardTold (h : H) (c : Int) (w : World) (e : Ending) (w' : World) : Prop := ∃ q, e = .returned (.tuple #[h.val q, .int .i64 c]) ∧ MadeH w w' h q
theorem HardTold.zero {w w' : World} {c : Int} (hb : Kv.Beh w w') : HardTold H.zero c w (.returned (.tuple #[H.zero.val (Hp.zero w), .int .i64 c])) w' := ⟨Hp.zero w, rfl, MadeH.zero hb⟩
set_option maxHeartbeats 3200000 in
set_option maxRecDepth 100000 in
theorem Begin_any (c : C) (w : World) :
    Calls Try.prog 37 #[c.val] w (HardTold (if c.right = true then begin_ c else H.zero) (if c.right = true then 0 else 14) w) := by
  have HB := Lib.hid (Bh.Bx.two w (Lg.C.obj c) (H.zero.obj Hp.none))
  have HK := fun w => Lib.hid (Cn.Check_any c w)
  have HC : Hid (c.check = if c.right then 0 else 14) := rfl
  cases hr : c.right
  · rw [hr] at HC
    rw [if_neg (by simp), if_neg (by simp)]
    simp only [show c.check = 14 from HC.out] at HK
    go_enter Try.func37, Try.ntmps37
    go_wp2_with (first
      | (go_at_call 59; refine ((HK _).out).mono ?_; rintro e wq ⟨rfl, hb⟩; (have HB := Lib.hid (HB.out.on hb)); clear hb)
      | (apply Bh.load_bx 0 HB.out Try.underlying23; rfl; rfl; rfl; rfl; rfl; kernel_rfl)
      | (apply Bh.store_bx 10 1 HB.out; rfl; rfl; rfl; rfl; rfl; rfl; kernel_rfl; rfl; rfl; intro wz hz; have HB := Lib.hid hz; clear hz))
    (try simp only [Exit.inBlock, Exit.then])
    refine bodyPost_ret (Bh.results_cell_row2 rfl _ _ _ _ _ _ _ rfl HB.out.b1 Try.underlying27 rfl (by kernel_rfl)) rfl ?_
    exact HardTold.zero HB.out.beh
  · rw [hr] at HC
    rw [if_pos rfl, if_pos rfl]
    simp only [show c.check = 0 from HC.out] at HK
    go_enter Try.func37, Try.ntmps37
    go_wp2_with (first
      | (go_at_call 59; refine ((HK _).out).mono ?_; rintro e wq ⟨rfl, hb⟩; (have HB := Lib.hid (HB.out.on hb)); clear hb)
      | (apply Bh.load_bx 0 HB.out Try.underlying23; rfl; rfl; rfl; rfl; rfl; kernel_rfl)
      | (apply Bh.store_bx 10 1 HB.out; rfl; rfl; rfl; rfl; rfl; rfl; kernel_rfl; rfl; rfl; intro wz hz; have HB := Lib.hid hz; clear hz))
    (try simp only [Exit.inBlock, Exit.then])
    refine bodyPost_ret (Bh.results_cell_row2 rfl _ _ _ _ _ _ _ rfl HB.out.b1 Try.underlying27 rfl (by kernel_rfl)) rfl ?_
    exact ⟨Hp.zero w, rfl, OwnB.nil _ _ _, Nat.le_refl _, OwnC.nil _ _ _ _, Nat.le_refl _, HB.out.beh⟩
set_option maxHeartbeats 3200000 in
set_option maxRecDepth 100000 in
theorem twinHard_any (h : H) (p : Hp) (w : World) (ha : HardAt w h p) (hs : h.snap.length ≤ 100000) (hl : h.log.length ≤ 100000) :
    Calls Try.prog 13 #[h.val p] w fun e w' => ∃ q, e = .returned (h.val q) ∧ MadeH w w' h q := by
  have HB := Lib.hid (Bh.Bx.three w (h.obj p) (H.zero.obj Hp.none) (h.obj p))
  have HS : Hid (∀ W, Kv.Beh w W → Calls Try.prog 41 #[.slice p.sa h.snap.length p.sc] W (Kp.NewB h.snap W)) := fun W hW => Kp.Twin_any p.sb p.sa p.sc h.snap W (ha.on hW).snap (by omega)
  have HE : Hid (∀ W, Kv.Beh w W → Calls Try.prog 40 #[.slice p.la h.log.length p.lc] W fun e w' => ∃ b' a' cap', e = .returned (.slice a' h.log.length cap') ∧ Made 40 W w' b' a' cap' h.log) := fun W hW => twinEnts_any p.la p.lc h.log W (ha.on hW).log hl
  clear ha
  obtain ⟨c0, c1, c2, c3, c4, c5, c6, c7, c8, c9⟩ := cells10h HB.out.b0
  go_enter Try.func13, Try.ntmps13
  go_wp2_with (first
    | (go_at_call 41; refine Calls.mono (HS.out _ HB.out.beh) ?_; intro e wq hq; obtain ⟨sb, sa, sc, rfl, hown, hb⟩ := OwnS.of (lo := w.heap.size + 3) hq HB.out.lt; (have HSN := Lib.hid hown); (have HB := Lib.hid (HB.out.on hb)); clear hb hown hq)
    | (apply Bh.store1_bk 2 8 HB.out; rfl; rfl; rfl; rfl; rfl; rfl; rfl; kernel_rfl; intro wz hz he; (have HSN := Lib.hid (HSN.out.els he (by omega))); have HB := Lib.hid hz; clear hz he; (obtain ⟨d0, d1, d2, d3, d4, d5, d6, d7, d8, d9⟩ := cells10h HB.out.b0))
    | (go_at_call 40; refine Calls.mono (HE.out _ HB.out.beh) ?_; rintro e wq ⟨lb, la, lc, rfl, hmade⟩; (have HLN := Lib.hid (OwnN.of (lo := w.heap.size + 3) hmade HB.out.lt)); (have HSN := Lib.hid (HSN.out.on hmade.beh)); (have HB := Lib.hid (HB.out.on hmade.beh)); clear hmade)
    | (apply Bh.store1_bk 2 9 HB.out; rfl; rfl; rfl; rfl; rfl; rfl; rfl; kernel_rfl; intro wz hz he; (have HSN := Lib.hid (HSN.out.els he (by omega))); (have HLN := Lib.hid (HLN.out.els he (by omega))); have HB := Lib.hid hz; clear hz he)
    | (apply Bh.load_bx 2 HB.out Try.underlying27; rfl; rfl; rfl; rfl; rfl; kernel_rfl)
    | (apply Bh.store_bk 10 1 HB.out; rfl; rfl; rfl; rfl; rfl; rfl; kernel_rfl; rfl; rfl; intro wz hz he; (have HSN := Lib.hid (HSN.out.els he (by omega))); (have HLN := Lib.hid (HLN.out.els he (by omega))); have HB := Lib.hid hz; clear hz he))
  (try simp only [Exit.inBlock, Exit.then])
  refine bodyPost_ret (Bh.results_cell_row1 rfl _ _ _ _ _ _ _ rfl HB.out.b1 Try.underlying27 rfl (by kernel_rfl)) rfl ?_
  exact ⟨⟨sb, sa, sc, lb, la, lc⟩, rfl, HSN.out.own, by have := HSN.out.new; show w.heap.size ≤ sb; omega, HLN.out.own, by have := HLN.out.new; show w.heap.size ≤ lb; omega, HB.out.beh⟩
end Go.Proofs.Ytaifjkilmdnfbaa.Lg
