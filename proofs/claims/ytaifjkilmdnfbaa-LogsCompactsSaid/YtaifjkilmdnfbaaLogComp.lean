/- Package logs: Compact. -/
import Derived.Test.YtaifjkilmdnfbaaLogInst
import Derived.Test.YtaifjkilmdnfbaaLogCode9
namespace Go.Proofs.Ytaifjkilmdnfbaa.Lg
open Go Go.RowKit Vl Kv Ss Cn Mem Li Nm
attribute [local go_sem] Nm.run_bits Nm.run_frombits run_store_float
attribute [local irreducible] wpQuiet
set_option maxHeartbeats 12800000 in
set_option maxRecDepth 100000 in
theorem Compact_any (h : H) (p : Hp) (i : Int) (b : Nat) (a : Option Addr) (cap : Nat) (s : List Nat) (w : World) (ha : HardAt w h p) (hl : Src w b a cap s) (hs : s.length ≤ 100000) (hn : h.log.length ≤ 100000) :
    Calls Try.prog 44 #[h.val p, .int .i64 i, .slice a s.length cap] w (HardTold (h.comp i s) (h.compOk i s) w) := by
  have HB := Lib.hid (Bh.Bx.two w (h.obj p) (H.zero.obj Hp.none))
  have HC : Hid (∀ W, Kv.Beh w W → Calls Try.prog 18 #[h.val p] W fun e w' => e = .returned (.int .i64 h.check) ∧ Below W.heap.size W w') := fun W hW => Check_h h p W (ha.on hW)
  have HK : Hid (h.check = if h.right = true then 0 else 6) := rfl
  have HA := Lib.hid (show HardAt w h p ∧ Src w b a cap s from ⟨ha, hl⟩)
  clear ha hl
  cases hr : h.right
  · obtain ⟨e1, e2⟩ := comp_bad (i := i) (s := s) hr
    rw [e1, e2]
    rw [hr] at HK
    have hk6 : h.check = 6 := HK.out
    rw [hk6] at HC
    clear HK hk6 e1 e2
    go_enter Try.func44, Try.ntmps44
    go_wp2_with (first
      | (apply Bh.load_bx 0 HB.out Try.underlying27; rfl; rfl; rfl; rfl; rfl; kernel_rfl)
      | (go_at_call 18; refine Calls.mono (HC.out _ HB.out.beh) ?_; rintro e wq ⟨rfl, hb⟩; (have HB := Lib.hid (HB.out.on hb)); clear hb)
      | (apply Bh.store_bx 10 1 HB.out; rfl; rfl; rfl; rfl; rfl; rfl; kernel_rfl; rfl; rfl; intro wz hz; have HB := Lib.hid hz; clear hz))
    (try simp only [Exit.inBlock, Exit.then])
    refine bodyPost_ret (Bh.results_cell_row2 rfl _ _ _ _ _ _ _ rfl HB.out.b1 Try.underlying27 rfl (by kernel_rfl)) rfl ?_
    exact HardTold.zero HB.out.beh
  have hnum := right_num hr hn
  rw [hr] at HK
  have hk0 : h.check = 0 := HK.out
  rw [hk0] at HC
  clear HK hk0
  have HEN : Hid (∀ W, Kv.Beh w W → Calls Try.prog 16 #[h.val p, .int .i64 i] W fun e w' => e = .returned (.tuple #[(h.entry i).agg, .bool (h.has i)]) ∧ Below W.heap.size W w') := fun W hW => Entry_any h p i W hnum (HA.out.1.on hW)
  cases hh : h.has i
  case false =>
    obtain ⟨e1, e2⟩ := comp_arg (s := s) hr hh
    rw [e1, e2]
    rw [hh] at HEN
    generalize h.entry i = en at *
    clear e1 e2 hnum
    go_enter Try.func44, Try.ntmps44
    go_wp2_with (first
      | (apply Bh.load_bx 0 HB.out Try.underlying27; rfl; rfl; rfl; rfl; rfl; kernel_rfl)
      | (go_at_call 18; refine Calls.mono (HC.out _ HB.out.beh) ?_; rintro e wq ⟨rfl, hb⟩; (have HB := Lib.hid (HB.out.on hb)); clear hb)
      | (go_at_call 16; refine Calls.mono (HEN.out _ HB.out.beh) ?_; rintro e wq ⟨rfl, hb⟩; (have HB := Lib.hid (HB.out.on hb)); clear hb; (have HE := Lib.hid (Bh.Bx.one wq E.zero.obj)))
      | (apply Bh.store_bx 16 0 HE.out; rfl; rfl; rfl; rfl; rfl; rfl; kernel_rfl; rfl; rfl; intro wz hz; have HE := Lib.hid hz; (have HB := Lib.hid (HB.out.on hz.beh)); clear hz; (have ce := (cells16e HE.out.b0).1))
      | (apply Bh.store_bx 10 1 HB.out; rfl; rfl; rfl; rfl; rfl; rfl; kernel_rfl; rfl; rfl; intro wz hz; have HB := Lib.hid hz; clear hz))
    (try simp only [Exit.inBlock, Exit.then])
    refine bodyPost_ret (Bh.results_cell_row2 rfl _ _ _ _ _ _ _ rfl HB.out.b1 Try.underlying27 rfl (by kernel_rfl)) rfl ?_
    exact HardTold.zero HB.out.beh
  case true =>
    obtain ⟨e1, e2, _⟩ := comp_inst (s := s) hr hh
    have e3 := termOf_has (h := h) (i := i) (by have := (has_iff.1 hh).1; omega) hh
    have HIN : Hid (∀ W, Kv.Beh w W → Calls Try.prog 46 #[h.val p, .int .i64 i, .int .i64 (h.entry i).term, (h.force i).1.val, .slice a s.length cap] W (HardTold (h.comp i s) (h.compOk i s) W)) := fun W hW => by
      have := Install_any h p i (h.entry i).term (h.force i).1 b a cap s W (HA.out.1.on hW) (HA.out.2.kept (Kept.of_below hW) (fun _ h => h)) hs hn
      rwa [← e3, ← e1, ← e2, e3] at this
    have HCO : Hid (∀ W, Kv.Beh w W → Calls Try.prog 23 #[h.val p, .int .i64 i] W fun e w' => e = .returned (.tuple #[(h.force i).1.val, .int .i64 (h.force i).2]) ∧ Below W.heap.size W w') := fun W hW => Conf_any h p i W hnum (HA.out.1.on hW)
    rw [hh] at HEN
    generalize h.comp i s = X at *
    generalize h.compOk i s = cc at *
    generalize h.entry i = en at *
    generalize h.force i = fc at *
    obtain ⟨cf, ci⟩ := fc
    dsimp only at HIN HCO
    clear e1 e2 e3 hnum HA
    go_enter Try.func44, Try.ntmps44
    go_wp2_with (first
      | (apply Bh.load_bx 0 HB.out Try.underlying27; rfl; rfl; rfl; rfl; rfl; kernel_rfl)
      | (apply Bh.load_bx 0 HF.out Try.underlying23; rfl; rfl; rfl; rfl; rfl; kernel_rfl)
      | (go_at_call 18; refine Calls.mono (HC.out _ HB.out.beh) ?_; rintro e wq ⟨rfl, hb⟩; (have HB := Lib.hid (HB.out.on hb)); clear hb)
      | (go_at_call 16; refine Calls.mono (HEN.out _ HB.out.beh) ?_; rintro e wq ⟨rfl, hb⟩; (have HB := Lib.hid (HB.out.on hb)); clear hb; (have HE := Lib.hid (Bh.Bx.one wq E.zero.obj)))
      | (apply Bh.store_bx 16 0 HE.out; rfl; rfl; rfl; rfl; rfl; rfl; kernel_rfl; rfl; rfl; intro wz hz; have HE := Lib.hid hz; (have HB := Lib.hid (HB.out.on hz.beh)); clear hz; (have ce := (cells16e HE.out.b0).1))
      | (go_at_call 23; refine Calls.mono (HCO.out _ HB.out.beh) ?_; rintro e wr ⟨rfl, hb⟩; (have HB := Lib.hid (HB.out.on hb)); (have HE := Lib.hid (HE.out.on hb)); clear hb; (have HF := Lib.hid (Bh.Bx.one wr (Lg.C.obj C.zero))))
      | (apply Bh.store_bx 4 0 HF.out; rfl; rfl; rfl; rfl; rfl; rfl; kernel_rfl; rfl; rfl; intro wz hz; have HF := Lib.hid hz; (have HB := Lib.hid (HB.out.on hz.beh)); (have HE : Hid (Bh.Bx _ [en.obj] _) := Lib.hid (HE.out.on hz.beh)); clear hz; (have ce := (cells16e HE.out.b0).1))
      | (go_at_call 46; refine Calls.mono (HIN.out _ HB.out.beh) ?_; rintro e wi ⟨q, rfl, hm⟩; (have hB0 := HB.out); (have HB := Lib.hid (HB.out.on hm.beh)); (have HM := Lib.hid hm); clear hm)
      | (apply Bh.store_bk 10 1 HB.out; rfl; rfl; rfl; rfl; rfl; rfl; kernel_rfl; rfl; rfl; intro wz hz he; (have HM := Lib.hid (HM.out.behind hB0.beh he (by omega) hB0.lt)); have HB := Lib.hid hz; clear hz he hB0))
    (try simp only [Exit.inBlock, Exit.then])
    refine bodyPost_ret (Bh.results_cell_row2 rfl _ _ _ _ _ _ _ rfl HB.out.b1 Try.underlying27 rfl (by kernel_rfl)) rfl ?_
    exact ⟨q, rfl, HM.out⟩
end Go.Proofs.Ytaifjkilmdnfbaa.Lg
