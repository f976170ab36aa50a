import Derived.Test.YtaifjkilmdnfbaaLogInst
import Derived.Test.YtaifjkilmdnfbaaMergeLgR
import Derived.Test.YtaifjkilmdnfbaaMergeLgF
import Derived.Test.YtaifjkilmdnfbaaLogRef3
import Derived.Test.YtaifjkilmdnfbaaLogRef4
import Derived.Test.YtaifjkilmdnfbaaLogSlice
import Derived.Test.YtaifjkilmdnfbaaLogCodeA
/- The reference: Put. -/
namespace Go.Proofs.Ytaifjkilmdnfbaa.Lg
open Go Go.RowKit Vl Kv Ss Cn Mem Li Nm
attribute [local go_sem] Nm.run_bits Nm.run_frombits run_store_float
attribute [local irreducible] wpQuiet
theorem put_within {h : H} {i : Int} (hr : h.right = true) : (decide (h.base ≤ i) && decide (i ≤ h.last)) = !(h.termOf i == -1) := by
  obtain ⟨a1, a2, a3, a4, a5, a6, a7, a8, a9, a10⟩ := right_parts hr
  by_cases hb : i = h.base
  · rw [termOf_base hb, decide_eq_true (by omega), decide_eq_true (by unfold H.last; omega)]
    have : (h.bterm == -1) = false := beq_eq_false_iff_ne.2 (by omega)
    rw [this]; rfl
  · cases hh : h.has i
    · rw [termOf_not hb hh]
      have h1 : ¬ (h.base < i ∧ i ≤ h.last) := fun h0 => by rw [has_iff.2 h0] at hh; cases hh
      by_cases h2 : h.base ≤ i
      · rw [decide_eq_false (p := i ≤ h.last) (by omega)]; simp
      · rw [decide_eq_false h2]; rfl
    · have h1 := has_iff.1 hh
      have h2 := termOf_right hr hh
      rw [decide_eq_true (by omega), decide_eq_true h1.2]
      have : (h.termOf i == -1) = false := beq_eq_false_iff_ne.2 (by omega)
      rw [this]; rfl
/-- what the loop looks at -/
theorem put_looks {h : H} {i : Int} {l : List E} (ho : i - h.base = (h.off i : Int)) (ho2 : h.off i ≤ h.log.length) :
    (∀ n, n < there (h.log.drop (h.off i)) l → h.has (i + (n : Int) + 1) = true ∧ (h.entry (i + (n : Int) + 1)).term = (l.getD n E.zero).term) ∧
    (there (h.log.drop (h.off i)) l < l.length → h.has (i + ((there (h.log.drop (h.off i)) l : Nat) : Int) + 1) = true → (h.entry (i + ((there (h.log.drop (h.off i)) l : Nat) : Int) + 1)).term ≠ (l.getD (there (h.log.drop (h.off i)) l) E.zero).term) := by
  have h3 := there_le_T (h.log.drop (h.off i)) l
  rw [List.length_drop] at h3
  have hpos : ∀ k : Nat, h.pos (i + (k : Int) + 1) = h.off i + k := fun k => by unfold H.pos; omega
  refine ⟨fun n hn => ?_, fun ht hh => ?_⟩
  · have hh : h.has (i + (n : Int) + 1) = true := has_iff.2 ⟨by omega, by unfold H.last; omega⟩
    refine ⟨hh, ?_⟩
    rw [entry_in hh, hpos, ← getD_drop]
    exact there_get hn
  · rw [entry_in hh, hpos, ← getD_drop]
    have hp := pos_lt hh
    rw [hpos] at hp
    rcases there_first ht with h5 | h5
    · rw [List.length_drop] at h5; omega
    · exact fun e => h5 e.symm
set_option maxHeartbeats 12800000 in
set_option maxRecDepth 100000 in
theorem rPut_any (h : H) (p : Hp) (i : Int) (a : Option Addr) (cap : Nat) (l : List E) (w : World) (ha : HardAt w h p) (hl : EntAt w a cap l) (hs : h.snap.length ≤ 100000) (hn : h.log.length ≤ 100000) (hn2 : l.length ≤ 100000) :
    Calls Try.prog 43 #[h.val p, .int .i64 i, .slice a l.length cap] w (HardTold (h.put i l) (h.putOk i l) w) := by
  have HB := Lib.hid (Bh.Bx.two w (h.obj p) (H.zero.obj Hp.none))
  have HA := Lib.hid (show HardAt w h p ∧ EntAt w a cap l from ⟨ha, hl⟩)
  have HC : Hid (∀ W, Kv.Beh w W → Calls Try.prog 19 #[h.val p] W fun e w' => e = .returned (.bool h.right) ∧ Below W.heap.size W w') := fun W hW => rHard_any h p W (ha.on hW)
  clear ha hl
  cases hr : h.right
  · obtain ⟨e1, e2⟩ := put_bad (i := i) (l := l) hr
    rw [e1, e2]
    rw [hr] at HC
    clear e1 e2
    go_enter Try.func43, Try.ntmps43
    go_wp2_with (first
      | (apply Bh.load_bx 0 HB.out Try.underlying27; rfl; rfl; rfl; rfl; rfl; kernel_rfl)
      | (go_at_call 19; refine Calls.mono (HC.out _ HB.out.beh) ?_; rintro e wq ⟨rfl, hb⟩; (have HB := Lib.hid (HB.out.on hb)); clear hb)
      | (apply Bh.store_bx 10 1 HB.out; rfl; rfl; rfl; rfl; rfl; rfl; kernel_rfl; rfl; rfl; intro wz hz; have HB := Lib.hid hz; clear hz))
    (try simp only [Exit.inBlock, Exit.then])
    refine bodyPost_ret (Bh.results_cell_row2 rfl _ _ _ _ _ _ _ rfl HB.out.b1 Try.underlying27 rfl (by kernel_rfl)) rfl ?_
    exact HardTold.zero HB.out.beh
  have hnum := right_num hr hn
  have n1 := hnum.lo; have n2 := hnum.hi
  rw [hr] at HC
  have HL : Hid (∀ W, Kv.Beh w W → Calls Try.prog 15 #[h.val p] W fun e w' => e = .returned (.tuple #[.int .i64 h.last, .int .i64 h.lastT]) ∧ Below W.heap.size W w') := fun W hW => rLast_any h p W hnum (HA.out.1.on hW)
  have HTM : Hid (∀ W, Kv.Beh w W → Calls Try.prog 21 #[h.val p, .int .i64 i] W fun e w' => e = .returned (.int .i64 (h.termOf i)) ∧ Below W.heap.size W w') := fun W hW => rTerm_any h p i W hnum (HA.out.1.on hW)
  have HRW : Hid (∀ W, Kv.Beh w W → Calls Try.prog 55 #[.slice a l.length cap, .int .i64 (h.termOf i), .int .i64 h.term] W fun e w' => e = .returned (.bool (rowOk l (h.termOf i) h.term)) ∧ Below W.heap.size W w') := fun W hW => rrow_any a cap l _ _ W (HA.out.2.below hW)
  have HW1 : Hid (∀ W, Calls Try.prog 54 #[.int .i64 i, .int .i64 h.base, .int .i64 h.last] W fun e w' => e = .returned (.bool (!(h.termOf i == -1))) ∧ Below W.heap.size W w') := fun W => (rwithin_any i h.base h.last W).mono fun e w' ⟨he, hw⟩ => ⟨by rw [he, put_within hr], hw ▸ Below.refl _ _⟩
  have HP1 := Lib.hid (put_arg (i := i) (l := l) hr)
  have HP2 := Lib.hid (put_ok (i := i) (l := l) hr)
  have HO := Lib.hid (off_ok (h := h) (i := i))
  clear hr
  generalize hrw : rowOk l (h.termOf i) h.term = r at *
  cases hx : (h.termOf i == -1)
  case true =>
    obtain ⟨e1, e2⟩ := HP1.out (by rw [hx]; rfl)
    rw [e1, e2]
    simp only [hx, Bool.not_true] at HW1
    clear e1 e2 HP1 HP2 HO hrw hnum hx
    generalize h.termOf i = tm at *
    generalize h.last = ln at *
    generalize h.lastT = lt at *
    go_enter Try.func43, Try.ntmps43
    go_wp2_with (first
      | (apply Bh.load_bx 0 HB.out Try.underlying27; rfl; rfl; rfl; rfl; rfl; kernel_rfl)
      | (go_at_call 19; refine Calls.mono (HC.out _ HB.out.beh) ?_; rintro e wq ⟨rfl, hb⟩; (have HB := Lib.hid (HB.out.on hb)); clear hb)
      | (go_at_call 15; refine Calls.mono (HL.out _ HB.out.beh) ?_; rintro e wq ⟨rfl, hb⟩; (have HB := Lib.hid (HB.out.on hb)); clear hb))
    refine wp_region_quiet (C := Kv.Beh wq) (by kernel_rfl) (by kernel_rfl) (Beh.start _).drew ?_
    repeat (first
      | (refine BigFrame.wpQuiet_skip (by exact Eq.refl false) ?_
         ((try simp only [Act.put]); (try simp only [List.setIfInBounds_toArray]); (try simp only [List.set_cons_zero, List.set_cons_succ])))
      | (refine BigFrame.wpQuiet_want (by exact Eq.refl true) (fun K hK => ?_)
         first
         | (refine quiet_move2 _ rfl (by go_simp; rfl) ?_; refine hK _ ?_)
         | (apply Exists.intro
            refine ⟨fun wq hq => ?_, hK _ ?_⟩
            · ((obtain ⟨x0, x1, x2, x3, x4, x5, x6, x7, x8, x9⟩ := cells10h (HB.out.on hq).b0)
               have HQ := Lib.hid hq
               clear hq
               unfold Oper.quietAt
               go_simp
               first
               | rfl
               | (go_at_call 54; exact (HW1.out _).mono (fun e w' ⟨he, hb⟩ => ⟨he, HQ.out.on hb⟩)) | (go_at_call 21; (with_reducible refine Calls.mono (HTM.out _ ?_) ?_); exact (HB.out.beh.trans HQ.out); exact (fun e w' ⟨he, hb⟩ => ⟨he, HQ.out.on hb⟩)) | (go_at_call 55; (with_reducible refine Calls.mono (HRW.out _ ?_) ?_); exact (HB.out.beh.trans HQ.out); exact (fun e w' ⟨he, hb⟩ => ⟨he, HQ.out.on hb⟩))))
         clear hK K
         ((try simp only [Act.put]); (try simp only [List.setIfInBounds_toArray]); (try simp only [List.set_cons_zero, List.set_cons_succ]))))
    refine wpQuiet_nil ?_
    intro wq hq
    have HB := Lib.hid (HB.out.on hq)
    clear hq
    go_wp2_with (first
      | (apply Bh.store_bx 10 1 HB.out; rfl; rfl; rfl; rfl; rfl; rfl; kernel_rfl; rfl; rfl; intro wz hz; have HB := Lib.hid hz; clear hz))
    (try simp only [Exit.inBlock, Exit.then])
    refine bodyPost_ret (Bh.results_cell_row2 rfl _ _ _ _ _ _ _ rfl HB.out.b1 Try.underlying27 rfl (by kernel_rfl)) rfl ?_
    exact HardTold.zero HB.out.beh
  simp only [hx, Bool.not_false] at HW1
  cases hy : r
  case false =>
    obtain ⟨e1, e2⟩ := HP1.out (by rw [hx, hy]; rfl)
    rw [e1, e2]
    subst hy
    clear e1 e2 HP1 HP2 HO hrw hnum hx
    generalize h.termOf i = tm at *
    generalize h.last = ln at *
    generalize h.lastT = lt at *
    go_enter Try.func43, Try.ntmps43
    go_wp2_with (first
      | (apply Bh.load_bx 0 HB.out Try.underlying27; rfl; rfl; rfl; rfl; rfl; kernel_rfl)
      | (go_at_call 19; refine Calls.mono (HC.out _ HB.out.beh) ?_; rintro e wq ⟨rfl, hb⟩; (have HB := Lib.hid (HB.out.on hb)); clear hb)
      | (go_at_call 15; refine Calls.mono (HL.out _ HB.out.beh) ?_; rintro e wq ⟨rfl, hb⟩; (have HB := Lib.hid (HB.out.on hb)); clear hb))
    refine wp_region_quiet (C := Kv.Beh wq) (by kernel_rfl) (by kernel_rfl) (Beh.start _).drew ?_
    repeat (first
      | (refine BigFrame.wpQuiet_skip (by exact Eq.refl false) ?_
         ((try simp only [Act.put]); (try simp only [List.setIfInBounds_toArray]); (try simp only [List.set_cons_zero, List.set_cons_succ])))
      | (refine BigFrame.wpQuiet_want (by exact Eq.refl true) (fun K hK => ?_)
         first
         | (refine quiet_move2 _ rfl (by go_simp; rfl) ?_; refine hK _ ?_)
         | (apply Exists.intro
            refine ⟨fun wq hq => ?_, hK _ ?_⟩
            · ((obtain ⟨x0, x1, x2, x3, x4, x5, x6, x7, x8, x9⟩ := cells10h (HB.out.on hq).b0)
               have HQ := Lib.hid hq
               clear hq
               unfold Oper.quietAt
               go_simp
               first
               | rfl
               | (go_at_call 54; exact (HW1.out _).mono (fun e w' ⟨he, hb⟩ => ⟨he, HQ.out.on hb⟩)) | (go_at_call 21; (with_reducible refine Calls.mono (HTM.out _ ?_) ?_); exact (HB.out.beh.trans HQ.out); exact (fun e w' ⟨he, hb⟩ => ⟨he, HQ.out.on hb⟩)) | (go_at_call 55; (with_reducible refine Calls.mono (HRW.out _ ?_) ?_); exact (HB.out.beh.trans HQ.out); exact (fun e w' ⟨he, hb⟩ => ⟨he, HQ.out.on hb⟩))))
         clear hK K
         ((try simp only [Act.put]); (try simp only [List.setIfInBounds_toArray]); (try simp only [List.set_cons_zero, List.set_cons_succ]))))
    refine wpQuiet_nil ?_
    intro wq hq
    have HB := Lib.hid (HB.out.on hq)
    clear hq
    go_wp2_with (first
      | (apply Bh.store_bx 10 1 HB.out; rfl; rfl; rfl; rfl; rfl; rfl; kernel_rfl; rfl; rfl; intro wz hz; have HB := Lib.hid hz; clear hz))
    (try simp only [Exit.inBlock, Exit.then])
    refine bodyPost_ret (Bh.results_cell_row2 rfl _ _ _ _ _ _ _ rfl HB.out.b1 Try.underlying27 rfl (by kernel_rfl)) rfl ?_
    exact HardTold.zero HB.out.beh
  case true =>
    obtain ⟨e1, e2⟩ := HP2.out (by rw [hx, hy]; rfl)
    rw [e1, e2]
    subst hy
    obtain ⟨ho1, ho2⟩ := HO.out hx
    have hlk := put_looks (l := l) ho1 ho2
    clear e1 e2 HP1 HP2 HO hrw hx
    have htl := there_le_l (h.log.drop (h.off i)) l
    have htT := there_le_T (h.log.drop (h.off i)) l
    rw [List.length_drop] at htT
    have HPL := Lib.hid (show putL h.log (h.off i) l = (if there (h.log.drop (h.off i)) l < l.length then h.log.take (h.off i + there (h.log.drop (h.off i)) l) else h.log) ++ l.drop (there (h.log.drop (h.off i)) l) from rfl)
    generalize putL h.log (h.off i) l = PL at *
    generalize there (h.log.drop (h.off i)) l = tt at *
    obtain ⟨hk1, hk2⟩ := hlk
    have HK1 := Lib.hid hk1
    have HK2 := Lib.hid hk2
    clear hk1 hk2
    generalize h.off i = kk at *
    have HTW : Hid (∀ W, Kv.Beh w W → Calls Try.prog 13 #[h.val p] W fun e w' => ∃ q, e = .returned (h.val q) ∧ MadeH W w' h q) := fun W hW => twinHard_any h p W (HA.out.1.on hW) (by omega) (by omega)
    have HPS : Hid (∀ n, n < l.length → ∃ b off, a = some ⟨b, off, none⟩ ∧ ∀ W, Kv.Beh w W → E.Cells W b (off + n * 16) (l.getD n E.zero)) := fun n hn => by
      obtain ⟨b, off, he, _⟩ := EntAt.cells HA.out.2 (by omega)
      refine ⟨b, off, he, fun W hW => ?_⟩
      obtain ⟨_, _, he2, hc⟩ := EntAt.cells (HA.out.2.below hW) (by omega)
      rw [he] at he2; cases he2
      exact hc n hn
    have hnum2 := Lib.hid hnum
    clear hnum
    generalize h.termOf i = tm at *
    generalize h.last = ln at *
    generalize h.lastT = lt at *
    go_enter Try.func43, Try.ntmps43
    go_wp2_with (first
      | (apply Bh.load_bx 0 HB.out Try.underlying27; rfl; rfl; rfl; rfl; rfl; kernel_rfl)
      | (go_at_call 19; refine Calls.mono (HC.out _ HB.out.beh) ?_; rintro e wq ⟨rfl, hb⟩; (have HB := Lib.hid (HB.out.on hb)); clear hb)
      | (go_at_call 15; refine Calls.mono (HL.out _ HB.out.beh) ?_; rintro e wq ⟨rfl, hb⟩; (have HB := Lib.hid (HB.out.on hb)); clear hb))
    refine wp_region_quiet (C := Kv.Beh wq) (by kernel_rfl) (by kernel_rfl) (Beh.start _).drew ?_
    repeat (first
      | (refine BigFrame.wpQuiet_skip (by exact Eq.refl false) ?_
         ((try simp only [Act.put]); (try simp only [List.setIfInBounds_toArray]); (try simp only [List.set_cons_zero, List.set_cons_succ])))
      | (refine BigFrame.wpQuiet_want (by exact Eq.refl true) (fun K hK => ?_)
         first
         | (refine quiet_move2 _ rfl (by go_simp; rfl) ?_; refine hK _ ?_)
         | (apply Exists.intro
            refine ⟨fun wq hq => ?_, hK _ ?_⟩
            · ((obtain ⟨x0, x1, x2, x3, x4, x5, x6, x7, x8, x9⟩ := cells10h (HB.out.on hq).b0)
               have HQ := Lib.hid hq
               clear hq
               unfold Oper.quietAt
               go_simp
               first
               | rfl
               | (go_at_call 54; exact (HW1.out _).mono (fun e w' ⟨he, hb⟩ => ⟨he, HQ.out.on hb⟩)) | (go_at_call 21; (with_reducible refine Calls.mono (HTM.out _ ?_) ?_); exact (HB.out.beh.trans HQ.out); exact (fun e w' ⟨he, hb⟩ => ⟨he, HQ.out.on hb⟩)) | (go_at_call 55; (with_reducible refine Calls.mono (HRW.out _ ?_) ?_); exact (HB.out.beh.trans HQ.out); exact (fun e w' ⟨he, hb⟩ => ⟨he, HQ.out.on hb⟩))))
         clear hK K
         ((try simp only [Act.put]); (try simp only [List.setIfInBounds_toArray]); (try simp only [List.set_cons_zero, List.set_cons_succ]))))
    refine wpQuiet_nil ?_
    intro wq hq
    have HB := Lib.hid (HB.out.on hq)
    clear hq
    go_wp2_with (first
      | (apply Bh.load_bx 0 HB.out Try.underlying27; rfl; rfl; rfl; rfl; rfl; kernel_rfl))
    refine Calls.mono (HTW.out _ HB.out.beh) ?_
    rintro e wo ⟨q, rfl, hm⟩
    have HB0 := HB
    have HB := Lib.hid (HB.out.on hm.beh)
    have HO := Lib.hid (Bh.Bx.one wo (H.zero.obj Hp.none))
    have HM := Lib.hid (hm.own (lo := w.heap.size + 2) HB0.out.lt)
    have HAT : Hid (∀ (j : Int) (W : World), Kv.Beh wo W → Calls Try.prog 17 #[h.val q, .int .i64 j] W (EntTold h j W)) := fun j W hW => At_any h q j W hnum2.out (hm.on hW).at_
    unfold EntTold at HAT
    have hBo := HB
    clear hm HTW HC HL HTM HRW HW1
    go_wp2_with (first
      | (apply Bh.store_bx 10 0 HO.out; rfl; rfl; rfl; rfl; rfl; rfl; kernel_rfl; rfl; rfl; intro wz hz; have HO := Lib.hid hz; (have HB := Lib.hid (HB.out.on hz.beh)); clear hz))
    go_loopw [11] (fun k wr => ∃ n : Nat, n ≤ tt ∧ k = .int .i64 n ∧ Hid (Bh.Bx w [h.obj p, H.zero.obj Hp.none] wr) ∧ Hid (Bh.Bx wo [h.obj q] wr)) (fun k _ => l.length - (intOf k).toNat)
    case atStart => exact ⟨0, by omega, rfl, HB, HO⟩
    case round =>
      obtain ⟨n, hn0, rfl, HB, HO⟩ := hrel
      by_cases hlt : n < l.length
      case pos =>
        obtain ⟨cS, oS, rfl, hps⟩ := HPS.out n hlt
        have HPS := Lib.hid hps
        clear hps
        rcases Nat.lt_or_ge n tt with hlt2 | hge
        · as_aux_lemma =>
          obtain ⟨e1, e2⟩ := HK1.out n hlt2
          have HAX : Hid (∀ W, Kv.Beh wo W → Calls Try.prog 17 #[h.val q, .int .i64 (i + (n : Int) + 1)] W fun e w' => e = .returned (.tuple #[(h.entry (i + (n : Int) + 1)).agg, .bool true]) ∧ Below W.heap.size W w') := fun W hW => by have := HAT.out (i + (n : Int) + 1) W hW; rwa [e1] at this
          have ht1 : ((h.entry (i + (n : Int) + 1)).term == (l.getD n E.zero).term) = true := by simp [e2]
          clear e1 e2
          generalize h.entry (i + (n : Int) + 1) = ea at *
          generalize l.getD n E.zero = x at *
          go_wp2_with (first
            | (go_at_call 17; (with_reducible refine Calls.mono (HAX.out _ ?_) ?_); exact HO.out.beh; rintro e wa ⟨rfl, hb⟩; (have HO := Lib.hid (HO.out.on hb)); (have HB := Lib.hid (HB.out.on hb)); clear hb; (have HE := Lib.hid (Bh.Bx.one wa E.zero.obj)))
            | (apply Bh.store_bx 16 0 HE.out; rfl; rfl; rfl; rfl; rfl; rfl; kernel_rfl; rfl; rfl; intro wz hz; have HE := Lib.hid hz; (have HB := Lib.hid (HB.out.on hz.beh)); (have HO := Lib.hid (HO.out.on hz.beh)); clear hz)
            | (apply Bh.load_bx 0 HO.out Try.underlying27; rfl; rfl; rfl; rfl; rfl; kernel_rfl))
          refine wp_region_quiet (C := Kv.Beh wz) (by kernel_rfl) (by kernel_rfl) (Beh.start _).drew ?_
          repeat (first
            | (refine BigFrame.wpQuiet_skip (by exact Eq.refl false) ?_
               ((try simp only [Act.put]); (try simp only [List.setIfInBounds_toArray]); (try simp only [List.set_cons_zero, List.set_cons_succ])))
            | (refine BigFrame.wpQuiet_want (by exact Eq.refl true) (fun K hK => ?_)
               first
               | (refine quiet_move2 _ rfl (by go_simp; rfl) ?_; refine hK _ ?_)
               | (apply Exists.intro
                  refine ⟨fun wq hq => ?_, hK _ ?_⟩
                  · ((obtain ⟨u0, u1, u2, u3, u4, u5, u6, u7, u8, u9, u10, u11, u12, u13, u14, u15⟩ := cells16e (x := ea) (HE.out.on hq).b0); (obtain ⟨s0, s1, s2, s3, s4, s5, s6, s7, s8, s9, s10, s11, s12, s13, s14, s15⟩ := HPS.out _ (HB.out.beh.trans hq))
                     have HQ := Lib.hid hq
                     clear hq
                     unfold Oper.quietAt
                     go_simp
                     first
                     | rfl
                     ))
               clear hK K
               ((try simp only [Act.put]); (try simp only [List.setIfInBounds_toArray]); (try simp only [List.set_cons_zero, List.set_cons_succ]))))
          refine wpQuiet_nil ?_
          intro wq hq
          have HB := Lib.hid (HB.out.on hq)
          have HO := Lib.hid (HO.out.on hq)
          clear hq
          go_wp2_with fail
          go_roundw
          case rel => exact ⟨n + 1, by omega, by go_num, HB, HO⟩
          case measure => simp [intOf]; omega
        · obtain rfl : n = tt := by omega
          clear hge hn0
          have hpc : PL = h.log.take (kk + n) ++ l.drop n := by rw [HPL.out, if_pos hlt]
          obtain ⟨m2, hs8, hm2, he8⟩ := slice_to (n := h.log.length) (OwnL.list HM.out.log.own) (kk + n) (by omega)
          obtain ⟨a2, n2, c2, hs12, hn12, he12⟩ := slice_from HA.out.2 n (by omega)
          have HPC : Hid (h.log.take (kk + n) ++ l.drop n = PL) := hpc.symm
          have HLB : Hid ((h.log.take (kk + n)).length + n2 ≤ 200000) := by show _ ≤ _; rw [hn12, List.length_take, List.length_drop]; omega
          have HLEN : Hid ((h.log.take (kk + n)).length + n2 = PL.length) := by show _ = _; rw [hpc, List.length_append, hn12]
          have HM2 : Hid ((l.drop n).length = n2) := hn12.symm
          have HE2 := Lib.hid he12
          have HTE : Hid (∀ W, Kv.Beh wo W → Calls Try.prog 40 #[.slice q.la m2 q.lc] W fun e w' => ∃ b' a' cap', e = .returned (.slice a' (h.log.take (kk + n)).length cap') ∧ Made 40 W w' b' a' cap' (h.log.take (kk + n))) := fun W hW => by
            rw [hm2]; exact twinEnts_any q.la q.lc _ W (he8 W hW) (by rw [List.length_take]; omega)
          have w1 : IntKind.i64.wrap (i + (n : Int)) = i + (n : Int) := wrap_in (by omega) (by omega)
          have w2 : IntKind.i64.wrap (i + (n : Int) - h.base) = ((kk + n : Nat) : Int) := by rw [wrap_in (by omega) (by omega)]; omega
          have hlo : w.heap.size + 2 ≤ wo.heap.size := hBo.out.lt
          obtain ⟨mm, hmm⟩ : ∃ mm, mm = kk + n := ⟨_, rfl⟩
          rw [← hmm] at hs8 hm2 HPC HLB HLEN HTE w2
          clear hpc hm2 hn12 he8 he12 hmm HPL
          cases hok : h.has (i + (n : Int) + 1)
          · as_aux_lemma =>
            have HAX : Hid (∀ W, Kv.Beh wo W → Calls Try.prog 17 #[h.val q, .int .i64 (i + (n : Int) + 1)] W fun e w' => e = .returned (.tuple #[(h.entry (i + (n : Int) + 1)).agg, .bool false]) ∧ Below W.heap.size W w') := fun W hW => by have := HAT.out (i + (n : Int) + 1) W hW; rwa [hok] at this
            clear hok HK1 HK2
            generalize h.entry (i + (n : Int) + 1) = ea at *
            generalize l.getD n E.zero = x at *
            go_wp2_with (first
              | (go_at_call 17; (with_reducible refine Calls.mono (HAX.out _ ?_) ?_); exact HO.out.beh; rintro e wa ⟨rfl, hb⟩; (have HO := Lib.hid (HO.out.on hb)); (have HB := Lib.hid (HB.out.on hb)); clear hb; (have HE := Lib.hid (Bh.Bx.one wa E.zero.obj)))
              | (apply Bh.store_bx 16 0 HE.out; rfl; rfl; rfl; rfl; rfl; rfl; kernel_rfl; rfl; rfl; intro wz hz; have HE := Lib.hid hz; (have HB := Lib.hid (HB.out.on hz.beh)); (have HO := Lib.hid (HO.out.on hz.beh)); clear hz)
              | (apply Bh.load_bx 0 HO.out Try.underlying27; rfl; rfl; rfl; rfl; rfl; kernel_rfl))
            refine wp_region_quiet (C := Kv.Beh wz) (by kernel_rfl) (by kernel_rfl) (Beh.start _).drew ?_
            repeat (first
              | (refine BigFrame.wpQuiet_skip (by exact Eq.refl false) ?_
                 ((try simp only [Act.put]); (try simp only [List.setIfInBounds_toArray]); (try simp only [List.set_cons_zero, List.set_cons_succ])))
              | (refine BigFrame.wpQuiet_want (by exact Eq.refl true) (fun K hK => ?_)
                 first
                 | (refine quiet_move2 _ rfl (by go_simp; rfl) ?_; refine hK _ ?_)
                 | (apply Exists.intro
                    refine ⟨fun wq hq => ?_, hK _ ?_⟩
                    · ((obtain ⟨u0, u1, u2, u3, u4, u5, u6, u7, u8, u9, u10, u11, u12, u13, u14, u15⟩ := cells16e (x := ea) (HE.out.on hq).b0); (obtain ⟨s0, s1, s2, s3, s4, s5, s6, s7, s8, s9, s10, s11, s12, s13, s14, s15⟩ := HPS.out _ (HB.out.beh.trans hq))
                       have HQ := Lib.hid hq
                       clear hq
                       unfold Oper.quietAt
                       go_simp
                       first
                       | rfl
                       ))
                 clear hK K
                 ((try simp only [Act.put]); (try simp only [List.setIfInBounds_toArray]); (try simp only [List.set_cons_zero, List.set_cons_succ]))))
            refine wpQuiet_nil ?_
            intro wq hq
            have HB := Lib.hid (HB.out.on hq)
            have HO := Lib.hid (HO.out.on hq)
            clear hq
            go_wp2_with fail
            refine wp_region_held_drew (S := fun W => Bh.Bx w [h.obj p, H.zero.obj Hp.none] W) (by kernel_rfl) (HB.out.drew) (fun hS => ?_)
            have HO := Lib.hid HO.out.drew
            clear HB
            generalize World.drew wq = wd at HO hS ⊢
            (try simp only [Act.put, List.getElem_toArray, List.getElem_cons_succ, List.getElem_cons_zero, List.setIfInBounds_toArray, List.set_cons_zero, List.set_cons_succ])
            refine wpAnyH_take (i := 0) (v := ?_) rfl (by kernel_rfl) (by kernel_rfl) (by kernel_rfl) (fun _ _ _ h => h) (Or.inl ⟨by rfl, ?_⟩) hS ?_
            rotate_left
            · intro W hW; go_simp; try with_reducible rfl
            (try simp only [Act.put, List.getElem_toArray, List.getElem_cons_zero, List.setIfInBounds_toArray, List.set_cons_zero, List.set_cons_succ])
            refine wpAnyH_take (i := 2) (v := ?_) rfl (by kernel_rfl) (by kernel_rfl) (by kernel_rfl) (fun _ _ _ h => h) (Or.inl ⟨by rfl, ?_⟩) hS ?_
            rotate_left
            · intro W hW; go_simp; try with_reducible rfl
            (try simp only [Act.put, List.getElem_toArray, List.getElem_cons_succ, List.getElem_cons_zero, List.setIfInBounds_toArray, List.set_cons_zero, List.set_cons_succ])
            refine wpAnyH_take (i := 3) (v := ?_) rfl (by kernel_rfl) (by kernel_rfl) (by kernel_rfl) (fun _ _ _ h => h) (Or.inl ⟨by rfl, ?_⟩) hS ?_
            rotate_left
            · intro W hW; go_simp; try with_reducible rfl
            (try simp only [Act.put, List.getElem_toArray, List.getElem_cons_succ, List.getElem_cons_zero, List.setIfInBounds_toArray, List.set_cons_zero, List.set_cons_succ])
            refine wpAnyH_take (i := 4) (v := ?_) rfl (by kernel_rfl) (by kernel_rfl) (by kernel_rfl) (fun _ _ _ h => h) (Or.inl ⟨by rfl, ?_⟩) hS ?_
            rotate_left
            · intro W hW; go_simp; try with_reducible rfl
            (try simp only [Act.put, List.getElem_toArray, List.getElem_cons_succ, List.getElem_cons_zero, List.setIfInBounds_toArray, List.set_cons_zero, List.set_cons_succ])
            refine wpAnyH_take (i := 5) (v := ?_) rfl (by kernel_rfl) (by kernel_rfl) (by kernel_rfl) (fun _ _ _ h => h) (Or.inl ⟨by rfl, ?_⟩) hS ?_
            rotate_left
            · intro W hW; go_simp; try with_reducible rfl
            (try simp only [Act.put, List.getElem_toArray, List.getElem_cons_succ, List.getElem_cons_zero, List.setIfInBounds_toArray, List.set_cons_zero, List.set_cons_succ])
            refine wpAnyH_take (i := 6) (v := ?_) rfl (by kernel_rfl) (by kernel_rfl) (by kernel_rfl) (fun _ _ _ h => h) (Or.inl ⟨by rfl, ?_⟩) hS ?_
            rotate_left
            · intro W hW; (obtain ⟨x0, x1, x2, x3, x4, x5, x6, x7, x8, x9⟩ := cells10h hW.b0); go_simp; try with_reducible rfl
            (try simp only [Act.put, List.getElem_toArray, List.getElem_cons_succ, List.getElem_cons_zero, List.setIfInBounds_toArray, List.set_cons_zero, List.set_cons_succ])
            refine wpAnyH_take (i := 7) (v := ?_) rfl (by kernel_rfl) (by kernel_rfl) (by kernel_rfl) (fun _ _ _ h => h) (Or.inl ⟨by rfl, ?_⟩) hS ?_
            rotate_left
            · intro W hW; go_simp; try with_reducible rfl
            (try simp only [Act.put, List.getElem_toArray, List.getElem_cons_succ, List.getElem_cons_zero, List.setIfInBounds_toArray, List.set_cons_zero, List.set_cons_succ])
            refine wpAnyH_take (i := 10) (v := ?_) rfl (by kernel_rfl) (by kernel_rfl) (by kernel_rfl) (fun _ _ _ h => h) (Or.inl ⟨by rfl, ?_⟩) hS ?_
            rotate_left
            · intro W hW; go_simp; try with_reducible rfl
            (try simp only [Act.put, List.getElem_toArray, List.getElem_cons_succ, List.getElem_cons_zero, List.setIfInBounds_toArray, List.set_cons_zero, List.set_cons_succ])
            refine wpAnyH_take (i := 11) (v := ?_) rfl (by kernel_rfl) (by kernel_rfl) (by kernel_rfl) (fun _ _ _ h => h) (Or.inl ⟨by rfl, ?_⟩) hS ?_
            rotate_left
            · intro W hW; go_simp; try with_reducible rfl
            (try simp only [Act.put, List.getElem_toArray, List.getElem_cons_succ, List.getElem_cons_zero, List.setIfInBounds_toArray, List.set_cons_zero, List.set_cons_succ])
            refine wpAnyH_take (i := 12) (v := ?_) rfl (by kernel_rfl) (by kernel_rfl) (by kernel_rfl) (fun _ _ _ h => h) (Or.inl ⟨by rfl, ?_⟩) hS ?_
            rotate_left
            · intro W hW; go_simp; try with_reducible rfl
            (try simp only [Act.put, List.getElem_toArray, List.getElem_cons_succ, List.getElem_cons_zero, List.setIfInBounds_toArray, List.set_cons_zero, List.set_cons_succ])
            refine wpAnyH_ready (rs := [1]) (by kernel_rfl) (by simp) ?_
            refine AllReadyH.cons rfl (fun K hK => ?_) (AllReadyH.nil)
            all_goals (try simp only [List.getElem_toArray, List.getElem_cons_succ, List.getElem_cons_zero])
            (obtain ⟨y0, y1, y2, y3, y4, y5, y6, y7, y8, y9⟩ := cells10h (h := h) (p := q) HO.out.b0)
            go_simp
            refine hK.out _ _ (hS) (fun hS => ?_)
            clear hK K
            (try simp only [Act.put, List.getElem_toArray, List.getElem_cons_succ, List.getElem_cons_zero, List.setIfInBounds_toArray, List.set_cons_zero, List.set_cons_succ])
            refine wpAnyH_take (i := 8) (v := ?_) rfl (by kernel_rfl) (by kernel_rfl) (by kernel_rfl) (fun _ _ _ h => h) (Or.inl ⟨by rfl, ?_⟩) hS ?_
            rotate_left
            · intro W hW; go_simp; try with_reducible rfl
            (try simp only [Act.put, List.getElem_toArray, List.getElem_cons_succ, List.getElem_cons_zero, List.setIfInBounds_toArray, List.set_cons_zero, List.set_cons_succ])
            refine wpAnyH_ready (rs := [9]) (by kernel_rfl) (by simp) ?_
            refine AllReadyH.cons rfl (fun K hK => ?_) (AllReadyH.nil)
            all_goals (try simp only [List.getElem_toArray, List.getElem_cons_succ, List.getElem_cons_zero])
            go_simp
            go_at_call 40
            refine Calls.mono (HTE.out _ HO.out.beh) ?_
            rintro e wf ⟨lb1, la1, lc1, rfl, hml⟩
            have hb : Below _ _ _ := hml.beh
            have hS0 := hS
            have HO0 := HO
            refine hK.out _ _ (hS.on hb) (fun hS => ?_)
            clear hK K
            (try simp only [Act.put, List.getElem_toArray, List.getElem_cons_succ, List.getElem_cons_zero, List.setIfInBounds_toArray, List.set_cons_zero, List.set_cons_succ])
            have HL1 := Lib.hid hml
            clear hb hml
            refine wpAnyH_ready (rs := [13]) (by kernel_rfl) (by simp) ?_
            refine AllReadyH.cons rfl (fun K hK => ?_) (AllReadyH.nil)
            all_goals (try simp only [List.getElem_toArray, List.getElem_cons_succ, List.getElem_cons_zero])
            rw [if_pos (Bh.want_all rfl)]
            refine wp_append_cells _ _ _ rfl 40 16 _ _ 152 Try.underlying25 rfl rfl rfl rfl rfl lb1 la1 lc1 _ (Li.flat (h.log.take mm)) rfl HL1.out.own a2 c2 _ (Li.flat (l.drop n)) rfl (HM2.out ▸ (HE2.out _ hS.beh).src) flat_one (by have := HLB.out; omega) (by have := HLB.out; omega) ?_
            intro lbn lan lcn wn h2 h3 h4 h5
            have HLA := Lib.hid (HL1.out.more (M := l.drop n) (by rw [HM2.out]; exact h2) h3 h4)
            rw [HPC.out] at HLA
            rw [HLEN.out]
            refine hK.out _ _ (hS0.on HLA.out.beh) (fun hS => ?_)
            clear hK K
            (try simp only [Act.put, List.setIfInBounds_toArray, List.set_cons_zero, List.set_cons_succ])
            have HO := Lib.hid (HO0.out.on HLA.out.beh)
            clear h2 h3 h4 h5 HL1
            refine wpAnyH_take (i := 14) (v := ?_) rfl (by kernel_rfl) (by kernel_rfl) (by kernel_rfl) (fun _ _ _ h => h) (Or.inl ⟨by rfl, ?_⟩) hS ?_
            rotate_left
            · intro W hW; go_simp; try with_reducible rfl
            (try simp only [Act.put, List.getElem_toArray, List.getElem_cons_succ, List.getElem_cons_zero, List.setIfInBounds_toArray, List.set_cons_zero, List.set_cons_succ])
            refine wpAnyH_ready (rs := [15]) (by kernel_rfl) (by simp) ?_
            refine AllReadyH.cons rfl (fun K hK => ?_) (AllReadyH.nil)
            all_goals (try simp only [List.getElem_toArray, List.getElem_cons_succ, List.getElem_cons_zero])
            (apply Bh.step_store1_bk 0 9 HO.out; rfl; rfl; rfl; rfl; rfl; rfl; rfl; kernel_rfl)
            intro wz3 hz he
            have HLN := Lib.hid ((OwnN.of (lo := wo.heap.size + 1) HLA.out HO0.out.lt).els he (by omega))
            have HSN := Lib.hid (ownS_ne (HM.out.snap.on HO.out.beh) he (fun h0 => Nat.ne_of_lt (HM.out.snap.own.lt h0)))
            refine hK.out _ _ (hS.els he (by show w.heap.size + 2 ≤ wo.heap.size + 0; omega)) (fun hS => ?_)
            clear hK K
            (try simp only [Act.put])
            refine wpAnyH_done (by kernel_rfl) ?_ _
            have HB := Lib.hid hS
            have HO := Lib.hid hz
            clear hS hz he HLA HO0
            have HLN : Hid (OwnN (w.heap.size + 2) wz3 lbn lan lcn PL) := ⟨HLN.out.own, by have := HLN.out.new; omega⟩
            go_wp2_with (first
              | (apply Bh.load_bx 0 HO.out Try.underlying27; rfl; rfl; rfl; rfl; rfl; kernel_rfl)
              | (apply Bh.store_bk 10 1 HB.out; rfl; rfl; rfl; rfl; rfl; rfl; kernel_rfl; rfl; rfl; intro wz hz he; (have HSN := Lib.hid (HSN.out.els he (by omega))); (have HLN := Lib.hid (HLN.out.els he (by omega))); have HB := Lib.hid hz; clear hz he))
            (try simp only [Exit.inBlock, Exit.then])
            refine bodyPost_ret (Bh.results_cell_row2 rfl _ _ _ _ _ _ _ rfl HB.out.b1 Try.underlying27 rfl (by kernel_rfl)) rfl ?_
            exact ⟨⟨q.sb, q.sa, q.sc, lbn, lan, lcn⟩, rfl, HSN.out.own, by have := HSN.out.new; show w.heap.size ≤ q.sb; omega, HLN.out.own, Nat.le_trans (Nat.le_add_right _ 2) HLN.out.new, HB.out.beh⟩
          · as_aux_lemma =>
            have HAX : Hid (∀ W, Kv.Beh wo W → Calls Try.prog 17 #[h.val q, .int .i64 (i + (n : Int) + 1)] W fun e w' => e = .returned (.tuple #[(h.entry (i + (n : Int) + 1)).agg, .bool true]) ∧ Below W.heap.size W w') := fun W hW => by have := HAT.out (i + (n : Int) + 1) W hW; rwa [hok] at this
            have ht1 : ((h.entry (i + (n : Int) + 1)).term == (l.getD n E.zero).term) = false := beq_eq_false_iff_ne.2 (HK2.out hlt hok)
            clear hok HK1 HK2
            generalize h.entry (i + (n : Int) + 1) = ea at *
            generalize l.getD n E.zero = x at *
            go_wp2_with (first
              | (go_at_call 17; (with_reducible refine Calls.mono (HAX.out _ ?_) ?_); exact HO.out.beh; rintro e wa ⟨rfl, hb⟩; (have HO := Lib.hid (HO.out.on hb)); (have HB := Lib.hid (HB.out.on hb)); clear hb; (have HE := Lib.hid (Bh.Bx.one wa E.zero.obj)))
              | (apply Bh.store_bx 16 0 HE.out; rfl; rfl; rfl; rfl; rfl; rfl; kernel_rfl; rfl; rfl; intro wz hz; have HE := Lib.hid hz; (have HB := Lib.hid (HB.out.on hz.beh)); (have HO := Lib.hid (HO.out.on hz.beh)); clear hz)
              | (apply Bh.load_bx 0 HO.out Try.underlying27; rfl; rfl; rfl; rfl; rfl; kernel_rfl))
            refine wp_region_quiet (C := Kv.Beh wz) (by kernel_rfl) (by kernel_rfl) (Beh.start _).drew ?_
            repeat (first
              | (refine BigFrame.wpQuiet_skip (by exact Eq.refl false) ?_
                 ((try simp only [Act.put]); (try simp only [List.setIfInBounds_toArray]); (try simp only [List.set_cons_zero, List.set_cons_succ])))
              | (refine BigFrame.wpQuiet_want (by exact Eq.refl true) (fun K hK => ?_)
                 first
                 | (refine quiet_move2 _ rfl (by go_simp; rfl) ?_; refine hK _ ?_)
                 | (apply Exists.intro
                    refine ⟨fun wq hq => ?_, hK _ ?_⟩
                    · ((obtain ⟨u0, u1, u2, u3, u4, u5, u6, u7, u8, u9, u10, u11, u12, u13, u14, u15⟩ := cells16e (x := ea) (HE.out.on hq).b0); (obtain ⟨s0, s1, s2, s3, s4, s5, s6, s7, s8, s9, s10, s11, s12, s13, s14, s15⟩ := HPS.out _ (HB.out.beh.trans hq))
                       have HQ := Lib.hid hq
                       clear hq
                       unfold Oper.quietAt
                       go_simp
                       first
                       | rfl
                       ))
                 clear hK K
                 ((try simp only [Act.put]); (try simp only [List.setIfInBounds_toArray]); (try simp only [List.set_cons_zero, List.set_cons_succ]))))
            refine wpQuiet_nil ?_
            intro wq hq
            have HB := Lib.hid (HB.out.on hq)
            have HO := Lib.hid (HO.out.on hq)
            clear hq
            go_wp2_with fail
            refine wp_region_held_drew (S := fun W => Bh.Bx w [h.obj p, H.zero.obj Hp.none] W) (by kernel_rfl) (HB.out.drew) (fun hS => ?_)
            have HO := Lib.hid HO.out.drew
            clear HB
            generalize World.drew wq = wd at HO hS ⊢
            (try simp only [Act.put, List.getElem_toArray, List.getElem_cons_succ, List.getElem_cons_zero, List.setIfInBounds_toArray, List.set_cons_zero, List.set_cons_succ])
            refine wpAnyH_take (i := 0) (v := ?_) rfl (by kernel_rfl) (by kernel_rfl) (by kernel_rfl) (fun _ _ _ h => h) (Or.inl ⟨by rfl, ?_⟩) hS ?_
            rotate_left
            · intro W hW; go_simp; try with_reducible rfl
            (try simp only [Act.put, List.getElem_toArray, List.getElem_cons_zero, List.setIfInBounds_toArray, List.set_cons_zero, List.set_cons_succ])
            refine wpAnyH_take (i := 2) (v := ?_) rfl (by kernel_rfl) (by kernel_rfl) (by kernel_rfl) (fun _ _ _ h => h) (Or.inl ⟨by rfl, ?_⟩) hS ?_
            rotate_left
            · intro W hW; go_simp; try with_reducible rfl
            (try simp only [Act.put, List.getElem_toArray, List.getElem_cons_succ, List.getElem_cons_zero, List.setIfInBounds_toArray, List.set_cons_zero, List.set_cons_succ])
            refine wpAnyH_take (i := 3) (v := ?_) rfl (by kernel_rfl) (by kernel_rfl) (by kernel_rfl) (fun _ _ _ h => h) (Or.inl ⟨by rfl, ?_⟩) hS ?_
            rotate_left
            · intro W hW; go_simp; try with_reducible rfl
            (try simp only [Act.put, List.getElem_toArray, List.getElem_cons_succ, List.getElem_cons_zero, List.setIfInBounds_toArray, List.set_cons_zero, List.set_cons_succ])
            refine wpAnyH_take (i := 4) (v := ?_) rfl (by kernel_rfl) (by kernel_rfl) (by kernel_rfl) (fun _ _ _ h => h) (Or.inl ⟨by rfl, ?_⟩) hS ?_
            rotate_left
            · intro W hW; go_simp; try with_reducible rfl
            (try simp only [Act.put, List.getElem_toArray, List.getElem_cons_succ, List.getElem_cons_zero, List.setIfInBounds_toArray, List.set_cons_zero, List.set_cons_succ])
            refine wpAnyH_take (i := 5) (v := ?_) rfl (by kernel_rfl) (by kernel_rfl) (by kernel_rfl) (fun _ _ _ h => h) (Or.inl ⟨by rfl, ?_⟩) hS ?_
            rotate_left
            · intro W hW; go_simp; try with_reducible rfl
            (try simp only [Act.put, List.getElem_toArray, List.getElem_cons_succ, List.getElem_cons_zero, List.setIfInBounds_toArray, List.set_cons_zero, List.set_cons_succ])
            refine wpAnyH_take (i := 6) (v := ?_) rfl (by kernel_rfl) (by kernel_rfl) (by kernel_rfl) (fun _ _ _ h => h) (Or.inl ⟨by rfl, ?_⟩) hS ?_
            rotate_left
            · intro W hW; (obtain ⟨x0, x1, x2, x3, x4, x5, x6, x7, x8, x9⟩ := cells10h hW.b0); go_simp; try with_reducible rfl
            (try simp only [Act.put, List.getElem_toArray, List.getElem_cons_succ, List.getElem_cons_zero, List.setIfInBounds_toArray, List.set_cons_zero, List.set_cons_succ])
            refine wpAnyH_take (i := 7) (v := ?_) rfl (by kernel_rfl) (by kernel_rfl) (by kernel_rfl) (fun _ _ _ h => h) (Or.inl ⟨by rfl, ?_⟩) hS ?_
            rotate_left
            · intro W hW; go_simp; try with_reducible rfl
            (try simp only [Act.put, List.getElem_toArray, List.getElem_cons_succ, List.getElem_cons_zero, List.setIfInBounds_toArray, List.set_cons_zero, List.set_cons_succ])
            refine wpAnyH_take (i := 10) (v := ?_) rfl (by kernel_rfl) (by kernel_rfl) (by kernel_rfl) (fun _ _ _ h => h) (Or.inl ⟨by rfl, ?_⟩) hS ?_
            rotate_left
            · intro W hW; go_simp; try with_reducible rfl
            (try simp only [Act.put, List.getElem_toArray, List.getElem_cons_succ, List.getElem_cons_zero, List.setIfInBounds_toArray, List.set_cons_zero, List.set_cons_succ])
            refine wpAnyH_take (i := 11) (v := ?_) rfl (by kernel_rfl) (by kernel_rfl) (by kernel_rfl) (fun _ _ _ h => h) (Or.inl ⟨by rfl, ?_⟩) hS ?_
            rotate_left
            · intro W hW; go_simp; try with_reducible rfl
            (try simp only [Act.put, List.getElem_toArray, List.getElem_cons_succ, List.getElem_cons_zero, List.setIfInBounds_toArray, List.set_cons_zero, List.set_cons_succ])
            refine wpAnyH_take (i := 12) (v := ?_) rfl (by kernel_rfl) (by kernel_rfl) (by kernel_rfl) (fun _ _ _ h => h) (Or.inl ⟨by rfl, ?_⟩) hS ?_
            rotate_left
            · intro W hW; go_simp; try with_reducible rfl
            (try simp only [Act.put, List.getElem_toArray, List.getElem_cons_succ, List.getElem_cons_zero, List.setIfInBounds_toArray, List.set_cons_zero, List.set_cons_succ])
            refine wpAnyH_ready (rs := [1]) (by kernel_rfl) (by simp) ?_
            refine AllReadyH.cons rfl (fun K hK => ?_) (AllReadyH.nil)
            all_goals (try simp only [List.getElem_toArray, List.getElem_cons_succ, List.getElem_cons_zero])
            (obtain ⟨y0, y1, y2, y3, y4, y5, y6, y7, y8, y9⟩ := cells10h (h := h) (p := q) HO.out.b0)
            go_simp
            refine hK.out _ _ (hS) (fun hS => ?_)
            clear hK K
            (try simp only [Act.put, List.getElem_toArray, List.getElem_cons_succ, List.getElem_cons_zero, List.setIfInBounds_toArray, List.set_cons_zero, List.set_cons_succ])
            refine wpAnyH_take (i := 8) (v := ?_) rfl (by kernel_rfl) (by kernel_rfl) (by kernel_rfl) (fun _ _ _ h => h) (Or.inl ⟨by rfl, ?_⟩) hS ?_
            rotate_left
            · intro W hW; go_simp; try with_reducible rfl
            (try simp only [Act.put, List.getElem_toArray, List.getElem_cons_succ, List.getElem_cons_zero, List.setIfInBounds_toArray, List.set_cons_zero, List.set_cons_succ])
            refine wpAnyH_ready (rs := [9]) (by kernel_rfl) (by simp) ?_
            refine AllReadyH.cons rfl (fun K hK => ?_) (AllReadyH.nil)
            all_goals (try simp only [List.getElem_toArray, List.getElem_cons_succ, List.getElem_cons_zero])
            go_simp
            go_at_call 40
            refine Calls.mono (HTE.out _ HO.out.beh) ?_
            rintro e wf ⟨lb1, la1, lc1, rfl, hml⟩
            have hb : Below _ _ _ := hml.beh
            have hS0 := hS
            have HO0 := HO
            refine hK.out _ _ (hS.on hb) (fun hS => ?_)
            clear hK K
            (try simp only [Act.put, List.getElem_toArray, List.getElem_cons_succ, List.getElem_cons_zero, List.setIfInBounds_toArray, List.set_cons_zero, List.set_cons_succ])
            have HL1 := Lib.hid hml
            clear hb hml
            refine wpAnyH_ready (rs := [13]) (by kernel_rfl) (by simp) ?_
            refine AllReadyH.cons rfl (fun K hK => ?_) (AllReadyH.nil)
            all_goals (try simp only [List.getElem_toArray, List.getElem_cons_succ, List.getElem_cons_zero])
            rw [if_pos (Bh.want_all rfl)]
            refine wp_append_cells _ _ _ rfl 40 16 _ _ 152 Try.underlying25 rfl rfl rfl rfl rfl lb1 la1 lc1 _ (Li.flat (h.log.take mm)) rfl HL1.out.own a2 c2 _ (Li.flat (l.drop n)) rfl (HM2.out ▸ (HE2.out _ hS.beh).src) flat_one (by have := HLB.out; omega) (by have := HLB.out; omega) ?_
            intro lbn lan lcn wn h2 h3 h4 h5
            have HLA := Lib.hid (HL1.out.more (M := l.drop n) (by rw [HM2.out]; exact h2) h3 h4)
            rw [HPC.out] at HLA
            rw [HLEN.out]
            refine hK.out _ _ (hS0.on HLA.out.beh) (fun hS => ?_)
            clear hK K
            (try simp only [Act.put, List.setIfInBounds_toArray, List.set_cons_zero, List.set_cons_succ])
            have HO := Lib.hid (HO0.out.on HLA.out.beh)
            clear h2 h3 h4 h5 HL1
            refine wpAnyH_take (i := 14) (v := ?_) rfl (by kernel_rfl) (by kernel_rfl) (by kernel_rfl) (fun _ _ _ h => h) (Or.inl ⟨by rfl, ?_⟩) hS ?_
            rotate_left
            · intro W hW; go_simp; try with_reducible rfl
            (try simp only [Act.put, List.getElem_toArray, List.getElem_cons_succ, List.getElem_cons_zero, List.setIfInBounds_toArray, List.set_cons_zero, List.set_cons_succ])
            refine wpAnyH_ready (rs := [15]) (by kernel_rfl) (by simp) ?_
            refine AllReadyH.cons rfl (fun K hK => ?_) (AllReadyH.nil)
            all_goals (try simp only [List.getElem_toArray, List.getElem_cons_succ, List.getElem_cons_zero])
            (apply Bh.step_store1_bk 0 9 HO.out; rfl; rfl; rfl; rfl; rfl; rfl; rfl; kernel_rfl)
            intro wz3 hz he
            have HLN := Lib.hid ((OwnN.of (lo := wo.heap.size + 1) HLA.out HO0.out.lt).els he (by omega))
            have HSN := Lib.hid (ownS_ne (HM.out.snap.on HO.out.beh) he (fun h0 => Nat.ne_of_lt (HM.out.snap.own.lt h0)))
            refine hK.out _ _ (hS.els he (by show w.heap.size + 2 ≤ wo.heap.size + 0; omega)) (fun hS => ?_)
            clear hK K
            (try simp only [Act.put])
            refine wpAnyH_done (by kernel_rfl) ?_ _
            have HB := Lib.hid hS
            have HO := Lib.hid hz
            clear hS hz he HLA HO0
            have HLN : Hid (OwnN (w.heap.size + 2) wz3 lbn lan lcn PL) := ⟨HLN.out.own, by have := HLN.out.new; omega⟩
            go_wp2_with (first
              | (apply Bh.load_bx 0 HO.out Try.underlying27; rfl; rfl; rfl; rfl; rfl; kernel_rfl)
              | (apply Bh.store_bk 10 1 HB.out; rfl; rfl; rfl; rfl; rfl; rfl; kernel_rfl; rfl; rfl; intro wz hz he; (have HSN := Lib.hid (HSN.out.els he (by omega))); (have HLN := Lib.hid (HLN.out.els he (by omega))); have HB := Lib.hid hz; clear hz he))
            (try simp only [Exit.inBlock, Exit.then])
            refine bodyPost_ret (Bh.results_cell_row2 rfl _ _ _ _ _ _ _ rfl HB.out.b1 Try.underlying27 rfl (by kernel_rfl)) rfl ?_
            exact ⟨⟨q.sb, q.sa, q.sc, lbn, lan, lcn⟩, rfl, HSN.out.own, by have := HSN.out.new; show w.heap.size ≤ q.sb; omega, HLN.out.own, Nat.le_trans (Nat.le_add_right _ 2) HLN.out.new, HB.out.beh⟩
      case neg =>
        obtain rfl : n = l.length := by omega
        obtain rfl : tt = l.length := by omega
        have hpl : PL = h.log := by rw [HPL.out, if_neg (by omega), List.drop_eq_nil_of_le (Nat.le_refl _), List.append_nil]
        have HPL2 := Lib.hid hpl
        clear hpl HPL
        have HSN := Lib.hid (HM.out.snap.on HO.out.beh)
        have HLN := Lib.hid (HM.out.log.on HO.out.beh)
        go_wp2_with (first
          | (apply Bh.load_bx 0 HO.out Try.underlying27; rfl; rfl; rfl; rfl; rfl; kernel_rfl)
          | (apply Bh.store_bk 10 1 HB.out; rfl; rfl; rfl; rfl; rfl; rfl; kernel_rfl; rfl; rfl; intro wz hz he; (have HSN := Lib.hid (HSN.out.els he (by omega))); (have HLN := Lib.hid (HLN.out.els he (by omega))); have HB := Lib.hid hz; clear hz he))
        (try simp only [Exit.inBlock, Exit.then])
        refine bodyPost_ret (Bh.results_cell_row2 rfl _ _ _ _ _ _ _ rfl HB.out.b1 Try.underlying27 rfl (by kernel_rfl)) rfl ?_
        rw [HPL2.out]
        exact ⟨⟨q.sb, q.sa, q.sc, q.lb, q.la, q.lc⟩, rfl, HSN.out.own, by have := HSN.out.new; show w.heap.size ≤ q.sb; omega, HLN.out.own, Nat.le_trans (Nat.le_add_right _ 2) HLN.out.new, HB.out.beh⟩
end Go.Proofs.Ytaifjkilmdnfbaa.Lg
