import Derived.Test.YtaifjkilmdnfbaaMergeLgC
import Derived.Test.YtaifjkilmdnfbaaLogCode4
import Derived.Test.YtaifjkilmdnfbaaConfC4
section
/- The reference: Last, At, Term, Fits, Newer. -/
namespace Go.Proofs.Ytaifjkilmdnfbaa.Lg
open Go Go.RowKit Vl Kv Ss Cn Mem Li Nm
attribute [local go_sem] Nm.run_bits Nm.run_frombits run_store_float
attribute [local irreducible] wpQuiet
set_option maxHeartbeats 1600000 in
set_option maxRecDepth 100000 in
theorem rLast_any (h : H) (p : Hp) (w : World) (hn : h.Num) (ha : HardAt w h p) :
    Calls Try.prog 15 #[h.val p] w fun e w' => e = .returned (.tuple #[.int .i64 h.last, .int .i64 h.lastT]) ∧ Below w.heap.size w w' := by
  obtain ⟨n1, n2, n3⟩ := hn
  obtain ⟨t, v, b, bt, c, s, L⟩ := h
  obtain ⟨sb, sa, sc, lb, la, lc⟩ := p
  dsimp only at n1 n2 n3
  have HI := Lib.hid (ha.on (below_alloc w (H.obj ⟨t, v, b, bt, c, s, L⟩ ⟨sb, sa, sc, lb, la, lc⟩))).log
  have HB := Lib.hid (below_alloc w (H.obj ⟨t, v, b, bt, c, s, L⟩ ⟨sb, sa, sc, lb, la, lc⟩))
  unfold H.obj at HI HB
  dsimp only at HI HB
  clear ha
  by_cases h0 : L.length = 0
  · obtain rfl := List.eq_nil_of_length_eq_zero h0
    have HR := Lib.hid (show (H.mk t v b bt c s []).last = b by simp [H.last])
    have e0 : (((0 : Nat) : Int) == 0) = true := rfl
    clear h0
    go_enter Try.func15, Try.ntmps15
    go_wp2_with fail
    go_quiet (fail)
    go_wp2_with fail
    go_ret2
    rw [HR.out]
    exact ⟨rfl, HB.out.trans (Bh.below_drewN (Below.refl _ _) _)⟩
  · have e0 : ((L.length : Int) == 0) = false := by rw [beq_eq_false_iff_ne]; omega
    have HR := Lib.hid (show (H.mk t v b bt c s L).last = b + L.length from rfl)
    have HT := Lib.hid (show (H.mk t v b bt c s L).lastT = (L.getD (L.length - 1) E.zero).term from lastT_cons bt L (by omega))
    have w1 : wrap64 (b + (L.length : Int)) = b + (L.length : Int) := IntWalk.wrap64_in _ ⟨by omega, by omega⟩
    obtain ⟨bb, off, rfl, hc⟩ := EntAt.cells HI.out (by omega)
    obtain ⟨c0, _⟩ := hc (L.length - 1) (by omega)
    clear hc
    generalize L.getD (L.length - 1) E.zero = x at *
    obtain ⟨m, hm⟩ : ∃ m, L.length - 1 = m := ⟨_, rfl⟩
    have w0 : wrap64 ((L.length : Int) - 1) = (m : Int) := (IntWalk.wrap64_in _ ⟨by omega, by omega⟩).trans (by omega)
    have v0 : IntKind.i64.wrap ((L.length : Int) - 1) = (m : Int) := (wrap_in (by omega) (by omega)).trans (by omega)
    have v1 : IntKind.i64.wrap (b + (L.length : Int)) = b + (L.length : Int) := wrap_in (by omega) (by omega)
    have hlt : m < L.length := by omega
    rw [hm] at c0
    clear hm h0
    go_enter Try.func15, Try.ntmps15
    go_wp2_with fail
    go_quiet (fail)
    go_wp2_with fail
    go_ret2
    rw [HR.out, HT.out]
    exact ⟨rfl, HB.out.trans (Bh.below_drewN (Below.refl _ _) _)⟩
set_option maxHeartbeats 1600000 in
set_option maxRecDepth 100000 in
theorem At_any (h : H) (p : Hp) (i : Int) (w : World) (hn : h.Num) (ha : HardAt w h p) :
    Calls Try.prog 17 #[h.val p, .int .i64 i] w (EntTold h i w) := by
  unfold EntTold
  have HB := Lib.hid (Bh.Bx.two w (h.obj p) E.zero.obj)
  have HI := Lib.hid ha.log
  have HPL := Lib.hid (pos_lt (h := h) (i := i))
  have HE := Lib.hid (entry_in (h := h) (i := i))
  have HE0 := Lib.hid (entry_not (h := h) (i := i))
  have n1 := hn.lo; have n2 := hn.hi; have n3 := hn.len
  have hll : h.last = h.base + h.log.length := rfl
  have w1 : wrap64 (h.base + (h.log.length : Int)) = h.base + h.log.length := IntWalk.wrap64_in _ ⟨by omega, by omega⟩
  obtain ⟨sb, sa, sc, lb, la, lc⟩ := p
  clear ha hn
  dsimp only at HI
  obtain ⟨c0, c1, c2, c3, c4, c5, c6, c7, c8, c9⟩ := cells10h HB.out.b0
  cases x1 : decide (i ≤ h.base)
  · cases x2 : decide (h.base + (h.log.length : Int) < i)
    · have HH := Lib.hid (has_in (of_decide_eq_false x1) (of_decide_eq_false (hll ▸ x2)))
      have z1 := of_decide_eq_false x1
      have z2 := of_decide_eq_false x2
      have hkl := HPL.out HH.out
      have hen := HE.out HH.out
      rw [hen, HH.out]
      obtain ⟨k, hk⟩ : ∃ k, h.pos i = k := ⟨_, rfl⟩
      have hk2 : i - h.base - 1 = (k : Int) := by rw [← hk]; unfold H.pos; omega
      have w0 : wrap64 (i - h.base) = i - h.base := IntWalk.wrap64_in _ ⟨by omega, by omega⟩
      have w2 : wrap64 (i - h.base - 1) = (k : Int) := by rw [hk2]; exact IntWalk.wrap64_in _ ⟨by omega, by omega⟩
      rw [hk] at hkl ⊢
      clear hk hk2 z1 z2 hll n1 n2 n3 HPL HE HE0 hen
      obtain ⟨bb, off, rfl, _⟩ := HI.out.at_ (by omega)
      have HC : Hid (∀ W, Kv.Beh w W → W.rangeAt bb (off + k * 16) (h.log.getD k E.zero).cells) := fun W hW => by
        obtain ⟨_, _, he, hc⟩ := (HI.out.below hW).at_ (by omega)
        cases he
        have := hc k hkl
        rw [show h.log.getD k E.zero = h.log[k] by simp [hkl]]
        exact this
      generalize h.log.getD k E.zero = x at *
      clear HI
      go_enter Try.func17, Try.ntmps17
      go_wp2_with (first
        | (refine wpList_load_mid rfl _ _ rfl _ _ rfl x.cells _ (HC.out _ HB.out.beh) Try.underlying40 rfl (by kernel_rfl) ?_)
        | (apply Bh.store_bx 16 1 HB.out; rfl; rfl; rfl; rfl; rfl; rfl; kernel_rfl; rfl; rfl; intro wz hz; have HB := Lib.hid hz; clear hz))
      (try simp only [Exit.inBlock, Exit.then])
      refine bodyPost_ret (Bh.results_cell_row2 rfl _ _ _ _ _ _ _ rfl HB.out.b1 Try.underlying40 rfl (by kernel_rfl)) rfl ?_
      exact ⟨rfl, HB.out.beh⟩
    · have HH := Lib.hid (has_hi (hll ▸ of_decide_eq_true x2))
      rw [HE0.out HH.out, HH.out]
      clear hll n1 n2 n3 HPL HE HE0 HI
      go_enter Try.func17, Try.ntmps17
      go_wp2_with (first
        | (apply Bh.store_bx 16 1 HB.out; rfl; rfl; rfl; rfl; rfl; rfl; kernel_rfl; rfl; rfl; intro wz hz; have HB := Lib.hid hz; clear hz))
      (try simp only [Exit.inBlock, Exit.then])
      refine bodyPost_ret (Bh.results_cell_row2 rfl _ _ _ _ _ _ _ rfl HB.out.b1 Try.underlying40 rfl (by kernel_rfl)) rfl ?_
      exact ⟨rfl, HB.out.beh⟩
  · have HH := Lib.hid (has_lo (of_decide_eq_true x1))
    rw [HE0.out HH.out, HH.out]
    clear hll n1 n2 n3 HPL HE HE0 HI
    go_enter Try.func17, Try.ntmps17
    go_wp2_with (first
      | (apply Bh.store_bx 16 1 HB.out; rfl; rfl; rfl; rfl; rfl; rfl; kernel_rfl; rfl; rfl; intro wz hz; have HB := Lib.hid hz; clear hz))
    (try simp only [Exit.inBlock, Exit.then])
    refine bodyPost_ret (Bh.results_cell_row2 rfl _ _ _ _ _ _ _ rfl HB.out.b1 Try.underlying40 rfl (by kernel_rfl)) rfl ?_
    exact ⟨rfl, HB.out.beh⟩
set_option maxHeartbeats 1600000 in
set_option maxRecDepth 100000 in
theorem rTerm_any (h : H) (p : Hp) (i : Int) (w : World) (hn : h.Num) (ha : HardAt w h p) :
    Calls Try.prog 21 #[h.val p, .int .i64 i] w fun e w' => e = .returned (.int .i64 (h.termOf i)) ∧ Below w.heap.size w w' := by
  have HL : Hid (∀ W, Kv.Beh w W → Calls Try.prog 17 #[h.val p, .int .i64 i] W (EntTold h i W)) := fun W hW => At_any h p i W hn (ha.on hW)
  have HB := Lib.hid (Bh.Bx.one w (h.obj p))
  have HT1 := Lib.hid (termOf_has (h := h) (i := i))
  have HT2 := Lib.hid (termOf_not (h := h) (i := i))
  unfold EntTold at HL
  clear ha hn
  obtain ⟨c0, c1, c2, c3, c4, c5, c6, c7, c8, c9⟩ := cells10h HB.out.b0
  cases x1 : (i == h.base)
  · have x1n : i ≠ h.base := by simpa using x1
    have HT1 := Lib.hid (HT1.out x1n)
    have HT2 := Lib.hid (HT2.out x1n)
    clear x1n
    generalize h.entry i = en at *
    cases hh : h.has i
    · rw [hh] at HL HT1 HT2
      have HR := Lib.hid (HT2.out rfl)
      clear HT1 HT2 hh
      go_enter Try.func21, Try.ntmps21
      go_wp2_with (first
        | (go_at_call 17; refine Calls.mono (HL.out _ HB.out.beh) ?_; rintro e wq ⟨rfl, hb⟩; (have HB := Lib.hid (HB.out.on hb)); clear hb; (have HX := Lib.hid (Bh.Bx.one wq E.zero.obj)))
        | (apply Bh.load_bx 0 HB.out Try.underlying27; rfl; rfl; rfl; rfl; rfl; kernel_rfl)
        | (apply Bh.store_bx 16 0 HX.out; rfl; rfl; rfl; rfl; rfl; rfl; kernel_rfl; rfl; rfl; intro wz hz; have HX := Lib.hid hz; clear hz; (obtain ⟨x0, _⟩ := cells16 HX.out.b0)))
      go_ret
      exact ⟨ret_int HR.out.symm, HB.out.beh.trans HX.out.beh⟩
    · rw [hh] at HL HT1 HT2
      have HR := Lib.hid (HT1.out rfl)
      clear HT1 HT2 hh
      go_enter Try.func21, Try.ntmps21
      go_wp2_with (first
        | (go_at_call 17; refine Calls.mono (HL.out _ HB.out.beh) ?_; rintro e wq ⟨rfl, hb⟩; (have HB := Lib.hid (HB.out.on hb)); clear hb; (have HX := Lib.hid (Bh.Bx.one wq E.zero.obj)))
        | (apply Bh.load_bx 0 HB.out Try.underlying27; rfl; rfl; rfl; rfl; rfl; kernel_rfl)
        | (apply Bh.store_bx 16 0 HX.out; rfl; rfl; rfl; rfl; rfl; rfl; kernel_rfl; rfl; rfl; intro wz hz; have HX := Lib.hid hz; clear hz; (obtain ⟨x0, _⟩ := cells16 HX.out.b0)))
      go_ret
      exact ⟨ret_int HR.out.symm, HB.out.beh.trans HX.out.beh⟩
  · have HR := Lib.hid (termOf_base (h := h) (i := i) (by simpa using x1))
    go_enter Try.func21, Try.ntmps21
    go_wp2_with fail
    go_ret
    exact ⟨ret_int HR.out.symm, HB.out.beh⟩
set_option maxHeartbeats 1600000 in
set_option maxRecDepth 100000 in
theorem rFits_any (h : H) (p : Hp) (i t : Int) (w : World) (hn : h.Num) (ha : HardAt w h p) :
    Calls Try.prog 30 #[h.val p, .int .i64 i, .int .i64 t] w fun e w' => e = .returned (.bool (h.fits i t)) ∧ Below w.heap.size w w' := by
  have HL : Hid (∀ W, Kv.Beh w W → Calls Try.prog 21 #[h.val p, .int .i64 i] W fun e w' => e = .returned (.int .i64 (h.termOf i)) ∧ Below W.heap.size W w') := fun W hW => rTerm_any h p i W hn (ha.on hW)
  have HB := Lib.hid (Bh.Bx.one w (h.obj p))
  have HF := Lib.hid (show h.fits i t = ((t != -1) && (h.termOf i == t)) from rfl)
  clear ha hn
  generalize h.fits i t = q at *
  generalize h.termOf i = u at *
  cases x1 : (t != -1)
  · rw [x1] at HF
    go_enter Try.func30, Try.ntmps30
    go_wp2_with (first | (apply Bh.load_bx 0 HB.out Try.underlying27; rfl; rfl; rfl; rfl; rfl; kernel_rfl))
    go_ret
    exact ⟨ret_bool HF.out.symm, HB.out.beh⟩
  · rw [x1] at HF
    go_enter Try.func30, Try.ntmps30
    go_wp2_with (first
      | (go_at_call 21; refine Calls.mono (HL.out _ HB.out.beh) ?_; rintro e wq ⟨rfl, hb⟩; (have HB := Lib.hid (HB.out.on hb)); clear hb)
      | (apply Bh.load_bx 0 HB.out Try.underlying27; rfl; rfl; rfl; rfl; rfl; kernel_rfl))
    go_ret
    exact ⟨ret_bool (by rw [HF.out]; simp), HB.out.beh⟩
set_option maxHeartbeats 1600000 in
set_option maxRecDepth 100000 in
theorem rNewer_any (h : H) (p : Hp) (i t : Int) (w : World) (hn : h.Num) (ha : HardAt w h p) :
    Calls Try.prog 32 #[h.val p, .int .i64 i, .int .i64 t] w fun e w' => e = .returned (.bool (h.newer i t)) ∧ Below w.heap.size w w' := by
  have HL : Hid (∀ W, Kv.Beh w W → Calls Try.prog 15 #[h.val p] W fun e w' => e = .returned (.tuple #[.int .i64 h.last, .int .i64 h.lastT]) ∧ Below W.heap.size W w') := fun W hW => rLast_any h p W hn (ha.on hW)
  have HB := Lib.hid (Bh.Bx.one w (h.obj p))
  have HF := Lib.hid (show h.newer i t = (decide (h.lastT < t) || (t == h.lastT) && decide (h.last ≤ i)) from rfl)
  clear ha hn
  generalize h.newer i t = q at *
  generalize h.last = u at *
  generalize h.lastT = v at *
  cases x1 : decide (v < t) <;> cases x2 : (t == v)
  all_goals
    rw [x1, x2] at HF
    go_enter Try.func32, Try.ntmps32
    go_wp2_with (first
      | (go_at_call 15; refine Calls.mono (HL.out _ HB.out.beh) ?_; rintro e wq ⟨rfl, hb⟩; (have HB := Lib.hid (HB.out.on hb)); clear hb)
      | (apply Bh.load_bx 0 HB.out Try.underlying27; rfl; rfl; rfl; rfl; rfl; kernel_rfl))
    go_ret
    exact ⟨ret_bool (by rw [HF.out]; simp), HB.out.beh⟩
end Go.Proofs.Ytaifjkilmdnfbaa.Lg
end
section
/- The reference: zeroCall, zeroConf, Entry. -/
namespace Go.Proofs.Ytaifjkilmdnfbaa.Lg
open Go Go.RowKit Vl Kv Ss Cn Mem Li Nm
attribute [local go_sem] Nm.run_bits Nm.run_frombits run_store_float
attribute [local irreducible] wpQuiet
set_option maxHeartbeats 1600000 in
theorem zeroCall_any (c : Cl) (w : World) :
    Calls Try.prog 72 #[c.agg] w fun e w' => e = .returned (.bool (noCall c)) ∧ Below w.heap.size w w' := by
  have HB := Lib.hid (Bh.Bx.one w c.obj)
  have HN : ∀ w, Hid (Calls Try.prog 56 #[c.agg, Cl.zero.agg] w fun e w' => e = .returned (.bool (noCall c)) ∧ Below w.heap.size w w') := fun w => keepCall_any c Cl.zero w
  generalize noCall c = n at *
  unfold Cl.obj at HB
  obtain ⟨c0, c1, c2, c3, c4, c5, c6, c7, c8, c9⟩ := cells10 HB.out.b0
  go_enter Try.func72, Try.ntmps72
  go_wp2_with (first | (go_at_call 56; refine ((HN _).out).mono ?_; rintro e w' ⟨rfl, hb⟩; (have HB := Lib.hid (HB.out.on hb)); clear hb))
  go_ret
  exact ⟨rfl, HB.out.beh⟩
set_option maxHeartbeats 1600000 in
theorem zeroConf_any (c : C) (w : World) :
    Calls Try.prog 73 #[c.val] w fun e w' => e = .returned (.bool (decide (c = C.zero))) ∧ Below w.heap.size w w' := by
  have HB := Lib.hid (Bh.Bx.one w (Lg.C.obj c))
  have HN : ∀ w, Hid (Calls Try.prog 26 #[c.val, C.zero.val] w fun e w' => e = .returned (.bool (decide (c = C.zero))) ∧ Below w.heap.size w w') := fun w => keepConf_any c C.zero w
  generalize decide (c = C.zero) = n at *
  unfold Lg.C.obj at HB
  obtain ⟨c0, c1, c2, c3⟩ := Bh.cells4 HB.out.b0
  go_enter Try.func73, Try.ntmps73
  go_wp2_with (first | (go_at_call 26; refine ((HN _).out).mono ?_; rintro e w' ⟨rfl, hb⟩; (have HB := Lib.hid (HB.out.on hb)); clear hb))
  go_ret
  exact ⟨rfl, HB.out.beh⟩
set_option maxHeartbeats 3200000 in
set_option maxRecDepth 100000 in
theorem rEntry_any (x : E) (w : World) :
    Calls Try.prog 67 #[x.agg] w fun e w' => e = .returned (.bool x.right) ∧ Below w.heap.size w w' := by
  have HB := Lib.hid (Bh.Bx.one w x.obj)
  have HN := fun w => Lib.hid (zeroCall_any x.call w)
  have HR := fun w => Lib.hid (refCall_any x.call w)
  have HK := fun w => Lib.hid (rConf_any x.conf w)
  have HZC := fun w => Lib.hid (zeroConf_any x.conf w)
  have R0 := Lib.hid (eright0 (x := x))
  have R1 := Lib.hid (eright1 (x := x))
  have R2 := Lib.hid (eright2 (x := x))
  have R3 := Lib.hid (eright3 (x := x))
  generalize x.right = r at *
  generalize noCall x.call = n at *
  generalize x.call.right = cr at *
  generalize x.conf.right = cg at *
  generalize decide (x.conf = C.zero) = z at *
  unfold E.obj at HB
  obtain ⟨tm, kd, cl, cf⟩ := x
  obtain ⟨f, wt, l, xx⟩ := cf
  dsimp only at HB HN HR HK HZC R0 R1 R2 R3
  (obtain ⟨c0, c1, c2, c3, c4, c5, c6, c7, c8, c9, c10, c11, c12, c13, c14, c15⟩ := cells16 HB.out.b0)
  by_cases k0 : kd = 0
  · have HX := Lib.hid (R0.out k0)
    subst k0
    clear R0 R1 R2 R3
    cases n
    all_goals
      go_enter Try.func67, Try.ntmps67
      go_wp2_with (first | (go_at_call 73; refine ((HZC _).out).mono ?_; rintro e w' ⟨rfl, hb⟩; (have HB := Lib.hid (HB.out.on hb)); clear hb; (obtain ⟨c0, c1, c2, c3, c4, c5, c6, c7, c8, c9, c10, c11, c12, c13, c14, c15⟩ := cells16 HB.out.b0)) | (go_at_call 72; refine ((HN _).out).mono ?_; rintro e w' ⟨rfl, hb⟩; (have HB := Lib.hid (HB.out.on hb)); clear hb; (obtain ⟨c0, c1, c2, c3, c4, c5, c6, c7, c8, c9, c10, c11, c12, c13, c14, c15⟩ := cells16 HB.out.b0)))
      go_ret
      exact ⟨ret_bool (by rw [HX.out]; simp), HB.out.beh⟩
  by_cases k1 : kd = 1
  · have HX := Lib.hid (R1.out k1)
    subst k1
    clear R0 R1 R2 R3 k0
    cases hcr : (cr == 0)
    all_goals
      rw [hcr] at HX
      go_enter Try.func67, Try.ntmps67
      go_wp2_with (first | (go_at_call 73; refine ((HZC _).out).mono ?_; rintro e w' ⟨rfl, hb⟩; (have HB := Lib.hid (HB.out.on hb)); clear hb; (obtain ⟨c0, c1, c2, c3, c4, c5, c6, c7, c8, c9, c10, c11, c12, c13, c14, c15⟩ := cells16 HB.out.b0)) | (go_at_call 74; refine ((HR _).out).mono ?_; rintro e w' ⟨rfl, hb⟩; (have HB := Lib.hid (HB.out.on hb)); clear hb; (obtain ⟨c0, c1, c2, c3, c4, c5, c6, c7, c8, c9, c10, c11, c12, c13, c14, c15⟩ := cells16 HB.out.b0)))
      go_ret
      exact ⟨ret_bool (by rw [HX.out]; simp), HB.out.beh⟩
  by_cases k2 : kd = 2
  · have HX := Lib.hid (R2.out k2)
    subst k2
    clear R0 R1 R2 R3 k0 k1
    cases n
    all_goals
      go_enter Try.func67, Try.ntmps67
      go_wp2_with (first | (go_at_call 73; refine ((HZC _).out).mono ?_; rintro e w' ⟨rfl, hb⟩; (have HB := Lib.hid (HB.out.on hb)); clear hb; (obtain ⟨c0, c1, c2, c3, c4, c5, c6, c7, c8, c9, c10, c11, c12, c13, c14, c15⟩ := cells16 HB.out.b0)) | (go_at_call 72; refine ((HN _).out).mono ?_; rintro e w' ⟨rfl, hb⟩; (have HB := Lib.hid (HB.out.on hb)); clear hb; (obtain ⟨c0, c1, c2, c3, c4, c5, c6, c7, c8, c9, c10, c11, c12, c13, c14, c15⟩ := cells16 HB.out.b0)) | (go_at_call 38; refine ((HK _).out).mono ?_; rintro e w' ⟨rfl, hb⟩; (have HB := Lib.hid (HB.out.on hb)); clear hb; (obtain ⟨c0, c1, c2, c3, c4, c5, c6, c7, c8, c9, c10, c11, c12, c13, c14, c15⟩ := cells16 HB.out.b0)))
      go_ret
      exact ⟨ret_bool (by rw [HX.out]; simp), HB.out.beh⟩
  · have HX := Lib.hid (R3.out k0 k1 k2)
    have b0 := beq_eq_false_iff_ne.2 k0
    have b1 := beq_eq_false_iff_ne.2 k1
    have b2 := beq_eq_false_iff_ne.2 k2
    clear R0 R1 R2 R3 k0 k1 k2
    go_enter Try.func67, Try.ntmps67
    go_wp2_with fail
    go_ret
    exact ⟨ret_bool HX.out.symm, HB.out.beh⟩
end Go.Proofs.Ytaifjkilmdnfbaa.Lg
end
