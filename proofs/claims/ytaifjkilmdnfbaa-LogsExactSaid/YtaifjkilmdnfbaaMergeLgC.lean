import Derived.Test.YtaifjkilmdnfbaaLogKeepB
import Derived.Test.YtaifjkilmdnfbaaBx
section
/- Package logs, what reads alone: isFrom, Last, place, Term, Entry, Fits, Newer. -/
namespace Go.Proofs.Ytaifjkilmdnfbaa.Lg
open Go Go.RowKit Vl Kv Ss Cn Mem Li Nm
attribute [local go_sem] Nm.run_bits Nm.run_frombits run_store_float
attribute [local irreducible] wpQuiet

theorem wrap_in {n : Int} (h1 : -9223372036854775808 ≤ n) (h2 : n ≤ 9223372036854775807) : IntKind.i64.wrap n = n := by rw [Cn.wrap_i64]; omega
theorem isFrom_any (a lo hi : Int) (w : World) :
    Calls Try.prog 64 #[.int .i64 a, .int .i64 lo, .int .i64 hi] w fun e w' => e = .returned (.bool (decide (lo ≤ a) && decide (a ≤ hi))) ∧ w = w' := by
  by_cases h : lo ≤ a
  · have h2 := decide_eq_true h
    clear h
    go_enter Try.func64, Try.ntmps64
    go_wp2
    go_ret
    exact ⟨ret_bool (by rw [h2]; simp), rfl⟩
  · have h2 := decide_eq_false h
    clear h
    go_enter Try.func64, Try.ntmps64
    go_wp2
    go_ret
    exact ⟨ret_bool (by rw [h2]; simp), rfl⟩
/-- a log whose indexes are numbers -/
structure H.Num (h : H) : Prop where
  lo : 0 ≤ h.base
  hi : h.base ≤ 1099511627776
  len : h.log.length ≤ 100000
theorem lastT_cons (b : Int) (L : List E) (hl : 0 < L.length) : lastT b L = (L.getD (L.length - 1) E.zero).term := by
  induction L generalizing b with
  | nil => simp at hl
  | cons x r ih =>
    cases r with
    | nil => rfl
    | cons y s =>
      show lastT x.term (y :: s) = _
      rw [ih x.term (by simp)]
      simp
set_option maxHeartbeats 1600000 in
set_option maxRecDepth 100000 in
theorem Last_any (h : H) (p : Hp) (w : World) (hn : h.Num) (ha : HardAt w h p) :
    Calls Try.prog 14 #[h.val p] w fun e w' => e = .returned (.tuple #[.int .i64 h.last, .int .i64 h.lastT]) ∧ Below w.heap.size w w' := by
  obtain ⟨n1, n2, n3⟩ := hn
  obtain ⟨t, v, b, bt, c, s, L⟩ := h
  obtain ⟨sb, sa, sc, lb, la, lc⟩ := p
  dsimp only at n1 n2 n3
  have HI := Lib.hid (ha.on (below_alloc w (H.obj ⟨t, v, b, bt, c, s, L⟩ ⟨sb, sa, sc, lb, la, lc⟩))).log
  have HB := Lib.hid (below_alloc w (H.obj ⟨t, v, b, bt, c, s, L⟩ ⟨sb, sa, sc, lb, la, lc⟩))
  unfold H.obj at HI HB
  dsimp only at HI HB
  clear ha
  by_cases h0 : L.length = 0
  · obtain rfl := List.eq_nil_of_length_eq_zero h0
    have HR := Lib.hid (show (H.mk t v b bt c s []).last = b by simp [H.last])
    have e0 : (((0 : Nat) : Int) == 0) = true := rfl
    clear h0
    go_enter Try.func14, Try.ntmps14
    go_wp2_with fail
    go_quiet (fail)
    go_wp2_with fail
    go_ret2
    rw [HR.out]
    exact ⟨rfl, HB.out.trans (Bh.below_drewN (Below.refl _ _) _)⟩
  · have e0 : ((L.length : Int) == 0) = false := by rw [beq_eq_false_iff_ne]; omega
    have HR := Lib.hid (show (H.mk t v b bt c s L).last = b + L.length from rfl)
    have HT := Lib.hid (show (H.mk t v b bt c s L).lastT = (L.getD (L.length - 1) E.zero).term from lastT_cons bt L (by omega))
    have w1 : wrap64 (b + (L.length : Int)) = b + (L.length : Int) := IntWalk.wrap64_in _ ⟨by omega, by omega⟩
    obtain ⟨bb, off, rfl, hc⟩ := EntAt.cells HI.out (by omega)
    obtain ⟨c0, _⟩ := hc (L.length - 1) (by omega)
    clear hc
    generalize L.getD (L.length - 1) E.zero = x at *
    obtain ⟨m, hm⟩ : ∃ m, L.length - 1 = m := ⟨_, rfl⟩
    have w0 : wrap64 ((L.length : Int) - 1) = (m : Int) := (IntWalk.wrap64_in _ ⟨by omega, by omega⟩).trans (by omega)
    have v0 : IntKind.i64.wrap ((L.length : Int) - 1) = (m : Int) := (wrap_in (by omega) (by omega)).trans (by omega)
    have v1 : IntKind.i64.wrap (b + (L.length : Int)) = b + (L.length : Int) := wrap_in (by omega) (by omega)
    have hlt : m < L.length := by omega
    rw [hm] at c0
    clear hm h0
    go_enter Try.func14, Try.ntmps14
    go_wp2_with fail
    go_quiet (fail)
    go_wp2_with fail
    go_ret2
    rw [HR.out, HT.out]
    exact ⟨rfl, HB.out.trans (Bh.below_drewN (Below.refl _ _) _)⟩
end Go.Proofs.Ytaifjkilmdnfbaa.Lg
end
section
/- Package logs: place, Entry. -/
namespace Go.Proofs.Ytaifjkilmdnfbaa.Lg
open Go Go.RowKit Vl Kv Ss Cn Mem Li Nm
attribute [local go_sem] Nm.run_bits Nm.run_frombits run_store_float
attribute [local irreducible] wpQuiet

theorem has_lo {h : H} {i : Int} (x : i ≤ h.base) : h.has i = false := by unfold H.has; rw [decide_eq_false (by omega)]; rfl
theorem has_hi {h : H} {i : Int} (x : h.last < i) : h.has i = false := by unfold H.has; rw [decide_eq_false (p := i ≤ h.last) (by omega)]; simp
theorem has_in {h : H} {i : Int} (x : ¬ i ≤ h.base) (y : ¬ h.last < i) : h.has i = true := by unfold H.has; rw [decide_eq_true (by omega), decide_eq_true (by omega)]; rfl
theorem has_iff {h : H} {i : Int} : h.has i = true ↔ h.base < i ∧ i ≤ h.last := by unfold H.has; simp
theorem pos_lt {h : H} {i : Int} (x : h.has i = true) : h.pos i < h.log.length := by
  have := has_iff.1 x; unfold H.last at this; unfold H.pos; omega
set_option maxHeartbeats 1600000 in
set_option maxRecDepth 100000 in
theorem place_any (h : H) (p : Hp) (i : Int) (w : World) (hn : h.Num) (ha : HardAt w h p) :
    Calls Try.prog 50 #[h.val p, .int .i64 i] w fun e w' => e = .returned (.tuple #[.int .i64 (if h.has i = true then (h.pos i : Int) else 0), .bool (h.has i)]) ∧ Below w.heap.size w w' := by
  have HL : Hid (∀ W, Kv.Beh w W → Calls Try.prog 14 #[h.val p] W fun e w' => e = .returned (.tuple #[.int .i64 h.last, .int .i64 h.lastT]) ∧ Below W.heap.size W w') := fun W hW => Last_any h p W hn (ha.on hW)
  have HB := Lib.hid (Bh.Bx.one w (h.obj p))
  have n1 := hn.lo; have n2 := hn.hi; have n3 := hn.len
  have hll : h.last = h.base + h.log.length := rfl
  clear ha hn
  cases x1 : decide (i ≤ h.base)
  · cases x2 : decide (h.last < i)
    · have HH := Lib.hid (has_in (of_decide_eq_false x1) (of_decide_eq_false x2))
      have z1 := of_decide_eq_false x1
      have z2 := of_decide_eq_false x2
      obtain ⟨k, hk⟩ : ∃ k, h.pos i = k := ⟨_, rfl⟩
      have hk2 : i - h.base - 1 = (k : Int) := by rw [← hk]; unfold H.pos; omega
      have w0 : wrap64 (i - h.base) = i - h.base := IntWalk.wrap64_in _ ⟨by omega, by omega⟩
      have w1 : wrap64 (i - h.base - 1) = (k : Int) := by rw [hk2]; exact IntWalk.wrap64_in _ ⟨by omega, by omega⟩
      rw [HH.out, if_pos rfl, hk]
      clear hk hk2 z1 z2 hll n1 n2 n3
      generalize h.last = last at *
      generalize h.lastT = lastT at *
      go_enter Try.func50, Try.ntmps50
      go_wp2_with (go_at_call 14; refine Calls.mono (HL.out _ HB.out.beh) ?_; rintro e wq ⟨rfl, hb⟩; (have HB := Lib.hid (HB.out.on hb)); clear hb; (obtain ⟨c0, c1, c2, c3, c4, c5, c6, c7, c8, c9⟩ := cells10h HB.out.b0))
      go_ret2
      refine ⟨?_, HB.out.beh⟩
      show Ending.returned (.tuple #[.int .i64 (wrap64 (i - h.base - 1)), .bool true]) = _
      rw [w1]
    · have HH := Lib.hid (has_hi (of_decide_eq_true x2))
      rw [HH.out, if_neg (by simp)]
      clear hll n1 n2 n3
      generalize h.last = last at *
      generalize h.lastT = lastT at *
      go_enter Try.func50, Try.ntmps50
      go_wp2_with (go_at_call 14; refine Calls.mono (HL.out _ HB.out.beh) ?_; rintro e wq ⟨rfl, hb⟩; (have HB := Lib.hid (HB.out.on hb)); clear hb; (obtain ⟨c0, c1, c2, c3, c4, c5, c6, c7, c8, c9⟩ := cells10h HB.out.b0))
      go_ret2
      exact ⟨rfl, HB.out.beh⟩
  · have HH := Lib.hid (has_lo (of_decide_eq_true x1))
    rw [HH.out, if_neg (by simp)]
    clear hll n1 n2 n3
    generalize h.last = last at *
    generalize h.lastT = lastT at *
    go_enter Try.func50, Try.ntmps50
    go_wp2_with (go_at_call 14; refine Calls.mono (HL.out _ HB.out.beh) ?_; rintro e wq ⟨rfl, hb⟩; (have HB := Lib.hid (HB.out.on hb)); clear hb; (obtain ⟨c0, c1, c2, c3, c4, c5, c6, c7, c8, c9⟩ := cells10h HB.out.b0))
    go_ret2
    exact ⟨rfl, HB.out.beh⟩
/-- what Entry answers -/
def EntTold (h : H) (i : Int) (w : World) (e : Ending) (w' : World) : Prop := e = .returned (.tuple #[(h.entry i).agg, .bool (h.has i)]) ∧ Below w.heap.size w w'
theorem entry_in {h : H} {i : Int} (x : h.has i = true) : h.entry i = h.log.getD (h.pos i) E.zero := by unfold H.entry; rw [if_pos x]
theorem entry_not {h : H} {i : Int} (x : h.has i = false) : h.entry i = E.zero := by unfold H.entry; rw [x]; rfl
set_option maxHeartbeats 1600000 in
set_option maxRecDepth 100000 in
theorem Entry_any (h : H) (p : Hp) (i : Int) (w : World) (hn : h.Num) (ha : HardAt w h p) :
    Calls Try.prog 16 #[h.val p, .int .i64 i] w (EntTold h i w) := by
  unfold EntTold
  have HL : Hid (∀ W, Kv.Beh w W → Calls Try.prog 50 #[h.val p, .int .i64 i] W fun e w' => e = .returned (.tuple #[.int .i64 (if h.has i = true then (h.pos i : Int) else 0), .bool (h.has i)]) ∧ Below W.heap.size W w') := fun W hW => place_any h p i W hn (ha.on hW)
  have HB := Lib.hid (Bh.Bx.two w (h.obj p) E.zero.obj)
  have HI := Lib.hid ha.log
  have HPL := Lib.hid (pos_lt (h := h) (i := i))
  have HE := Lib.hid (entry_in (h := h) (i := i))
  have HE0 := Lib.hid (entry_not (h := h) (i := i))
  obtain ⟨sb, sa, sc, lb, la, lc⟩ := p
  clear ha hn
  dsimp only at HI
  generalize h.entry i = en at *
  generalize h.pos i = k at *
  cases hh : h.has i
  · rw [hh] at HL
    obtain rfl := HE0.out hh
    rw [if_neg (by simp)] at HL
    clear HI HPL HE HE0 hh
    go_enter Try.func16, Try.ntmps16
    go_wp2_with (first
      | (go_at_call 50; refine Calls.mono (HL.out _ HB.out.beh) ?_; rintro e wq ⟨rfl, hb⟩; (have HB := Lib.hid (HB.out.on hb)); clear hb)
      | (apply Bh.load_bx 0 HB.out Try.underlying27; rfl; rfl; rfl; rfl; rfl; kernel_rfl)
      | (apply Bh.store_bx 16 1 HB.out; rfl; rfl; rfl; rfl; rfl; rfl; kernel_rfl; rfl; rfl; intro wz hz; have HB := Lib.hid hz; clear hz))
    (try simp only [Exit.inBlock, Exit.then])
    refine bodyPost_ret (Bh.results_cell_row2 rfl _ _ _ _ _ _ _ rfl HB.out.b1 Try.underlying40 rfl (by kernel_rfl)) rfl ?_
    exact ⟨rfl, HB.out.beh⟩
  · rw [hh] at HL
    rw [if_pos rfl] at HL
    have hkl := HPL.out hh
    obtain rfl := HE.out hh
    clear HPL HE HE0 hh
    obtain ⟨bb, off, rfl, _⟩ := HI.out.at_ (by omega)
    have HC : Hid (∀ W, Kv.Beh w W → W.rangeAt bb (off + k * 16) (h.log.getD k E.zero).cells) := fun W hW => by
      obtain ⟨_, _, he, hc⟩ := (HI.out.below hW).at_ (by omega)
      cases he
      have := hc k hkl
      rw [show h.log.getD k E.zero = h.log[k] by simp [hkl]]
      exact this
    generalize h.log.getD k E.zero = x at *
    clear HI
    go_enter Try.func16, Try.ntmps16
    go_wp2_with (first
      | (go_at_call 50; refine Calls.mono (HL.out _ HB.out.beh) ?_; rintro e wq ⟨rfl, hb⟩; (have HB := Lib.hid (HB.out.on hb)); clear hb; (obtain ⟨c0, c1, c2, c3, c4, c5, c6, c7, c8, c9⟩ := cells10h HB.out.b0))
      | (apply Bh.load_bx 0 HB.out Try.underlying27; rfl; rfl; rfl; rfl; rfl; kernel_rfl)
      | (refine wpList_load_mid rfl _ _ rfl _ _ rfl x.cells _ (HC.out _ HB.out.beh) Try.underlying40 rfl (by kernel_rfl) ?_)
      | (apply Bh.store_bx 16 1 HB.out; rfl; rfl; rfl; rfl; rfl; rfl; kernel_rfl; rfl; rfl; intro wz hz; have HB := Lib.hid hz; clear hz))
    (try simp only [Exit.inBlock, Exit.then])
    refine bodyPost_ret (Bh.results_cell_row2 rfl _ _ _ _ _ _ _ rfl HB.out.b1 Try.underlying40 rfl (by kernel_rfl)) rfl ?_
    exact ⟨rfl, HB.out.beh⟩
end Go.Proofs.Ytaifjkilmdnfbaa.Lg
end
section
/- Package logs: Term, Fits, Newer. -/
namespace Go.Proofs.Ytaifjkilmdnfbaa.Lg
open Go Go.RowKit Vl Kv Ss Cn Mem Li Nm
attribute [local go_sem] Nm.run_bits Nm.run_frombits run_store_float
attribute [local irreducible] wpQuiet
theorem termOf_base {h : H} {i : Int} (x : i = h.base) : h.termOf i = h.bterm := by unfold H.termOf; rw [if_pos x]
theorem termOf_has {h : H} {i : Int} (x : i ≠ h.base) (y : h.has i = true) : h.termOf i = (h.entry i).term := by unfold H.termOf; rw [if_neg x, if_pos y, entry_in y]
theorem termOf_not {h : H} {i : Int} (x : i ≠ h.base) (y : h.has i = false) : h.termOf i = -1 := by unfold H.termOf; rw [if_neg x, y]; rfl
set_option maxHeartbeats 1600000 in
set_option maxRecDepth 100000 in
theorem Term_any (h : H) (p : Hp) (i : Int) (w : World) (hn : h.Num) (ha : HardAt w h p) :
    Calls Try.prog 20 #[h.val p, .int .i64 i] w fun e w' => e = .returned (.int .i64 (h.termOf i)) ∧ Below w.heap.size w w' := by
  have HL : Hid (∀ W, Kv.Beh w W → Calls Try.prog 16 #[h.val p, .int .i64 i] W (EntTold h i W)) := fun W hW => Entry_any h p i W hn (ha.on hW)
  have HB := Lib.hid (Bh.Bx.one w (h.obj p))
  have HT1 := Lib.hid (termOf_has (h := h) (i := i))
  have HT2 := Lib.hid (termOf_not (h := h) (i := i))
  unfold EntTold at HL
  clear ha hn
  obtain ⟨c0, c1, c2, c3, c4, c5, c6, c7, c8, c9⟩ := cells10h HB.out.b0
  cases x1 : (i == h.base)
  · have x1n : i ≠ h.base := by simpa using x1
    have HT1 := Lib.hid (HT1.out x1n)
    have HT2 := Lib.hid (HT2.out x1n)
    clear x1n
    generalize h.entry i = en at *
    cases hh : h.has i
    · rw [hh] at HL HT1 HT2
      have HR := Lib.hid (HT2.out rfl)
      clear HT1 HT2 hh
      go_enter Try.func20, Try.ntmps20
      go_wp2_with (first
        | (go_at_call 16; refine Calls.mono (HL.out _ HB.out.beh) ?_; rintro e wq ⟨rfl, hb⟩; (have HB := Lib.hid (HB.out.on hb)); clear hb; (have HX := Lib.hid (Bh.Bx.one wq E.zero.obj)))
        | (apply Bh.load_bx 0 HB.out Try.underlying27; rfl; rfl; rfl; rfl; rfl; kernel_rfl)
        | (apply Bh.store_bx 16 0 HX.out; rfl; rfl; rfl; rfl; rfl; rfl; kernel_rfl; rfl; rfl; intro wz hz; have HX := Lib.hid hz; clear hz; (obtain ⟨x0, _⟩ := cells16 HX.out.b0)))
      go_ret
      exact ⟨ret_int HR.out.symm, HB.out.beh.trans HX.out.beh⟩
    · rw [hh] at HL HT1 HT2
      have HR := Lib.hid (HT1.out rfl)
      clear HT1 HT2 hh
      go_enter Try.func20, Try.ntmps20
      go_wp2_with (first
        | (go_at_call 16; refine Calls.mono (HL.out _ HB.out.beh) ?_; rintro e wq ⟨rfl, hb⟩; (have HB := Lib.hid (HB.out.on hb)); clear hb; (have HX := Lib.hid (Bh.Bx.one wq E.zero.obj)))
        | (apply Bh.load_bx 0 HB.out Try.underlying27; rfl; rfl; rfl; rfl; rfl; kernel_rfl)
        | (apply Bh.store_bx 16 0 HX.out; rfl; rfl; rfl; rfl; rfl; rfl; kernel_rfl; rfl; rfl; intro wz hz; have HX := Lib.hid hz; clear hz; (obtain ⟨x0, _⟩ := cells16 HX.out.b0)))
      go_ret
      exact ⟨ret_int HR.out.symm, HB.out.beh.trans HX.out.beh⟩
  · have HR := Lib.hid (termOf_base (h := h) (i := i) (by simpa using x1))
    go_enter Try.func20, Try.ntmps20
    go_wp2_with fail
    go_ret
    exact ⟨ret_int HR.out.symm, HB.out.beh⟩
set_option maxHeartbeats 1600000 in
set_option maxRecDepth 100000 in
theorem Fits_any (h : H) (p : Hp) (i t : Int) (w : World) (hn : h.Num) (ha : HardAt w h p) :
    Calls Try.prog 29 #[h.val p, .int .i64 i, .int .i64 t] w fun e w' => e = .returned (.bool (h.fits i t)) ∧ Below w.heap.size w w' := by
  have HL : Hid (∀ W, Kv.Beh w W → Calls Try.prog 20 #[h.val p, .int .i64 i] W fun e w' => e = .returned (.int .i64 (h.termOf i)) ∧ Below W.heap.size W w') := fun W hW => Term_any h p i W hn (ha.on hW)
  have HB := Lib.hid (Bh.Bx.one w (h.obj p))
  have HF := Lib.hid (show h.fits i t = ((t != -1) && (h.termOf i == t)) from rfl)
  clear ha hn
  generalize h.fits i t = q at *
  generalize h.termOf i = u at *
  cases x1 : (t != -1)
  · rw [x1] at HF
    go_enter Try.func29, Try.ntmps29
    go_wp2_with (first | (apply Bh.load_bx 0 HB.out Try.underlying27; rfl; rfl; rfl; rfl; rfl; kernel_rfl))
    go_ret
    exact ⟨ret_bool HF.out.symm, HB.out.beh⟩
  · rw [x1] at HF
    go_enter Try.func29, Try.ntmps29
    go_wp2_with (first
      | (go_at_call 20; refine Calls.mono (HL.out _ HB.out.beh) ?_; rintro e wq ⟨rfl, hb⟩; (have HB := Lib.hid (HB.out.on hb)); clear hb)
      | (apply Bh.load_bx 0 HB.out Try.underlying27; rfl; rfl; rfl; rfl; rfl; kernel_rfl))
    go_ret
    exact ⟨ret_bool (by rw [HF.out]; simp), HB.out.beh⟩
set_option maxHeartbeats 1600000 in
set_option maxRecDepth 100000 in
theorem Newer_any (h : H) (p : Hp) (i t : Int) (w : World) (hn : h.Num) (ha : HardAt w h p) :
    Calls Try.prog 31 #[h.val p, .int .i64 i, .int .i64 t] w fun e w' => e = .returned (.bool (h.newer i t)) ∧ Below w.heap.size w w' := by
  have HL : Hid (∀ W, Kv.Beh w W → Calls Try.prog 14 #[h.val p] W fun e w' => e = .returned (.tuple #[.int .i64 h.last, .int .i64 h.lastT]) ∧ Below W.heap.size W w') := fun W hW => Last_any h p W hn (ha.on hW)
  have HB := Lib.hid (Bh.Bx.one w (h.obj p))
  have HF := Lib.hid (show h.newer i t = (decide (h.lastT < t) || (t == h.lastT) && decide (h.last ≤ i)) from rfl)
  clear ha hn
  generalize h.newer i t = q at *
  generalize h.last = u at *
  generalize h.lastT = v at *
  cases x1 : decide (v < t) <;> cases x2 : (t == v)
  all_goals
    rw [x1, x2] at HF
    go_enter Try.func31, Try.ntmps31
    go_wp2_with (first
      | (go_at_call 14; refine Calls.mono (HL.out _ HB.out.beh) ?_; rintro e wq ⟨rfl, hb⟩; (have HB := Lib.hid (HB.out.on hb)); clear hb)
      | (apply Bh.load_bx 0 HB.out Try.underlying27; rfl; rfl; rfl; rfl; rfl; kernel_rfl))
    go_ret
    exact ⟨ret_bool (by rw [HF.out]; simp), HB.out.beh⟩
end Go.Proofs.Ytaifjkilmdnfbaa.Lg
end
