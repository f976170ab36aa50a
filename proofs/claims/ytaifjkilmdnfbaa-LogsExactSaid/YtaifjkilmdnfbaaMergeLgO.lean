import Derived.Test.YtaifjkilmdnfbaaLogPut
import Derived.Test.YtaifjkilmdnfbaaLogKeepD
import Derived.Test.YtaifjkilmdnfbaaLogAt
section
/- Plain mathematics of the laws of layer 9. -/
namespace Go.Proofs.Ytaifjkilmdnfbaa.Lg
open Go Go.RowKit Vl Kv Ss Cn Mem Li Nm
attribute [local go_sem] Nm.run_bits Nm.run_frombits run_store_float
attribute [local irreducible] wpQuiet
/-- what a law plays: not too much -/
structure Played (h : H) : Prop where
  log : h.log.length ≤ 200
  snap : h.snap.length ≤ 32768
theorem played {h : H} (x : (heavyL h.log || decide (32768 < (h.snap.length : Int))) = false) : Played h := by
  rw [Bool.or_eq_false_iff] at x
  have h1 := x.1
  unfold heavyL at h1
  rw [Bool.or_eq_false_iff, decide_eq_false_iff_not] at h1
  have h2 := of_decide_eq_false x.2
  exact ⟨by omega, by omega⟩
theorem played_l {L : List E} (x : heavyL L = false) : L.length ≤ 200 := by
  unfold heavyL at x
  rw [Bool.or_eq_false_iff, decide_eq_false_iff_not] at x
  omega
theorem looked_num {h : H} (x : lookedB h = true) (y : Played h) : h.Num := by
  unfold lookedB at x
  rw [Bool.and_eq_true, decide_eq_true_eq, decide_eq_true_eq] at x
  exact ⟨x.1, x.2, by have := y.log; omega⟩
theorem right_num2 {h : H} (x : h.right = true) (y : Played h) : h.Num := right_num x (by have := y.log; omega)
theorem newer_self (h : H) : h.newer h.last h.lastT = true := by unfold H.newer; simp
theorem newer_any (g h : H) (x : g.newer h.last h.lastT = false) : h.newer g.last g.lastT = true := by
  unfold H.newer at *
  simp only [Bool.or_eq_false_iff, Bool.and_eq_false_iff, decide_eq_false_iff_not, beq_eq_false_iff_ne, Bool.or_eq_true, Bool.and_eq_true, decide_eq_true_eq, beq_iff_eq] at *
  omega
theorem lastT_append (b : Int) (L M : List E) : lastT b (L ++ M) = lastT (lastT b L) M := by
  induction L generalizing b with
  | nil => rfl
  | cons x r ih => exact ih x.term
theorem rowOk_last {L : List E} {b most : Int} (x : rowOk L b most = true) : b ≤ lastT b L := by
  induction L generalizing b with
  | nil => exact Int.le_refl _
  | cons y r ih =>
    unfold rowOk at x
    simp only [Bool.and_eq_true, decide_eq_true_eq] at x
    have := ih x.2
    show b ≤ lastT y.term r
    omega
theorem put_code {h : H} {i : Int} {l : List E} (x : h.putOk i l = 0) : h.right = true ∧ (h.termOf i == -1) = false ∧ rowOk l (h.termOf i) h.term = true := by
  cases hr : h.right
  · rw [(put_bad hr).1] at x; cases x
  · cases hy : ((h.termOf i == -1) || !rowOk l (h.termOf i) h.term)
    · rw [Bool.or_eq_false_iff] at hy
      refine ⟨rfl, hy.1, ?_⟩
      have := hy.2
      cases hz : rowOk l (h.termOf i) h.term
      · rw [hz] at this; cases this
      · rfl
    · rw [(put_arg hr hy).1] at x; cases x
theorem put_is {h : H} {i : Int} {l : List E} (x : h.putOk i l = 0) : h.put i l = { h with log := putL h.log (h.off i) l } := by unfold H.put; rw [if_pos x]
theorem putL_end (L : List E) (l : List E) : putL L L.length l = L ++ l := by
  unfold putL
  rw [List.drop_eq_nil_of_le (Nat.le_refl _)]
  have : there ([] : List E) l = 0 := by unfold there; cases l <;> rfl
  rw [this]
  cases l with
  | nil => simp
  | cons y s => simp
theorem termOf_last {h : H} (_ : h.Num) : h.termOf h.last = h.lastT := by
  by_cases h0 : h.log.length = 0
  · rw [termOf_base (by unfold H.last; omega)]
    unfold H.lastT
    rw [List.eq_nil_of_length_eq_zero h0]; rfl
  · have hh : h.has h.last = true := has_iff.2 ⟨by unfold H.last; omega, Int.le_refl _⟩
    rw [termOf_has (by unfold H.last; omega) hh, entry_in hh]
    unfold H.lastT
    rw [lastT_cons h.bterm h.log (by omega)]
    have : h.pos h.last = h.log.length - 1 := by unfold H.pos H.last; omega
    rw [this]
/-- behind a put at the end -/
theorem put_end {h : H} {l : List E} (x : h.putOk h.last l = 0) (n : h.Num) : (h.put h.last l).last = h.last + l.length ∧ h.lastT ≤ (h.put h.last l).lastT := by
  have ho : h.off h.last = h.log.length := by unfold H.off H.last; omega
  obtain ⟨_, _, hr⟩ := put_code x
  rw [termOf_last n] at hr
  rw [put_is x, ho, putL_end]
  refine ⟨by unfold H.last; simp; omega, ?_⟩
  have := rowOk_last hr
  show h.lastT ≤ lastT h.bterm (h.log ++ l)
  rw [lastT_append]
  exact this
theorem newer_put {h : H} {l : List E} (x : h.putOk h.last l = 0) (n : h.Num) : h.newer (h.put h.last l).last (h.put h.last l).lastT = true ∧ (l.length ≠ 0 → (h.put h.last l).newer h.last h.lastT = false) := by
  obtain ⟨h1, h2⟩ := put_end x n
  unfold H.newer
  simp only [Bool.or_eq_false_iff, Bool.and_eq_false_iff, decide_eq_false_iff_not, beq_eq_false_iff_ne, Bool.or_eq_true, Bool.and_eq_true, decide_eq_true_eq, beq_iff_eq, ne_eq]
  omega
end Go.Proofs.Ytaifjkilmdnfbaa.Lg
end
section
/- A log of a call's own, behind so many blocks. No program's function. -/
namespace Go.Proofs.Ytaifjkilmdnfbaa.Lg
open Go Go.RowKit Vl Kv Ss Cn Mem Li

structure OwnH (lo : Nat) (w : World) (h : H) (p : Hp) : Prop where
  snap : OwnS lo w p.sb p.sa p.sc h.snap
  log : OwnN lo w p.lb p.la p.lc h.log
theorem OwnH.on {lo : Nat} {w w' : World} {h : H} {p : Hp} (x : OwnH lo w h p) (hb : Below w.heap.size w w') : OwnH lo w' h p := ⟨x.snap.on hb, x.log.on hb⟩
theorem OwnH.els {lo : Nat} {w w' : World} {g : Nat} {h : H} {p : Hp} (x : OwnH lo w h p) (y : Bh.Else g w w') (hg : g < lo) : OwnH lo w' h p := ⟨x.snap.els y hg, x.log.els y hg⟩
theorem OwnH.at_ {lo : Nat} {w : World} {h : H} {p : Hp} (x : OwnH lo w h p) : HardAt w h p := ⟨x.snap.own.src, OwnL.list x.log.own⟩
theorem MadeH.own {w w' : World} {h : H} {p : Hp} (m : MadeH w w' h p) {lo : Nat} (hl : lo ≤ w.heap.size) : OwnH lo w' h p := ⟨⟨m.snap, Nat.le_trans hl m.snew⟩, ⟨m.log, Nat.le_trans hl m.lnew⟩⟩
end Go.Proofs.Ytaifjkilmdnfbaa.Lg
end
section
/- The law's wakes. -/
namespace Go.Proofs.Ytaifjkilmdnfbaa.Lg
open Go Go.RowKit Vl Kv Ss Cn Mem Li Nm
attribute [local go_sem] Nm.run_bits Nm.run_frombits run_store_float
attribute [local irreducible] wpQuiet
def en (t : Int) : E := ⟨t, 0, Cl.zero, C.zero⟩
def wh1 : H := ⟨3, -1, 0, 0, ⟨1, 0, 0, 0⟩, [], []⟩
def wh2 : H := ⟨3, -1, 0, 0, ⟨1, 0, 0, 0⟩, [], [en 1, en 1, en 2]⟩
def wh3 : H := ⟨3, -1, 0, 0, ⟨1, 0, 0, 0⟩, [], [en 1, en 1, en 3]⟩
theorem wk_right : (C.mk 1 0 0 0).right = true := by decide +kernel
theorem wk_ok1 : wh1.putOk 0 [en 1, en 1, en 2] = 0 := by kernel_rfl
theorem wk_put1 : wh1.put 0 [en 1, en 1, en 2] = wh2 := by kernel_rfl
theorem wk_ok2 : wh2.putOk 1 [en 1, en 3] = 0 := by kernel_rfl
theorem wk_put2 : wh2.put 1 [en 1, en 3] = wh3 := by kernel_rfl
theorem wk_last : wh3.last = 3 := by kernel_rfl
theorem wk_lastT : wh3.lastT = 3 := by kernel_rfl
theorem wk_term : wh3.termOf 2 = 1 := by kernel_rfl
theorem Last3 (p : Hp) (w : World) (ha : HardAt w wh3 p) :
    Calls Try.prog 14 #[wh3.val p] w fun e w' => e = .returned (.tuple #[.int .i64 3, .int .i64 3]) ∧ Below w.heap.size w w' := by
  have := Last_any wh3 p w ⟨by decide, by decide, by decide⟩ ha
  rwa [wk_last, wk_lastT] at this
theorem Term3 (p : Hp) (w : World) (ha : HardAt w wh3 p) :
    Calls Try.prog 20 #[wh3.val p, .int .i64 2] w fun e w' => e = .returned (.int .i64 1) ∧ Below w.heap.size w w' := by
  have := Term_any wh3 p 2 w ⟨by decide, by decide, by decide⟩ ha
  rwa [wk_term] at this
theorem Put1 (p : Hp) (b : Nat) (cap : Nat) (w : World) (ha : HardAt w wh1 p) (hl : EntAt w (some ⟨b, 0, none⟩) cap [en 1, en 1, en 2]) :
    Calls Try.prog 42 #[wh1.val p, .int .i64 0, .slice (some ⟨b, 0, none⟩) 3 cap] w (HardTold wh2 0 w) := by
  have := Put_any wh1 p 0 (some ⟨b, 0, none⟩) cap [en 1, en 1, en 2] w ha hl (by decide) (by decide) (by decide)
  rwa [wk_put1, wk_ok1] at this
theorem Put2 (p : Hp) (b : Nat) (cap : Nat) (w : World) (ha : HardAt w wh2 p) (hl : EntAt w (some ⟨b, 0, none⟩) cap [en 1, en 3]) :
    Calls Try.prog 42 #[wh2.val p, .int .i64 1, .slice (some ⟨b, 0, none⟩) 2 cap] w (HardTold wh3 0 w) := by
  have := Put_any wh2 p 1 (some ⟨b, 0, none⟩) cap [en 1, en 3] w ha hl (by decide) (by decide) (by decide)
  rwa [wk_put2, wk_ok2] at this
theorem Begin1 (w : World) : Calls Try.prog 37 #[.agg #[.int .i64 1, .int .i64 0, .int .i64 0, .int .i64 0]] w fun e w' => ∃ q, e = .returned (.tuple #[.agg #[.int .i64 0, .int .i64 (-1), .int .i64 0, .int .i64 0, .int .i64 1, .int .i64 0, .int .i64 0, .int .i64 0, .slice q.sa 0 q.sc, .slice q.la 0 q.lc], .int .i64 0]) ∧ MadeH w w' (begin_ ⟨1, 0, 0, 0⟩) q := by
  have := Begin_any ⟨1, 0, 0, 0⟩ w
  rw [if_pos wk_right, if_pos wk_right] at this
  exact this
set_option maxHeartbeats 6400000 in
set_option maxRecDepth 100000 in
theorem wakes_any (w : World) :
    Calls Try.prog 35 #[] w fun e w' => e = .returned (.bool true) ∧ Below w.heap.size w w' := by
  go_enter Try.func35, Try.ntmps35
  go_wp2_with fail
  refine Calls.mono (Begin1 _) ?_
  rintro e wq ⟨q, rfl, hm⟩
  have HM1 := Lib.hid hm
  have HX := Lib.hid (Bh.Bx.one wq (H.zero.obj Hp.none))
  clear hm
  go_wp2_with (first | (apply Bh.store1_bx 0 0 HX.out; rfl; rfl; rfl; rfl; rfl; rfl; rfl; kernel_rfl; intro wz hz; have HX := Lib.hid hz; clear hz) | (apply Bh.store_bx 10 0 HX.out; rfl; rfl; rfl; rfl; rfl; rfl; kernel_rfl; rfl; rfl; intro wz hz; have HX := Lib.hid hz; clear hz; (obtain ⟨z0, z1, _⟩ := cells10 HX.out.b0)) | (apply Bh.load_bx 0 HX.out Try.underlying27; rfl; rfl; rfl; rfl; rfl; kernel_rfl))
  refine Calls.mono (Put1 q _ 3 _ ?_ ?_) ?_
  · exact ⟨((HM1.out.on HX.out.beh).on (Bh.below_alloc _ _)).at_.snap, ((HM1.out.on HX.out.beh).on (Bh.below_alloc _ _)).at_.log⟩
  · exact lit_list (L := [en 1, en 1, en 2]) (Bh.alloc_here _ rfl) rfl (by decide)
  rintro e w2 ⟨q2, rfl, hm2⟩
  have hlt := HX.out.lt
  simp only [List.length_set, List.length_cons, List.length_nil] at hlt
  have HX := Lib.hid ((HX.out.alloc _).on hm2.beh)
  have HM := Lib.hid (hm2.own (lo := wq.heap.size + 1) (by rw [Bh.size_alloc]; omega))
  clear hm2 hlt
  go_wp2_with (first | (apply Bh.store1_bk 0 0 HX.out; rfl; rfl; rfl; rfl; rfl; rfl; rfl; kernel_rfl; intro wz hz he; (have HM := Lib.hid (HM.out.els he (by omega))); have HX := Lib.hid hz; clear hz he) | (apply Bh.store_bk 10 0 HX.out; rfl; rfl; rfl; rfl; rfl; rfl; kernel_rfl; rfl; rfl; intro wz hz he; (have HM := Lib.hid (HM.out.els he (by omega))); have HX := Lib.hid hz; clear hz he) | (apply Bh.load_bx 0 HX.out Try.underlying27; rfl; rfl; rfl; rfl; rfl; kernel_rfl))
  refine Calls.mono (Put2 q2 _ 2 _ ?_ ?_) ?_
  · exact (HM.out.on (Bh.below_alloc _ _)).at_
  · exact lit_list (L := [en 1, en 3]) (Bh.alloc_here _ rfl) rfl (by decide)
  rintro e w3 ⟨q3, rfl, hm3⟩
  have hlt := HX.out.lt
  simp only [List.length_set, List.length_cons, List.length_nil] at hlt
  have HX := Lib.hid ((HX.out.alloc _).on hm3.beh)
  have HM := Lib.hid (hm3.own (lo := wq.heap.size + 1) (by rw [Bh.size_alloc]; omega))
  clear hm3 hlt
  go_wp2_with (first | (apply Bh.store1_bk 0 0 HX.out; rfl; rfl; rfl; rfl; rfl; rfl; rfl; kernel_rfl; intro wz hz he; (have HM := Lib.hid (HM.out.els he (by omega))); have HX := Lib.hid hz; clear hz he) | (apply Bh.store_bk 10 0 HX.out; rfl; rfl; rfl; rfl; rfl; rfl; kernel_rfl; rfl; rfl; intro wz hz he; (have HM := Lib.hid (HM.out.els he (by omega))); have HX := Lib.hid hz; clear hz he) | (apply Bh.load_bx 0 HX.out Try.underlying27; rfl; rfl; rfl; rfl; rfl; kernel_rfl))
  refine Calls.mono (Last3 q3 _ HM.out.at_) ?_
  rintro e w4 ⟨rfl, hb⟩
  have HX := Lib.hid (HX.out.on hb)
  have HM := Lib.hid (HM.out.on hb)
  clear hb
  obtain ⟨z0, zr⟩ := cells10 HX.out.b0
  go_wp2_with (first | (apply Bh.store1_bk 0 0 HX.out; rfl; rfl; rfl; rfl; rfl; rfl; rfl; kernel_rfl; intro wz hz he; (have HM := Lib.hid (HM.out.els he (by omega))); have HX := Lib.hid hz; clear hz he) | (apply Bh.store_bk 10 0 HX.out; rfl; rfl; rfl; rfl; rfl; rfl; kernel_rfl; rfl; rfl; intro wz hz he; (have HM := Lib.hid (HM.out.els he (by omega))); have HX := Lib.hid hz; clear hz he) | (apply Bh.load_bx 0 HX.out Try.underlying27; rfl; rfl; rfl; rfl; rfl; kernel_rfl))
  refine Calls.mono (Term3 q3 _ HM.out.at_) ?_
  rintro e w5 ⟨rfl, hb⟩
  have HX := Lib.hid (HX.out.on hb)
  clear hb
  go_wp2_with fail
  go_ret
  exact ⟨rfl, HM1.out.beh.trans HX.out.beh⟩
end Go.Proofs.Ytaifjkilmdnfbaa.Lg
end
