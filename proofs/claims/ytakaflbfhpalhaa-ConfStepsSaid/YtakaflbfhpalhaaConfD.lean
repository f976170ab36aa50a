/- Walks of the landed package conf: Learn, Promote, Remove, leads, Near. -/
import Derived.Test.YtakaflbfhpalhaaConfC
namespace Go.Proofs.Ytakaflbfhpalhaa.Cn
open Go Go.RowKit Bh
attribute [local irreducible] wpQuiet

set_option maxHeartbeats 800000 in
theorem Promote_any (c : C) (i : Int) (w : World) :
    Calls Try.prog 11 #[c.val, .int .i64 i] w fun e w' => e = .returned (pairV (stepM c i promN)) ∧ Below w.heap.size w w' := by
  have HT := Lib.hid (fun w => step_prom c i w)
  generalize stepM c i promN = R at *
  obtain ⟨⟨mf, mw, ml, mx⟩, er⟩ := R
  have HR : Hid (pairV (⟨mf, mw, ml, mx⟩, er) = .tuple #[.agg #[.int .i64 mf, .int .i64 mw, .int .i64 ml, .int .i64 mx], .int .i64 er]) := rfl
  rw [HR.out]
  obtain ⟨f, wt, l, x⟩ := c
  have HB := Lib.hid (Two.start w (.cells #[.int .i64 f, .int .i64 wt, .int .i64 l, .int .i64 x] 23) (.cells #[.int .i64 0, .int .i64 0, .int .i64 0, .int .i64 0] 23))
  go_enter Try.func11, Try.ntmps11
  go_wp2_with (first | (go_at_call 23; refine Calls.mono (HT.out _) ?_; rintro e wq ⟨he, hb⟩; rw [HR.out] at he; subst he; have HB := Lib.hid (HB.out.on hb); clear hb; have f1 := frozen_of HB.out.b 0; have f2 := frozen_of HB.out.b 1; have f3 := frozen_of HB.out.b 2; have f4 := frozen_of HB.out.b 3; obtain ⟨h0, h1, h2, h3⟩ := cells4 HB.out.b))
  (try simp only [Exit.inBlock, Exit.then])
  refine bodyPost_ret (v := .tuple #[.agg #[.int .i64 mf, .int .i64 mw, .int .i64 ml, .int .i64 mx], .int .i64 er]) ?_ rfl ⟨rfl, by repeat' (first | exact HB.out.beh | refine Below.setCell ?_ (show w.heap.size ≤ w.heap.size + 1 by omega) _)⟩
  rw [results_cell_tmp rfl]
  go_simp

set_option maxHeartbeats 800000 in
theorem Remove_any (c : C) (i : Int) (w : World) :
    Calls Try.prog 13 #[c.val, .int .i64 i] w fun e w' => e = .returned (pairV (stepM c i remN)) ∧ Below w.heap.size w w' := by
  have HT := Lib.hid (fun w => step_rem c i w)
  generalize stepM c i remN = R at *
  obtain ⟨⟨mf, mw, ml, mx⟩, er⟩ := R
  have HR : Hid (pairV (⟨mf, mw, ml, mx⟩, er) = .tuple #[.agg #[.int .i64 mf, .int .i64 mw, .int .i64 ml, .int .i64 mx], .int .i64 er]) := rfl
  rw [HR.out]
  obtain ⟨f, wt, l, x⟩ := c
  have HB := Lib.hid (Two.start w (.cells #[.int .i64 f, .int .i64 wt, .int .i64 l, .int .i64 x] 23) (.cells #[.int .i64 0, .int .i64 0, .int .i64 0, .int .i64 0] 23))
  go_enter Try.func13, Try.ntmps13
  go_wp2_with (first | (go_at_call 23; refine Calls.mono (HT.out _) ?_; rintro e wq ⟨he, hb⟩; rw [HR.out] at he; subst he; have HB := Lib.hid (HB.out.on hb); clear hb; have f1 := frozen_of HB.out.b 0; have f2 := frozen_of HB.out.b 1; have f3 := frozen_of HB.out.b 2; have f4 := frozen_of HB.out.b 3; obtain ⟨h0, h1, h2, h3⟩ := cells4 HB.out.b))
  (try simp only [Exit.inBlock, Exit.then])
  refine bodyPost_ret (v := .tuple #[.agg #[.int .i64 mf, .int .i64 mw, .int .i64 ml, .int .i64 mx], .int .i64 er]) ?_ rfl ⟨rfl, by repeat' (first | exact HB.out.beh | refine Below.setCell ?_ (show w.heap.size ≤ w.heap.size + 1 by omega) _)⟩
  rw [results_cell_tmp rfl]
  go_simp

set_option maxHeartbeats 1600000 in
theorem Learn_any (c : C) (i : Int) (wit : Bool) (w : World) :
    Calls Try.prog 8 #[c.val, .int .i64 i, .bool wit] w fun e w' => e = .returned (pairV (stepM c i (lrnN wit))) ∧ Below w.heap.size w w' := by
  have HT := Lib.hid (fun b w h => step_lrn c i wit b w h)
  generalize stepM c i (lrnN wit) = R at *
  obtain ⟨⟨mf, mw, ml, mx⟩, er⟩ := R
  have HR : Hid (pairV (⟨mf, mw, ml, mx⟩, er) = .tuple #[.agg #[.int .i64 mf, .int .i64 mw, .int .i64 ml, .int .i64 mx], .int .i64 er]) := rfl
  rw [HR.out]
  obtain ⟨f, wt, l, x⟩ := c
  have HB := Lib.hid (Two.start w (.cells #[.int .i64 f, .int .i64 wt, .int .i64 l, .int .i64 x] 23) (.cells #[.int .i64 0, .int .i64 0, .int .i64 0, .int .i64 0] 23))
  cases wit
  · have HB := Lib.hid (HB.out.alloc (.cells #[.string ⟨#[108, 101, 97, 114, 110]⟩] 9))
    have HX := Lib.hid (alloc_here (w := (w.alloc (.cells #[.int .i64 f, .int .i64 wt, .int .i64 l, .int .i64 x] 23)).alloc (.cells #[.int .i64 0, .int .i64 0, .int .i64 0, .int .i64 0] 23)) (n := w.heap.size + 1 + 1) (.cells #[.string ⟨#[108, 101, 97, 114, 110]⟩] 9) (by simp))
    go_enter Try.func8, Try.ntmps8
    go_wp2_with (first | (go_at_call 23; refine Calls.mono (HT.out _ _ HX.out) ?_; rintro e wq ⟨he, hb⟩; rw [HR.out] at he; subst he; have HB := Lib.hid (HB.out.on hb); clear hb; have f1 := frozen_of HB.out.b 0; have f2 := frozen_of HB.out.b 1; have f3 := frozen_of HB.out.b 2; have f4 := frozen_of HB.out.b 3; obtain ⟨h0, h1, h2, h3⟩ := cells4 HB.out.b))
    (try simp only [Exit.inBlock, Exit.then])
    refine bodyPost_ret (v := .tuple #[.agg #[.int .i64 mf, .int .i64 mw, .int .i64 ml, .int .i64 mx], .int .i64 er]) ?_ rfl ⟨rfl, by repeat' (first | exact HB.out.beh | refine Below.setCell ?_ (show w.heap.size ≤ w.heap.size + 1 by omega) _)⟩
    rw [results_cell_tmp rfl]
    go_simp
  · have HB := Lib.hid (HB.out.alloc (.cells #[.string ⟨#[108, 101, 97, 114, 110, 119, 105, 116]⟩] 9))
    have HX := Lib.hid (alloc_here (w := (w.alloc (.cells #[.int .i64 f, .int .i64 wt, .int .i64 l, .int .i64 x] 23)).alloc (.cells #[.int .i64 0, .int .i64 0, .int .i64 0, .int .i64 0] 23)) (n := w.heap.size + 1 + 1) (.cells #[.string ⟨#[108, 101, 97, 114, 110, 119, 105, 116]⟩] 9) (by simp))
    go_enter Try.func8, Try.ntmps8
    go_wp2_with (first | (go_at_call 23; refine Calls.mono (HT.out _ _ HX.out) ?_; rintro e wq ⟨he, hb⟩; rw [HR.out] at he; subst he; have HB := Lib.hid (HB.out.on hb); clear hb; have f1 := frozen_of HB.out.b 0; have f2 := frozen_of HB.out.b 1; have f3 := frozen_of HB.out.b 2; have f4 := frozen_of HB.out.b 3; obtain ⟨h0, h1, h2, h3⟩ := cells4 HB.out.b))
    (try simp only [Exit.inBlock, Exit.then])
    refine bodyPost_ret (v := .tuple #[.agg #[.int .i64 mf, .int .i64 mw, .int .i64 ml, .int .i64 mx], .int .i64 er]) ?_ rfl ⟨rfl, by repeat' (first | exact HB.out.beh | refine Below.setCell ?_ (show w.heap.size ≤ w.heap.size + 1 by omega) _)⟩
    rw [results_cell_tmp rfl]
    go_simp
/-! ### leads -/
theorem C.eq_iff (a b : C) : (a = b) ↔ (a.f = b.f ∧ a.w = b.w ∧ a.l = b.l ∧ a.x = b.x) := by
  obtain ⟨f, w, l, x⟩ := a
  obtain ⟨f', w', l', x'⟩ := b
  simp
set_option maxHeartbeats 400000 in
theorem conf_eq (f wt l x f' wt' l' x' : Int) (w : World) :
    (binOp .eql 23 (.agg #[.int .i64 f, .int .i64 wt, .int .i64 l, .int .i64 x]) (.agg #[.int .i64 f', .int .i64 wt', .int .i64 l', .int .i64 x'])).run Try.prog w = .ok (.bool (decide (C.mk f wt l x = C.mk f' wt' l' x'))) w := by
  rw [show decide (C.mk f wt l x = C.mk f' wt' l' x') = (decide (f = f') && decide (wt = wt') && decide (l = l') && decide (x = x')) by rw [Bool.eq_iff_iff]; simp [C.eq_iff, and_assoc]]
  by_cases h1 : f = f'
  · subst h1
    by_cases h2 : wt = wt'
    · subst h2
      by_cases h3 : l = l'
      · subst h3
        have h4 : (x == x') = decide (x = x') := by rw [Bool.eq_iff_iff]; simp
        have h5 : decide (x = x') = true ∨ decide (x = x') = false := by cases decide (x = x') <;> simp
        rcases h5 with h5 | h5
        · rw [h5] at h4 ⊢
          clear h5
          go_simp
        · rw [h5] at h4 ⊢
          clear h5
          go_simp
      · have h4 := beq_eq_false_iff_ne.2 h3
        rw [decide_eq_false h3]
        clear h3
        go_simp
    · have h4 := beq_eq_false_iff_ne.2 h2
      rw [decide_eq_false h2]
      clear h2
      go_simp
  · have h4 := beq_eq_false_iff_ne.2 h1
    rw [decide_eq_false h1]
    clear h1
    go_simp
def leadsM (a b : C) (i : Int) : Bool := decide (b = (stepM a i (lrnN false)).1) || decide (b = (stepM a i (lrnN true)).1) || decide (b = (stepM a i promN).1) || decide (b = (stepM a i remN).1)
set_option maxHeartbeats 3200000 in
theorem leads_any (c d : C) (i : Int) (w : World) :
    Calls Try.prog 30 #[c.val, d.val, .int .i64 i] w fun e w' => e = .returned (.bool (leadsM c d i)) ∧ Below w.heap.size w w' := by
  have HL1 := Lib.hid (fun W => Learn_any c i false W)
  have HL2 := Lib.hid (fun W => Learn_any c i true W)
  have HL3 := Lib.hid (fun W => Promote_any c i W)
  have HL4 := Lib.hid (fun W => Remove_any c i W)
  have HLM := Lib.hid (show leadsM c d i = (decide (d = (stepM c i (lrnN false)).1) || decide (d = (stepM c i (lrnN true)).1) || decide (d = (stepM c i promN).1) || decide (d = (stepM c i remN).1)) from rfl)
  generalize leadsM c d i = Q at *
  have HR : Hid (∀ (p : C) (e : Int), pairV (p, e) = .tuple #[.agg #[.int .i64 p.f, .int .i64 p.w, .int .i64 p.l, .int .i64 p.x], .int .i64 e]) := fun _ _ => rfl
  generalize stepM c i (lrnN false) = R1 at *
  generalize stepM c i (lrnN true) = R2 at *
  generalize stepM c i promN = R3 at *
  generalize stepM c i remN = R4 at *
  obtain ⟨⟨f1, w1, l1, x1⟩, e1⟩ := R1
  obtain ⟨⟨f2, w2, l2, x2⟩, e2⟩ := R2
  obtain ⟨⟨f3, w3, l3, x3⟩, e3⟩ := R3
  obtain ⟨⟨f4, w4, l4, x4⟩, e4⟩ := R4
  obtain ⟨f, wt, l, x⟩ := c
  obtain ⟨f', wt', l', x'⟩ := d
  have HB := Lib.hid (Two.start w (.cells #[.int .i64 f, .int .i64 wt, .int .i64 l, .int .i64 x] 23) (.cells #[.int .i64 f', .int .i64 wt', .int .i64 l', .int .i64 x'] 23))
  go_enter Try.func30, Try.ntmps30
  go_wp2_with fail
  refine Calls.mono (HL1.out _) ?_
  rintro e q1 ⟨he, hb⟩
  rw [HR.out] at he
  subst he
  have HB := Lib.hid (HB.out.on hb)
  clear hb
  have HM1 := Lib.hid (alloc_here (w := q1) (n := q1.heap.size) (.cells #[.int .i64 f1, .int .i64 w1, .int .i64 l1, .int .i64 x1] 23) rfl)
  have HB := Lib.hid (HB.out.alloc (.cells #[.int .i64 f1, .int .i64 w1, .int .i64 l1, .int .i64 x1] 23))
  obtain ⟨a10, a11, a12, a13⟩ := cells4 HB.out.a
  go_wp2_with fail
  refine Calls.mono (HL2.out _) ?_
  rintro e q2 ⟨he, hb⟩
  rw [HR.out] at he
  subst he
  have HB := Lib.hid (HB.out.on hb)
  have HM1 := Lib.hid (box_on HM1.out hb)
  clear hb
  have HM2 := Lib.hid (alloc_here (w := q2) (n := q2.heap.size) (.cells #[.int .i64 f2, .int .i64 w2, .int .i64 l2, .int .i64 x2] 23) rfl)
  have HB := Lib.hid (HB.out.alloc (.cells #[.int .i64 f2, .int .i64 w2, .int .i64 l2, .int .i64 x2] 23))
  have HM1 := Lib.hid (alloc_old (.cells #[.int .i64 f2, .int .i64 w2, .int .i64 l2, .int .i64 x2] 23) HM1.out)
  obtain ⟨a20, a21, a22, a23⟩ := cells4 HB.out.a
  go_wp2_with fail
  refine Calls.mono (HL3.out _) ?_
  rintro e q3 ⟨he, hb⟩
  rw [HR.out] at he
  subst he
  have HB := Lib.hid (HB.out.on hb)
  have HM1 := Lib.hid (box_on HM1.out hb)
  have HM2 := Lib.hid (box_on HM2.out hb)
  clear hb
  have HM3 := Lib.hid (alloc_here (w := q3) (n := q3.heap.size) (.cells #[.int .i64 f3, .int .i64 w3, .int .i64 l3, .int .i64 x3] 23) rfl)
  have HB := Lib.hid (HB.out.alloc (.cells #[.int .i64 f3, .int .i64 w3, .int .i64 l3, .int .i64 x3] 23))
  have HM1 := Lib.hid (alloc_old (.cells #[.int .i64 f3, .int .i64 w3, .int .i64 l3, .int .i64 x3] 23) HM1.out)
  have HM2 := Lib.hid (alloc_old (.cells #[.int .i64 f3, .int .i64 w3, .int .i64 l3, .int .i64 x3] 23) HM2.out)
  obtain ⟨a30, a31, a32, a33⟩ := cells4 HB.out.a
  go_wp2_with fail
  refine Calls.mono (HL4.out _) ?_
  rintro e q4 ⟨he, hb⟩
  rw [HR.out] at he
  subst he
  have HB := Lib.hid (HB.out.on hb)
  have HM1 := Lib.hid (box_on HM1.out hb)
  have HM2 := Lib.hid (box_on HM2.out hb)
  have HM3 := Lib.hid (box_on HM3.out hb)
  clear hb
  have HM4 := Lib.hid (alloc_here (w := q4) (n := q4.heap.size) (.cells #[.int .i64 f4, .int .i64 w4, .int .i64 l4, .int .i64 x4] 23) rfl)
  have HB := Lib.hid (HB.out.alloc (.cells #[.int .i64 f4, .int .i64 w4, .int .i64 l4, .int .i64 x4] 23))
  have HM1 := Lib.hid (alloc_old (.cells #[.int .i64 f4, .int .i64 w4, .int .i64 l4, .int .i64 x4] 23) HM1.out)
  have HM2 := Lib.hid (alloc_old (.cells #[.int .i64 f4, .int .i64 w4, .int .i64 l4, .int .i64 x4] 23) HM2.out)
  have HM3 := Lib.hid (alloc_old (.cells #[.int .i64 f4, .int .i64 w4, .int .i64 l4, .int .i64 x4] 23) HM3.out)
  obtain ⟨a40, a41, a42, a43⟩ := cells4 HB.out.a
  obtain ⟨n0, n1, n2, n3⟩ := cells4 HB.out.b
  obtain ⟨m10, m11, m12, m13⟩ := cells4 HM1.out
  obtain ⟨m20, m21, m22, m23⟩ := cells4 HM2.out
  obtain ⟨m30, m31, m32, m33⟩ := cells4 HM3.out
  obtain ⟨m40, m41, m42, m43⟩ := cells4 HM4.out
  clear HL1 HL2 HL3 HL4 HR
  have E1 := conf_eq f' wt' l' x' f1 w1 l1 x1
  have E2 := conf_eq f' wt' l' x' f2 w2 l2 x2
  have E3 := conf_eq f' wt' l' x' f3 w3 l3 x3
  have E4 := conf_eq f' wt' l' x' f4 w4 l4 x4
  generalize decide (C.mk f' wt' l' x' = C.mk f1 w1 l1 x1) = b1 at *
  generalize decide (C.mk f' wt' l' x' = C.mk f2 w2 l2 x2) = b2 at *
  generalize decide (C.mk f' wt' l' x' = C.mk f3 w3 l3 x3) = b3 at *
  generalize decide (C.mk f' wt' l' x' = C.mk f4 w4 l4 x4) = b4 at *
  cases b1 <;> cases b2 <;> cases b3
  all_goals
    go_wp2_with fail
    go_ret
    exact ⟨ret_bool (by rw [HLM.out]; simp), HB.out.beh⟩
end Go.Proofs.Ytakaflbfhpalhaa.Cn
