/- The law ConfSteps, walked. -/
import Derived.Test.YtakaflbfhpalhaaConfN
import Derived.Test.YtakaflbfhpalhaaConfIn
namespace Go.Proofs.Ytakaflbfhpalhaa.Cn
open Go Go.RowKit Bh
attribute [local irreducible] wpQuiet
/-- the boxes of what came in, and two more blocks of the call's own -/
structure Fr4 (w : World) (p q : Obj) (n1 : Nat) (o1 : Obj) (n2 : Nat) (o2 : Obj) (w' : World) : Prop where
  t : Two w p q w'
  x : w'.heap[n1]? = some o1
  y : w'.heap[n2]? = some o2
  l1 : w.heap.size + 1 < n1
  l2 : n1 < n2
theorem Fr4.on {w w' w'' : World} {p q o1 o2 : Obj} {n1 n2 : Nat} (h : Fr4 w p q n1 o1 n2 o2 w') (hb : Below w'.heap.size w' w'') : Fr4 w p q n1 o1 n2 o2 w'' := ⟨h.t.on hb, box_on h.x hb, box_on h.y hb, h.l1, h.l2⟩
theorem Fr4.drewN {w w' : World} {p q o1 o2 : Obj} {n1 n2 : Nat} (h : Fr4 w p q n1 o1 n2 o2 w') (n : Nat) : Fr4 w p q n1 o1 n2 o2 (w'.drewN n) := ⟨h.t.drewN n, h.x, h.y, h.l1, h.l2⟩
theorem two_far {w w' : World} {p q : Obj} {n : Nat} (h : Two w p q w') (hn : w.heap.size + 1 < n) (x0 x1 x2 x3 : Value) : Two w p q (set4 w' n x0 x1 x2 x3) :=
  ⟨h.beh.set4 (by omega) _ _ _ _, (set4_other (by omega)).trans h.a, (set4_other (by omega)).trans h.b⟩
theorem Fr4.setX {w w' : World} {p q o2 : Obj} {n1 n2 : Nat} {a0 a1 a2 a3 : Value} {ty : TypeId} (h : Fr4 w p q n1 (.cells #[a0, a1, a2, a3] ty) n2 o2 w') (x0 x1 x2 x3 : Value) : Fr4 w p q n1 (.cells #[x0, x1, x2, x3] ty) n2 o2 (set4 w' n1 x0 x1 x2 x3) :=
  ⟨two_far h.t h.l1 _ _ _ _, set4_heap h.x, (set4_other (by have := h.l2; omega)).trans h.y, h.l1, h.l2⟩
theorem Fr4.setY {w w' : World} {p q o1 : Obj} {n1 n2 : Nat} {a0 a1 a2 a3 : Value} {ty : TypeId} (h : Fr4 w p q n1 o1 n2 (.cells #[a0, a1, a2, a3] ty) w') (x0 x1 x2 x3 : Value) : Fr4 w p q n1 o1 n2 (.cells #[x0, x1, x2, x3] ty) (set4 w' n2 x0 x1 x2 x3) :=
  ⟨two_far h.t (by have := h.l1; have := h.l2; omega) _ _ _ _, (set4_other (by have := h.l2; omega)).trans h.x, set4_heap h.y, h.l1, h.l2⟩
set_option maxRecDepth 20000 in
set_option maxHeartbeats 6400000 in
theorem ConfSteps_law (a b : C) (i : Int) (wit : Bool) (w : World) :
    Calls Try.prog 3 #[a.val, b.val, .int .i64 i, .bool wit] w fun e w' => e = .returned (.bool true) ∧ Below w.heap.size w w' := by
  have HT1 := Lib.hid (fun W => Learn_any a i wit W)
  have HU1 := Lib.hid (fun W => rLearn_any a i wit W)
  have HT2 := Lib.hid (fun W => Promote_any a i W)
  have HU2 := Lib.hid (fun W => rPromote_any a i W)
  have HT3 := Lib.hid (fun W => Remove_any a i W)
  have HU3 := Lib.hid (fun W => rRemove_any a i W)
  generalize stepM a i (lrnN wit) = R1 at *
  generalize stepM a i promN = R2 at *
  generalize stepM a i remN = R3 at *
  obtain ⟨⟨f1, w1, l1, x1⟩, e1⟩ := R1
  obtain ⟨⟨f2, w2, l2, x2⟩, e2⟩ := R2
  obtain ⟨⟨f3, w3, l3, x3⟩, e3⟩ := R3
  have HR : Hid (∀ (p : C) (e : Int), pairV (p, e) = .tuple #[.agg #[.int .i64 p.f, .int .i64 p.w, .int .i64 p.l, .int .i64 p.x], .int .i64 e]) := fun _ _ => rfl
  obtain ⟨f, wt, l, x⟩ := a
  obtain ⟨f', wt', l', x'⟩ := b
  have n1 : (e1 != e1) = false := by simp
  have n2 : (e2 != e2) = false := by simp
  have n3 : (e3 == e3) = true := by simp
  have N1 : (nearM ⟨f, wt, l, x⟩ ⟨f', wt', l', x'⟩ == nearM ⟨f, wt, l, x⟩ ⟨f', wt', l', x'⟩) = true := by simp
  have N2 : (nearM ⟨f, wt, l, x⟩ ⟨f3, w3, l3, x3⟩ == nearM ⟨f, wt, l, x⟩ ⟨f3, w3, l3, x3⟩) = true := by simp
  have self : decide (C.mk f3 w3 l3 x3 = C.mk f3 w3 l3 x3) = true := decide_eq_true rfl
  have HB := Lib.hid (Two.start w (.cells #[.int .i64 f, .int .i64 wt, .int .i64 l, .int .i64 x] 23) (.cells #[.int .i64 f', .int .i64 wt', .int .i64 l', .int .i64 x'] 23))
  go_enter Try.func3, Try.ntmps3
  go_wp2_with fail
  refine Calls.mono (HT1.out _) ?_
  rintro e q1 ⟨he, hb⟩
  rw [HR.out] at he
  subst he
  have HB := Lib.hid (HB.out.on hb)
  clear hb
  have HX := Lib.hid (alloc_here (w := q1) (n := q1.heap.size) (.cells #[.int .i64 f1, .int .i64 w1, .int .i64 l1, .int .i64 x1] 23) rfl)
  have HLo : Hid (w.heap.size + 1 < q1.heap.size) := heap_lt HB.out.b
  have HB := Lib.hid (HB.out.alloc (.cells #[.int .i64 f1, .int .i64 w1, .int .i64 l1, .int .i64 x1] 23))
  obtain ⟨a0, a1, a2, a3⟩ := cells4 HB.out.a
  go_wp2_with fail
  refine Calls.mono (HU1.out _) ?_
  rintro e q2 ⟨he, hb⟩
  rw [HR.out] at he
  subst he
  have HF : Hid (Fr4 w (.cells #[.int .i64 f, .int .i64 wt, .int .i64 l, .int .i64 x] 23) (.cells #[.int .i64 f', .int .i64 wt', .int .i64 l', .int .i64 x'] 23) q1.heap.size (.cells #[.int .i64 f1, .int .i64 w1, .int .i64 l1, .int .i64 x1] 23) q2.heap.size (.cells #[.int .i64 f1, .int .i64 w1, .int .i64 l1, .int .i64 x1] 23) (q2.alloc (.cells #[.int .i64 f1, .int .i64 w1, .int .i64 l1, .int .i64 x1] 23))) :=
    ⟨(HB.out.on hb).alloc _, alloc_old _ (box_on HX.out hb), alloc_here _ rfl, HLo.out, heap_lt (box_on HX.out hb)⟩
  clear hb HB HX
  obtain ⟨c0, c1, c2, c3⟩ := cells4 HF.out.x
  obtain ⟨d0, d1, d2, d3⟩ := cells4 HF.out.y
  go_wp2_with (first | (go_at_call 10; refine (keepConf_any ⟨_, _, _, _⟩ ⟨_, _, _, _⟩ _).mono ?_; rintro e wk2 ⟨rfl, hb⟩; rw [decide_eq_true rfl]; have HF := Lib.hid (HF.out.on hb); clear hb; obtain ⟨a20, a21, a22, a23⟩ := cells4 HF.out.t.a))
  refine Calls.mono (HT2.out _) ?_
  rintro e r2 ⟨he, hb⟩
  rw [HR.out] at he
  subst he
  have HF := Lib.hid (HF.out.on hb)
  clear hb
  have g20 := frozen_of HF.out.x 0
  have g21 := frozen_of HF.out.x 1
  have g22 := frozen_of HF.out.x 2
  have g23 := frozen_of HF.out.x 3
  obtain ⟨x20, x21, x22, x23⟩ := cells4 HF.out.x
  obtain ⟨b20, b21, b22, b23⟩ := cells4 (HF.out.setX (.int .i64 f2) (.int .i64 w2) (.int .i64 l2) (.int .i64 x2)).t.a
  unfold set4 at b20 b21 b22 b23
  go_wp2_with fail
  refine Calls.mono (HU2.out _) ?_
  rintro e s2 ⟨he, hb⟩
  rw [HR.out] at he
  subst he
  have HF := Lib.hid ((HF.out.setX (.int .i64 f2) (.int .i64 w2) (.int .i64 l2) (.int .i64 x2)).on hb)
  clear hb
  have h20 := frozen_of HF.out.y 0
  have h21 := frozen_of HF.out.y 1
  have h22 := frozen_of HF.out.y 2
  have h23 := frozen_of HF.out.y 3
  obtain ⟨y20, y21, y22, y23⟩ := cells4 HF.out.y
  have HF := Lib.hid (HF.out.setY (.int .i64 f2) (.int .i64 w2) (.int .i64 l2) (.int .i64 x2))
  obtain ⟨u20, u21, u22, u23⟩ := cells4 HF.out.x
  obtain ⟨v20, v21, v22, v23⟩ := cells4 HF.out.y
  obtain ⟨z20, z21, z22, z23⟩ := cells4 HF.out.t.a
  unfold set4 at u20 u21 u22 u23 v20 v21 v22 v23 z20 z21 z22 z23
  go_wp2_with (first | (go_at_call 10; refine (keepConf_any ⟨_, _, _, _⟩ ⟨_, _, _, _⟩ _).mono ?_; rintro e wk3 ⟨rfl, hb⟩; rw [decide_eq_true rfl]; have HF := Lib.hid (HF.out.on hb); clear hb; obtain ⟨a30, a31, a32, a33⟩ := cells4 HF.out.t.a))
  refine Calls.mono (HT3.out _) ?_
  rintro e r3 ⟨he, hb⟩
  rw [HR.out] at he
  subst he
  have HF := Lib.hid (HF.out.on hb)
  clear hb
  have g30 := frozen_of HF.out.x 0
  have g31 := frozen_of HF.out.x 1
  have g32 := frozen_of HF.out.x 2
  have g33 := frozen_of HF.out.x 3
  obtain ⟨x30, x31, x32, x33⟩ := cells4 HF.out.x
  obtain ⟨b30, b31, b32, b33⟩ := cells4 (HF.out.setX (.int .i64 f3) (.int .i64 w3) (.int .i64 l3) (.int .i64 x3)).t.a
  unfold set4 at b30 b31 b32 b33
  go_wp2_with fail
  refine Calls.mono (HU3.out _) ?_
  rintro e s3 ⟨he, hb⟩
  rw [HR.out] at he
  subst he
  have HF := Lib.hid ((HF.out.setX (.int .i64 f3) (.int .i64 w3) (.int .i64 l3) (.int .i64 x3)).on hb)
  clear hb
  have h30 := frozen_of HF.out.y 0
  have h31 := frozen_of HF.out.y 1
  have h32 := frozen_of HF.out.y 2
  have h33 := frozen_of HF.out.y 3
  obtain ⟨y30, y31, y32, y33⟩ := cells4 HF.out.y
  have HF := Lib.hid (HF.out.setY (.int .i64 f3) (.int .i64 w3) (.int .i64 l3) (.int .i64 x3))
  obtain ⟨u30, u31, u32, u33⟩ := cells4 HF.out.x
  obtain ⟨v30, v31, v32, v33⟩ := cells4 HF.out.y
  obtain ⟨z30, z31, z32, z33⟩ := cells4 HF.out.t.a
  unfold set4 at u30 u31 u32 u33 v30 v31 v32 v33 z30 z31 z32 z33
  go_wp2_with fail
  refine wp_region_quiet (C := Fr4 w (.cells #[.int .i64 f, .int .i64 wt, .int .i64 l, .int .i64 x] 23) (.cells #[.int .i64 f', .int .i64 wt', .int .i64 l', .int .i64 x'] 23) q1.heap.size (.cells #[.int .i64 f3, .int .i64 w3, .int .i64 l3, .int .i64 x3] 23) q2.heap.size (.cells #[.int .i64 f3, .int .i64 w3, .int .i64 l3, .int .i64 x3] 23)) (by kernel_rfl) (by kernel_rfl) (HF.out.drewN 1) ?_
  repeat (first
    | (refine BigFrame.wpQuiet_skip (by exact Eq.refl false) ?_
       ((try simp only [Act.put]); (try simp only [List.setIfInBounds_toArray]); (try simp only [List.set_cons_zero, List.set_cons_succ])))
    | (refine BigFrame.wpQuiet_want (by exact Eq.refl true) (fun K hK => ?_)
       first
       | (refine quiet_move2 _ rfl (by go_simp; rfl) ?_; refine hK _ ?_)
       | (apply Exists.intro
          refine ⟨fun wq hq => ?_, hK _ ?_⟩
          · ((obtain ⟨ca0, ca1, ca2, ca3⟩ := cells4 hq.t.a); (obtain ⟨cb0, cb1, cb2, cb3⟩ := cells4 hq.t.b); (obtain ⟨cx0, cx1, cx2, cx3⟩ := cells4 hq.x); (obtain ⟨cy0, cy1, cy2, cy3⟩ := cells4 hq.y)
             have HQ := Lib.hid hq
             clear hq
             unfold Oper.quietAt
             go_simp
             first
             | rfl
             | (go_at_call 10; exact (keepConf_any ⟨_, _, _, _⟩ ⟨_, _, _, _⟩ _).mono (fun e w' ⟨he, hb⟩ => ⟨he, HQ.out.on hb⟩)) | (go_at_call 15; exact (Near_any ⟨_, _, _, _⟩ ⟨_, _, _, _⟩ _).mono (fun e w' ⟨he, hb⟩ => ⟨he, HQ.out.on hb⟩)) | (go_at_call 16; exact (rNear_any ⟨_, _, _, _⟩ ⟨_, _, _, _⟩ _).mono (fun e w' ⟨he, hb⟩ => ⟨he, HQ.out.on hb⟩)) | (go_at_call 17; exact (wakes_any _).mono (fun e w' ⟨he, hb⟩ => ⟨he, HQ.out.on hb⟩))))
       clear hK K
       ((try simp only [Act.put]); (try simp only [List.setIfInBounds_toArray]); (try simp only [List.set_cons_zero, List.set_cons_succ]); (try simp only [self]); (try simp only [n3]); (try simp only [N1]); (try simp only [N2]))))
  refine wpQuiet_nil ?_
  intro wq hq
  have HB := Lib.hid hq.t.beh
  clear hq
  go_wp2_with fail
  go_ret
  exact ⟨rfl, HB.out⟩
theorem ConfSteps_told (a b : C) (i : Int) (wit : Bool) (w : World) (_ : a.Came) (_ : b.Came) (_ : (Lit.int .i64 i).wf = true) :
    Calls Try.prog 3 #[a.val, b.val, .int .i64 i, .bool wit] w fun e w' => e = .returned (.bool true) ∧ Below w.heap.size w w' := ConfSteps_law a b i wit w
end Go.Proofs.Ytakaflbfhpalhaa.Cn
