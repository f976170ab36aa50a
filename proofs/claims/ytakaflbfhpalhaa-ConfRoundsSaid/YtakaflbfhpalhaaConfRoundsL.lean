/- The law ConfRounds, walked. -/
import Derived.Test.YtakaflbfhpalhaaConfAllL
namespace Go.Proofs.Ytakaflbfhpalhaa.Cn
open Go Go.RowKit Bh
attribute [local irreducible] wpQuiet
set_option maxHeartbeats 1600000 in
theorem rounds_not (c : C) (i : Int) (wit : Bool) (w : World) (he : (stepM c i (lrnN wit)).2 ≠ 0) (hz : (stepM c i (lrnN wit)).1 = C.zero) :
    Calls Try.prog 7 #[c.val, .int .i64 i, .bool wit] w fun e w' => e = .returned (.bool true) ∧ Below w.heap.size w w' := by
  have HT := Lib.hid (fun W => Learn_any c i wit W)
  generalize stepM c i (lrnN wit) = R at *
  obtain ⟨⟨mf, mw, ml, mx⟩, er⟩ := R
  have HP : Hid (pairV (C.mk mf mw ml mx, er) = .tuple #[.agg #[.int .i64 mf, .int .i64 mw, .int .i64 ml, .int .i64 mx], .int .i64 er]) := rfl
  obtain ⟨rfl, rfl, rfl, rfl⟩ := (C.eq_iff _ _).1 hz
  have e1 : (er != 0) = true := by simpa using he
  clear he hz
  obtain ⟨f, wt, l, xx⟩ := c
  go_enter Try.func7, Try.ntmps7
  go_wp2_with fail
  refine Calls.mono (HT.out _) ?_
  rintro e q ⟨he, hb⟩
  rw [HP.out] at he
  subst he
  have HB := Lib.hid ((One.start w (.cells #[.int .i64 f, .int .i64 wt, .int .i64 l, .int .i64 xx] 23)).on hb)
  clear hb
  have HB := Lib.hid (HB.out.beh.alloc (.cells #[.int .i64 C.zero.f, .int .i64 C.zero.w, .int .i64 C.zero.l, .int .i64 C.zero.x] 23))
  go_wp2_with (first | (go_at_call 10; refine (keepConf_any ⟨_, _, _, _⟩ ⟨_, _, _, _⟩ _).mono ?_; rintro e wq ⟨rfl, hb⟩; rw [decide_eq_true rfl]; have HB := Lib.hid (blw HB.out hb); clear hb) | (go_at_call 17; refine (wakes_any _).mono ?_; rintro e wz ⟨rfl, hb⟩; have HB := Lib.hid (blw HB.out hb); clear hb))
  go_ret
  exact ⟨rfl, HB.out⟩
/-- a block, and four more, of a call's own -/
structure Five (w : World) (p : Obj) (n1 n2 n3 n4 : Nat) (o1 o2 o3 o4 : Obj) (w' : World) : Prop where
  beh : Beh w w'
  a : w'.heap[w.heap.size]? = some p
  b1 : w'.heap[n1]? = some o1
  b2 : w'.heap[n2]? = some o2
  b3 : w'.heap[n3]? = some o3
  b4 : w'.heap[n4]? = some o4
theorem Five.on {w w' w'' : World} {p : Obj} {n1 n2 n3 n4 : Nat} {o1 o2 o3 o4 : Obj} (h : Five w p n1 n2 n3 n4 o1 o2 o3 o4 w') (hb : Below w'.heap.size w' w'') : Five w p n1 n2 n3 n4 o1 o2 o3 o4 w'' :=
  ⟨h.beh.on hb, box_on h.a hb, box_on h.b1 hb, box_on h.b2 hb, box_on h.b3 hb, box_on h.b4 hb⟩
theorem Five.drewN {w w' : World} {p : Obj} {n1 n2 n3 n4 : Nat} {o1 o2 o3 o4 : Obj} (h : Five w p n1 n2 n3 n4 o1 o2 o3 o4 w') (n : Nat) : Five w p n1 n2 n3 n4 o1 o2 o3 o4 (w'.drewN n) := ⟨h.beh.drewN n, h.a, h.b1, h.b2, h.b3, h.b4⟩

set_option maxHeartbeats 6400000 in
theorem rounds_false (c a d : C) (i : Int) (w : World) (hL : stepM c i (lrnN false) = (a, 0)) (h : Rounds c a i false d) :
    Calls Try.prog 7 #[c.val, .int .i64 i, .bool false] w fun e w' => e = .returned (.bool true) ∧ Below w.heap.size w w' := by
  obtain ⟨hg, hp, hg2, hka, hkd, hv⟩ := h
  have HT1 := Lib.hid (fun W => Learn_any c i false W)
  have HT2 := Lib.hid (fun W => Remove_any a i W)
  have HT3 := Lib.hid (fun W => Promote_any a i W)
  have HT4 := Lib.hid (fun W => Remove_any d i W)
  rw [hL] at HT1
  rw [hg] at HT2
  rw [hp] at HT3
  rw [hg2] at HT4
  have ka : kname (a.kind i) = ⟨#[108, 101, 97, 114, 110]⟩ := by rw [hka]; rfl
  have kd : kname (d.kind i) = ⟨#[102, 117, 108, 108]⟩ := by rw [hkd]; rfl
  clear hL hg hp hg2 hka hkd
  obtain ⟨f, wt, l, xx⟩ := c
  obtain ⟨af, aw, al, ax⟩ := a
  obtain ⟨df, dw, dl, dx⟩ := d
  have HP1 : Hid (pairV (C.mk af aw al ax, 0) = .tuple #[.agg #[.int .i64 af, .int .i64 aw, .int .i64 al, .int .i64 ax], .int .i64 0]) := rfl
  have HP2 : Hid (pairV (C.mk f wt l xx, 0) = .tuple #[.agg #[.int .i64 f, .int .i64 wt, .int .i64 l, .int .i64 xx], .int .i64 0]) := rfl
  have HP3 : Hid (pairV (C.mk df dw dl dx, 0) = .tuple #[.agg #[.int .i64 df, .int .i64 dw, .int .i64 dl, .int .i64 dx], .int .i64 0]) := rfl
  have HP4 := HP2
  have self : decide (C.mk f wt l xx = C.mk f wt l xx) = true := decide_eq_true rfl
  have HA := Lib.hid (alloc_here (w := w) (n := w.heap.size) (.cells #[.int .i64 f, .int .i64 wt, .int .i64 l, .int .i64 xx] 23) rfl)
  have HB := Lib.hid (below_alloc w (.cells #[.int .i64 f, .int .i64 wt, .int .i64 l, .int .i64 xx] 23))
  go_enter Try.func7, Try.ntmps7
  go_wp2_with fail
  refine Calls.mono (HT1.out _) ?_
  rintro e q1 ⟨he, hb⟩
  rw [HP1.out] at he
  subst he
  have HA := Lib.hid (alloc_old (.cells #[.int .i64 af, .int .i64 aw, .int .i64 al, .int .i64 ax] 23) (box_on HA.out hb))
  have HB := Lib.hid (blw (blw HB.out hb) (below_alloc q1 (.cells #[.int .i64 af, .int .i64 aw, .int .i64 al, .int .i64 ax] 23)))
  clear hb
  have HM1 := Lib.hid (alloc_here (w := q1) (n := q1.heap.size) (.cells #[.int .i64 af, .int .i64 aw, .int .i64 al, .int .i64 ax] 23) rfl)
  obtain ⟨a10, a11, a12, a13⟩ := cells4 HA.out
  obtain ⟨m110, m111, m112, m113⟩ := cells4 HM1.out
  go_wp2_with fail
  refine Calls.mono (HT2.out _) ?_
  rintro e q2 ⟨he, hb⟩
  rw [HP2.out] at he
  subst he
  have HA := Lib.hid (alloc_old (.cells #[.int .i64 f, .int .i64 wt, .int .i64 l, .int .i64 xx] 23) (box_on HA.out hb))
  have HB := Lib.hid (blw (blw HB.out hb) (below_alloc q2 (.cells #[.int .i64 f, .int .i64 wt, .int .i64 l, .int .i64 xx] 23)))
  have HM1 := Lib.hid (alloc_old (.cells #[.int .i64 f, .int .i64 wt, .int .i64 l, .int .i64 xx] 23) (box_on HM1.out hb))
  clear hb
  have HM2 := Lib.hid (alloc_here (w := q2) (n := q2.heap.size) (.cells #[.int .i64 f, .int .i64 wt, .int .i64 l, .int .i64 xx] 23) rfl)
  obtain ⟨a20, a21, a22, a23⟩ := cells4 HA.out
  obtain ⟨m210, m211, m212, m213⟩ := cells4 HM1.out
  obtain ⟨m220, m221, m222, m223⟩ := cells4 HM2.out
  go_wp2_with fail
  refine Calls.mono (HT3.out _) ?_
  rintro e q3 ⟨he, hb⟩
  rw [HP3.out] at he
  subst he
  have HA := Lib.hid (alloc_old (.cells #[.int .i64 df, .int .i64 dw, .int .i64 dl, .int .i64 dx] 23) (box_on HA.out hb))
  have HB := Lib.hid (blw (blw HB.out hb) (below_alloc q3 (.cells #[.int .i64 df, .int .i64 dw, .int .i64 dl, .int .i64 dx] 23)))
  have HM1 := Lib.hid (alloc_old (.cells #[.int .i64 df, .int .i64 dw, .int .i64 dl, .int .i64 dx] 23) (box_on HM1.out hb))
  have HM2 := Lib.hid (alloc_old (.cells #[.int .i64 df, .int .i64 dw, .int .i64 dl, .int .i64 dx] 23) (box_on HM2.out hb))
  clear hb
  have HM3 := Lib.hid (alloc_here (w := q3) (n := q3.heap.size) (.cells #[.int .i64 df, .int .i64 dw, .int .i64 dl, .int .i64 dx] 23) rfl)
  obtain ⟨a30, a31, a32, a33⟩ := cells4 HA.out
  obtain ⟨m310, m311, m312, m313⟩ := cells4 HM1.out
  obtain ⟨m320, m321, m322, m323⟩ := cells4 HM2.out
  obtain ⟨m330, m331, m332, m333⟩ := cells4 HM3.out
  go_wp2_with fail
  refine Calls.mono (HT4.out _) ?_
  rintro e q4 ⟨he, hb⟩
  rw [HP4.out] at he
  subst he
  have HA := Lib.hid (alloc_old (.cells #[.int .i64 f, .int .i64 wt, .int .i64 l, .int .i64 xx] 23) (box_on HA.out hb))
  have HB := Lib.hid (blw (blw HB.out hb) (below_alloc q4 (.cells #[.int .i64 f, .int .i64 wt, .int .i64 l, .int .i64 xx] 23)))
  have HM1 := Lib.hid (alloc_old (.cells #[.int .i64 f, .int .i64 wt, .int .i64 l, .int .i64 xx] 23) (box_on HM1.out hb))
  have HM2 := Lib.hid (alloc_old (.cells #[.int .i64 f, .int .i64 wt, .int .i64 l, .int .i64 xx] 23) (box_on HM2.out hb))
  have HM3 := Lib.hid (alloc_old (.cells #[.int .i64 f, .int .i64 wt, .int .i64 l, .int .i64 xx] 23) (box_on HM3.out hb))
  clear hb
  have HM4 := Lib.hid (alloc_here (w := q4) (n := q4.heap.size) (.cells #[.int .i64 f, .int .i64 wt, .int .i64 l, .int .i64 xx] 23) rfl)
  obtain ⟨a40, a41, a42, a43⟩ := cells4 HA.out
  obtain ⟨m410, m411, m412, m413⟩ := cells4 HM1.out
  obtain ⟨m420, m421, m422, m423⟩ := cells4 HM2.out
  obtain ⟨m430, m431, m432, m433⟩ := cells4 HM3.out
  obtain ⟨m440, m441, m442, m443⟩ := cells4 HM4.out
  go_wp2_with fail
  refine wp_region_quiet (C := Five w (.cells #[.int .i64 f, .int .i64 wt, .int .i64 l, .int .i64 xx] 23) q1.heap.size q2.heap.size q3.heap.size q4.heap.size (.cells #[.int .i64 af, .int .i64 aw, .int .i64 al, .int .i64 ax] 23) (.cells #[.int .i64 f, .int .i64 wt, .int .i64 l, .int .i64 xx] 23) (.cells #[.int .i64 df, .int .i64 dw, .int .i64 dl, .int .i64 dx] 23) (.cells #[.int .i64 f, .int .i64 wt, .int .i64 l, .int .i64 xx] 23)) (by kernel_rfl) (by kernel_rfl) (Five.drewN ⟨HB.out, HA.out, HM1.out, HM2.out, HM3.out, HM4.out⟩ 1) ?_
  repeat (first
    | (refine BigFrame.wpQuiet_skip (by exact Eq.refl false) ?_
       ((try simp only [Act.put]); (try simp only [List.setIfInBounds_toArray]); (try simp only [List.set_cons_zero, List.set_cons_succ])))
    | (refine BigFrame.wpQuiet_want (by exact Eq.refl true) (fun K hK => ?_)
       first
       | (refine quiet_move2 _ rfl (by go_simp; rfl) ?_; refine hK _ ?_)
       | (apply Exists.intro
          refine ⟨fun wq hq => ?_, hK _ ?_⟩
          · ((obtain ⟨c0, c1, c2, c3⟩ := cells4 hq.a); (obtain ⟨p0, p1, p2, p3⟩ := cells4 hq.b1); (obtain ⟨r0, r1, r2, r3⟩ := cells4 hq.b2); (obtain ⟨s0, s1, s2, s3⟩ := cells4 hq.b3); (obtain ⟨t0, t1, t2, t3⟩ := cells4 hq.b4)
             have HQ := Lib.hid hq
             clear hq
             unfold Oper.quietAt
             go_simp
             first
             | rfl
             | (go_at_call 10; exact (keepConf_any ⟨_, _, _, _⟩ ⟨_, _, _, _⟩ _).mono (fun e w' ⟨he, hb⟩ => ⟨he, HQ.out.on hb⟩)) | (go_at_call 22; exact (Kind_any ⟨_, _, _, _⟩ _ _).mono (fun e w' ⟨he, hb⟩ => ⟨he, HQ.out.on hb⟩)) | (go_at_call 19; exact (Voters_any ⟨_, _, _, _⟩ _).mono (fun e w' ⟨he, hb⟩ => ⟨he, HQ.out.on hb⟩)) | (go_at_call 17; exact (wakes_any _).mono (fun e w' ⟨he, hb⟩ => ⟨he, HQ.out.on hb⟩))))
       clear hK K
       ((try simp only [Act.put]); (try simp only [List.setIfInBounds_toArray]); (try simp only [List.set_cons_zero, List.set_cons_succ]); (try simp only [self]); (try simp only [ka]); (try simp only [kd]); (try simp only [hv]))))
  refine wpQuiet_nil ?_
  intro wq hq
  have HB := Lib.hid hq.beh
  clear hq
  go_wp2_with fail
  go_ret
  exact ⟨rfl, HB.out⟩

set_option maxHeartbeats 6400000 in
theorem rounds_true (c a d : C) (i : Int) (w : World) (hL : stepM c i (lrnN true) = (a, 0)) (h : Rounds c a i true d) :
    Calls Try.prog 7 #[c.val, .int .i64 i, .bool true] w fun e w' => e = .returned (.bool true) ∧ Below w.heap.size w w' := by
  obtain ⟨hg, hp, hg2, hka, hkd, hv⟩ := h
  have HT1 := Lib.hid (fun W => Learn_any c i true W)
  have HT2 := Lib.hid (fun W => Remove_any a i W)
  have HT3 := Lib.hid (fun W => Promote_any a i W)
  have HT4 := Lib.hid (fun W => Remove_any d i W)
  rw [hL] at HT1
  rw [hg] at HT2
  rw [hp] at HT3
  rw [hg2] at HT4
  have ka : kname (a.kind i) = ⟨#[108, 101, 97, 114, 110, 119, 105, 116]⟩ := by rw [hka]; rfl
  have kd : kname (d.kind i) = ⟨#[119, 105, 116]⟩ := by rw [hkd]; rfl
  clear hL hg hp hg2 hka hkd
  obtain ⟨f, wt, l, xx⟩ := c
  obtain ⟨af, aw, al, ax⟩ := a
  obtain ⟨df, dw, dl, dx⟩ := d
  have HP1 : Hid (pairV (C.mk af aw al ax, 0) = .tuple #[.agg #[.int .i64 af, .int .i64 aw, .int .i64 al, .int .i64 ax], .int .i64 0]) := rfl
  have HP2 : Hid (pairV (C.mk f wt l xx, 0) = .tuple #[.agg #[.int .i64 f, .int .i64 wt, .int .i64 l, .int .i64 xx], .int .i64 0]) := rfl
  have HP3 : Hid (pairV (C.mk df dw dl dx, 0) = .tuple #[.agg #[.int .i64 df, .int .i64 dw, .int .i64 dl, .int .i64 dx], .int .i64 0]) := rfl
  have HP4 := HP2
  have self : decide (C.mk f wt l xx = C.mk f wt l xx) = true := decide_eq_true rfl
  have HA := Lib.hid (alloc_here (w := w) (n := w.heap.size) (.cells #[.int .i64 f, .int .i64 wt, .int .i64 l, .int .i64 xx] 23) rfl)
  have HB := Lib.hid (below_alloc w (.cells #[.int .i64 f, .int .i64 wt, .int .i64 l, .int .i64 xx] 23))
  go_enter Try.func7, Try.ntmps7
  go_wp2_with fail
  refine Calls.mono (HT1.out _) ?_
  rintro e q1 ⟨he, hb⟩
  rw [HP1.out] at he
  subst he
  have HA := Lib.hid (alloc_old (.cells #[.int .i64 af, .int .i64 aw, .int .i64 al, .int .i64 ax] 23) (box_on HA.out hb))
  have HB := Lib.hid (blw (blw HB.out hb) (below_alloc q1 (.cells #[.int .i64 af, .int .i64 aw, .int .i64 al, .int .i64 ax] 23)))
  clear hb
  have HM1 := Lib.hid (alloc_here (w := q1) (n := q1.heap.size) (.cells #[.int .i64 af, .int .i64 aw, .int .i64 al, .int .i64 ax] 23) rfl)
  obtain ⟨a10, a11, a12, a13⟩ := cells4 HA.out
  obtain ⟨m110, m111, m112, m113⟩ := cells4 HM1.out
  go_wp2_with fail
  refine Calls.mono (HT2.out _) ?_
  rintro e q2 ⟨he, hb⟩
  rw [HP2.out] at he
  subst he
  have HA := Lib.hid (alloc_old (.cells #[.int .i64 f, .int .i64 wt, .int .i64 l, .int .i64 xx] 23) (box_on HA.out hb))
  have HB := Lib.hid (blw (blw HB.out hb) (below_alloc q2 (.cells #[.int .i64 f, .int .i64 wt, .int .i64 l, .int .i64 xx] 23)))
  have HM1 := Lib.hid (alloc_old (.cells #[.int .i64 f, .int .i64 wt, .int .i64 l, .int .i64 xx] 23) (box_on HM1.out hb))
  clear hb
  have HM2 := Lib.hid (alloc_here (w := q2) (n := q2.heap.size) (.cells #[.int .i64 f, .int .i64 wt, .int .i64 l, .int .i64 xx] 23) rfl)
  obtain ⟨a20, a21, a22, a23⟩ := cells4 HA.out
  obtain ⟨m210, m211, m212, m213⟩ := cells4 HM1.out
  obtain ⟨m220, m221, m222, m223⟩ := cells4 HM2.out
  go_wp2_with fail
  refine Calls.mono (HT3.out _) ?_
  rintro e q3 ⟨he, hb⟩
  rw [HP3.out] at he
  subst he
  have HA := Lib.hid (alloc_old (.cells #[.int .i64 df, .int .i64 dw, .int .i64 dl, .int .i64 dx] 23) (box_on HA.out hb))
  have HB := Lib.hid (blw (blw HB.out hb) (below_alloc q3 (.cells #[.int .i64 df, .int .i64 dw, .int .i64 dl, .int .i64 dx] 23)))
  have HM1 := Lib.hid (alloc_old (.cells #[.int .i64 df, .int .i64 dw, .int .i64 dl, .int .i64 dx] 23) (box_on HM1.out hb))
  have HM2 := Lib.hid (alloc_old (.cells #[.int .i64 df, .int .i64 dw, .int .i64 dl, .int .i64 dx] 23) (box_on HM2.out hb))
  clear hb
  have HM3 := Lib.hid (alloc_here (w := q3) (n := q3.heap.size) (.cells #[.int .i64 df, .int .i64 dw, .int .i64 dl, .int .i64 dx] 23) rfl)
  obtain ⟨a30, a31, a32, a33⟩ := cells4 HA.out
  obtain ⟨m310, m311, m312, m313⟩ := cells4 HM1.out
  obtain ⟨m320, m321, m322, m323⟩ := cells4 HM2.out
  obtain ⟨m330, m331, m332, m333⟩ := cells4 HM3.out
  go_wp2_with fail
  refine Calls.mono (HT4.out _) ?_
  rintro e q4 ⟨he, hb⟩
  rw [HP4.out] at he
  subst he
  have HA := Lib.hid (alloc_old (.cells #[.int .i64 f, .int .i64 wt, .int .i64 l, .int .i64 xx] 23) (box_on HA.out hb))
  have HB := Lib.hid (blw (blw HB.out hb) (below_alloc q4 (.cells #[.int .i64 f, .int .i64 wt, .int .i64 l, .int .i64 xx] 23)))
  have HM1 := Lib.hid (alloc_old (.cells #[.int .i64 f, .int .i64 wt, .int .i64 l, .int .i64 xx] 23) (box_on HM1.out hb))
  have HM2 := Lib.hid (alloc_old (.cells #[.int .i64 f, .int .i64 wt, .int .i64 l, .int .i64 xx] 23) (box_on HM2.out hb))
  have HM3 := Lib.hid (alloc_old (.cells #[.int .i64 f, .int .i64 wt, .int .i64 l, .int .i64 xx] 23) (box_on HM3.out hb))
  clear hb
  have HM4 := Lib.hid (alloc_here (w := q4) (n := q4.heap.size) (.cells #[.int .i64 f, .int .i64 wt, .int .i64 l, .int .i64 xx] 23) rfl)
  obtain ⟨a40, a41, a42, a43⟩ := cells4 HA.out
  obtain ⟨m410, m411, m412, m413⟩ := cells4 HM1.out
  obtain ⟨m420, m421, m422, m423⟩ := cells4 HM2.out
  obtain ⟨m430, m431, m432, m433⟩ := cells4 HM3.out
  obtain ⟨m440, m441, m442, m443⟩ := cells4 HM4.out
  go_wp2_with fail
  refine wp_region_quiet (C := Five w (.cells #[.int .i64 f, .int .i64 wt, .int .i64 l, .int .i64 xx] 23) q1.heap.size q2.heap.size q3.heap.size q4.heap.size (.cells #[.int .i64 af, .int .i64 aw, .int .i64 al, .int .i64 ax] 23) (.cells #[.int .i64 f, .int .i64 wt, .int .i64 l, .int .i64 xx] 23) (.cells #[.int .i64 df, .int .i64 dw, .int .i64 dl, .int .i64 dx] 23) (.cells #[.int .i64 f, .int .i64 wt, .int .i64 l, .int .i64 xx] 23)) (by kernel_rfl) (by kernel_rfl) (Five.drewN ⟨HB.out, HA.out, HM1.out, HM2.out, HM3.out, HM4.out⟩ 1) ?_
  repeat (first
    | (refine BigFrame.wpQuiet_skip (by exact Eq.refl false) ?_
       ((try simp only [Act.put]); (try simp only [List.setIfInBounds_toArray]); (try simp only [List.set_cons_zero, List.set_cons_succ])))
    | (refine BigFrame.wpQuiet_want (by exact Eq.refl true) (fun K hK => ?_)
       first
       | (refine quiet_move2 _ rfl (by go_simp; rfl) ?_; refine hK _ ?_)
       | (apply Exists.intro
          refine ⟨fun wq hq => ?_, hK _ ?_⟩
          · ((obtain ⟨c0, c1, c2, c3⟩ := cells4 hq.a); (obtain ⟨p0, p1, p2, p3⟩ := cells4 hq.b1); (obtain ⟨r0, r1, r2, r3⟩ := cells4 hq.b2); (obtain ⟨s0, s1, s2, s3⟩ := cells4 hq.b3); (obtain ⟨t0, t1, t2, t3⟩ := cells4 hq.b4)
             have HQ := Lib.hid hq
             clear hq
             unfold Oper.quietAt
             go_simp
             first
             | rfl
             | (go_at_call 10; exact (keepConf_any ⟨_, _, _, _⟩ ⟨_, _, _, _⟩ _).mono (fun e w' ⟨he, hb⟩ => ⟨he, HQ.out.on hb⟩)) | (go_at_call 22; exact (Kind_any ⟨_, _, _, _⟩ _ _).mono (fun e w' ⟨he, hb⟩ => ⟨he, HQ.out.on hb⟩)) | (go_at_call 19; exact (Voters_any ⟨_, _, _, _⟩ _).mono (fun e w' ⟨he, hb⟩ => ⟨he, HQ.out.on hb⟩)) | (go_at_call 17; exact (wakes_any _).mono (fun e w' ⟨he, hb⟩ => ⟨he, HQ.out.on hb⟩))))
       clear hK K
       ((try simp only [Act.put]); (try simp only [List.setIfInBounds_toArray]); (try simp only [List.set_cons_zero, List.set_cons_succ]); (try simp only [self]); (try simp only [ka]); (try simp only [kd]); (try simp only [hv]))))
  refine wpQuiet_nil ?_
  intro wq hq
  have HB := Lib.hid hq.beh
  clear hq
  go_wp2_with fail
  go_ret
  exact ⟨rfl, HB.out⟩

theorem ConfRounds_told (c : C) (i : Int) (wit : Bool) (w : World) (_ : c.Came) (_ : (Lit.int .i64 i).wf = true) :
    Calls Try.prog 7 #[c.val, .int .i64 i, .bool wit] w fun e w' => e = .returned (.bool true) ∧ Below w.heap.size w w' := by
  rcases told_rounds c i wit with ⟨h1, h2⟩ | ⟨h1, d, h2⟩
  · exact rounds_not c i wit w h1 h2
  · cases wit
    · exact rounds_false c _ d i w (Prod.ext rfl h1) h2
    · exact rounds_true c _ d i w (Prod.ext rfl h1) h2
end Go.Proofs.Ytakaflbfhpalhaa.Cn
