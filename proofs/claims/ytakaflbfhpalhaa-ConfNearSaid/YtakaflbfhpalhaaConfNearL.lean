/- The law ConfNear, walked. -/
import Derived.Test.YtakaflbfhpalhaaConfLaw
import Derived.Test.YtakaflbfhpalhaaConfIn
namespace Go.Proofs.Ytakaflbfhpalhaa.Cn
open Go Go.RowKit Bh
attribute [local irreducible] wpQuiet
theorem u3 (k : Int) : (IntKind.u64.wrap k).tmod 3 = 0 ∨ (IntKind.u64.wrap k).tmod 3 = 1 ∨ (IntKind.u64.wrap k).tmod 3 = 2 := by
  have h0 : 0 ≤ IntKind.u64.wrap k := by simp [IntKind.wrap, IntKind.bits, IntKind.signed]; omega
  have h1 := Int.tmod_lt_of_pos (IntKind.u64.wrap k) (b := (3 : Int)) (by omega)
  have h2 := Int.tmod_nonneg (3 : Int) h0
  omega
theorem string_ne {s t : ByteArray} (h : s ≠ t) : (s.toList != t.toList) = true := by
  rw [bne_iff_ne]
  intro e
  apply h
  rw [ByteArray.toList_eq, ByteArray.toList_eq] at e
  obtain ⟨⟨x⟩⟩ := s
  obtain ⟨⟨y⟩⟩ := t
  simp only at e
  rw [e]
theorem string_nq {s t : ByteArray} (h : s ≠ t) : (s.toList == t.toList) = false := by
  have := string_ne h
  revert this
  cases hb : (s.toList == t.toList) <;> simp [bne, hb]

set_option maxHeartbeats 3200000 in
theorem near_lrn (a : C) (i kn : Int) (wit : Bool) (w : World) (hk : (IntKind.u64.wrap kn).tmod 3 = 0) :
    Calls Try.prog 5 #[a.val, .int .i64 i, .int .i64 kn, .bool wit] w fun e w' => e = .returned (.bool true) ∧ Below w.heap.size w w' := by
  have HT := Lib.hid (fun W => Learn_any a i wit W)
  have hd := told_lrn a i wit
  generalize stepM a i (lrnN wit) = R at *
  obtain ⟨⟨mf, mw, ml, mx⟩, er⟩ := R
  have HP : Hid (pairV (C.mk mf mw ml mx, er) = .tuple #[.agg #[.int .i64 mf, .int .i64 mw, .int .i64 ml, .int .i64 mx], .int .i64 er]) := rfl
  rcases hd with ⟨he, hz⟩ | ⟨he, hw⟩
  · obtain ⟨rfl, rfl, rfl, rfl⟩ := (C.eq_iff _ _).1 hz
    have e1 : (er != 0) = true := by simpa using he
    clear he hz
    obtain ⟨f, wt, l, x⟩ := a
    go_enter Try.func5, Try.ntmps5
    go_wp2_with fail
    refine Calls.mono (HT.out _) ?_
    rintro e q ⟨he, hb⟩
    rw [HP.out] at he
    subst he
    have HB := Lib.hid ((Two.start w (.cells #[.int .i64 f, .int .i64 wt, .int .i64 l, .int .i64 x] 23) (.cells #[.int .i64 0, .int .i64 0, .int .i64 0, .int .i64 0] 23)).on hb)
    clear hb
    have f1 := frozen_of HB.out.b 0
    have f2 := frozen_of HB.out.b 1
    have f3 := frozen_of HB.out.b 2
    have f4 := frozen_of HB.out.b 3
    obtain ⟨d0, d1, d2, d3⟩ := cells4 HB.out.b
    go_wp2_with (first
      | (go_at_call 10; refine (keepConf_any ⟨_, _, _, _⟩ ⟨_, _, _, _⟩ _).mono ?_; rintro e wq ⟨rfl, hb⟩; rw [decide_eq_true rfl]; have HB := Lib.hid (blw (HB.out.set _ _ _ _).beh hb); clear hb)
      | (go_at_call 17; refine (wakes_any _).mono ?_; rintro e wz ⟨rfl, hb⟩; have HB := Lib.hid (blw HB.out hb); clear hb))
    go_ret
    exact ⟨rfl, HB.out⟩
  · obtain rfl : er = 0 := he
    obtain ⟨ca, cx, hn, hne, hfew, hkn⟩ := hw
    have hks := string_ne hkn
    have hks2 := string_nq hkn
    have l1 := cnt_le (bits .andNot .i64 a.vot (C.mk mf mw ml mx).vot)
    have l2 := cnt_le (bits .andNot .i64 (C.mk mf mw ml mx).vot a.vot)
    clear hkn
    obtain ⟨f, wt, l, x⟩ := a
    go_enter Try.func5, Try.ntmps5
    go_wp2_with fail
    refine Calls.mono (HT.out _) ?_
    rintro e q ⟨he, hb⟩
    rw [HP.out] at he
    subst he
    have HB := Lib.hid ((Two.start w (.cells #[.int .i64 f, .int .i64 wt, .int .i64 l, .int .i64 x] 23) (.cells #[.int .i64 0, .int .i64 0, .int .i64 0, .int .i64 0] 23)).on hb)
    clear hb
    have f1 := frozen_of HB.out.b 0
    have f2 := frozen_of HB.out.b 1
    have f3 := frozen_of HB.out.b 2
    have f4 := frozen_of HB.out.b 3
    obtain ⟨d0, d1, d2, d3⟩ := cells4 HB.out.b
    go_wp2_with fail
    have HB : Hid (Two w (.cells #[.int .i64 f, .int .i64 wt, .int .i64 l, .int .i64 x] 23) (.cells #[.int .i64 mf, .int .i64 mw, .int .i64 ml, .int .i64 mx] 23) ((((q.setCell ⟨w.heap.size + 1, 0, none⟩ (.int .i64 mf)).setCell ⟨w.heap.size + 1, 1, none⟩ (.int .i64 mw)).setCell ⟨w.heap.size + 1, 2, none⟩ (.int .i64 ml)).setCell ⟨w.heap.size + 1, 3, none⟩ (.int .i64 mx))) := HB.out.set _ _ _ _
    clear f1 f2 f3 f4 d0 d1 d2 d3
    generalize (((q.setCell ⟨w.heap.size + 1, 0, none⟩ (.int .i64 mf)).setCell ⟨w.heap.size + 1, 1, none⟩ (.int .i64 mw)).setCell ⟨w.heap.size + 1, 2, none⟩ (.int .i64 ml)).setCell ⟨w.heap.size + 1, 3, none⟩ (.int .i64 mx) = W at *
    refine wp_region_quiet (C := Two w (.cells #[.int .i64 f, .int .i64 wt, .int .i64 l, .int .i64 x] 23) (.cells #[.int .i64 mf, .int .i64 mw, .int .i64 ml, .int .i64 mx] 23)) (by kernel_rfl) (by kernel_rfl) (HB.out.drewN 1) ?_
    repeat (first
      | (refine BigFrame.wpQuiet_skip (by exact Eq.refl false) ?_
         ((try simp only [Act.put]); (try simp only [List.setIfInBounds_toArray]); (try simp only [List.set_cons_zero, List.set_cons_succ])))
      | (refine BigFrame.wpQuiet_want (by exact Eq.refl true) (fun K hK => ?_)
         first
         | (refine quiet_move2 _ rfl (by go_simp; rfl) ?_; refine hK _ ?_)
         | (apply Exists.intro
            refine ⟨fun wq hq => ?_, hK _ ?_⟩
            · ((obtain ⟨c0, c1, c2, c3⟩ := cells4 hq.a); (obtain ⟨d0, d1, d2, d3⟩ := cells4 hq.b)
               have HQ := Lib.hid hq
               clear hq
               unfold Oper.quietAt
               go_simp
               first
               | rfl
               | (go_at_call 19; exact (Voters_any ⟨_, _, _, _⟩ _).mono (fun e w' ⟨he, hb⟩ => ⟨he, HQ.out.on hb⟩))))
         clear hK K
         ((try simp only [Act.put]); (try simp only [List.setIfInBounds_toArray]); (try simp only [List.set_cons_zero, List.set_cons_succ]))))
    refine wpQuiet_nil ?_
    intro wq hq
    have HB := Lib.hid hq
    clear hq
    go_wp2_with (first | (go_at_call 20; refine (Count_any _ _).mono ?_; rintro e wq ⟨rfl, rfl⟩))
    refine wp_region_quiet (C := Two w (.cells #[.int .i64 f, .int .i64 wt, .int .i64 l, .int .i64 x] 23) (.cells #[.int .i64 mf, .int .i64 mw, .int .i64 ml, .int .i64 mx] 23)) (by kernel_rfl) (by kernel_rfl) (HB.out.drewN 1) ?_
    repeat (first
      | (refine BigFrame.wpQuiet_skip (by exact Eq.refl false) ?_
         ((try simp only [Act.put]); (try simp only [List.setIfInBounds_toArray]); (try simp only [List.set_cons_zero, List.set_cons_succ])))
      | (refine BigFrame.wpQuiet_want (by exact Eq.refl true) (fun K hK => ?_)
         first
         | (refine quiet_move2 _ rfl (by go_simp; rfl) ?_; refine hK _ ?_)
         | (apply Exists.intro
            refine ⟨fun wq hq => ?_, hK _ ?_⟩
            · ((obtain ⟨c0, c1, c2, c3⟩ := cells4 hq.a); (obtain ⟨d0, d1, d2, d3⟩ := cells4 hq.b)
               have HQ := Lib.hid hq
               clear hq
               unfold Oper.quietAt
               go_simp
               first
               | rfl
               | (go_at_call 21; exact (Check_any ⟨_, _, _, _⟩ _).mono (fun e w' ⟨he, hb⟩ => ⟨he, HQ.out.on hb⟩))
                 | (go_at_call 15; exact (Near_any ⟨_, _, _, _⟩ ⟨_, _, _, _⟩ _).mono (fun e w' ⟨he, hb⟩ => ⟨he, HQ.out.on hb⟩))
                 | (go_at_call 10; exact (keepConf_any ⟨_, _, _, _⟩ ⟨_, _, _, _⟩ _).mono (fun e w' ⟨he, hb⟩ => ⟨he, HQ.out.on hb⟩))
                 | (go_at_call 22; exact (Kind_any ⟨_, _, _, _⟩ _ _).mono (fun e w' ⟨he, hb⟩ => ⟨he, HQ.out.on hb⟩))
                 | (go_at_call 17; exact (wakes_any _).mono (fun e w' ⟨he, hb⟩ => ⟨he, HQ.out.on hb⟩))))
         clear hK K
         ((try simp only [Act.put]); (try simp only [List.setIfInBounds_toArray]); (try simp only [List.set_cons_zero, List.set_cons_succ]); (try simp only [ca]); (try simp only [cx]); (try simp only [hn]); (try simp only [hne]); (try simp only [hks]); (try simp only [hks2]))))
    refine wpQuiet_nil ?_
    intro wz hq
    have HB := Lib.hid hq
    clear hq
    go_wp2_with fail
    go_ret
    exact ⟨rfl, HB.out.beh⟩

set_option maxHeartbeats 3200000 in
theorem near_prom (a : C) (i kn : Int) (wit : Bool) (w : World) (hk : (IntKind.u64.wrap kn).tmod 3 = 1) :
    Calls Try.prog 5 #[a.val, .int .i64 i, .int .i64 kn, .bool wit] w fun e w' => e = .returned (.bool true) ∧ Below w.heap.size w w' := by
  have HT := Lib.hid (fun W => Promote_any a i W)
  have hd := told_prom a i
  generalize stepM a i promN = R at *
  obtain ⟨⟨mf, mw, ml, mx⟩, er⟩ := R
  have HP : Hid (pairV (C.mk mf mw ml mx, er) = .tuple #[.agg #[.int .i64 mf, .int .i64 mw, .int .i64 ml, .int .i64 mx], .int .i64 er]) := rfl
  rcases hd with ⟨he, hz⟩ | ⟨he, hw⟩
  · obtain ⟨rfl, rfl, rfl, rfl⟩ := (C.eq_iff _ _).1 hz
    have e1 : (er != 0) = true := by simpa using he
    clear he hz
    obtain ⟨f, wt, l, x⟩ := a
    go_enter Try.func5, Try.ntmps5
    go_wp2_with fail
    refine Calls.mono (HT.out _) ?_
    rintro e q ⟨he, hb⟩
    rw [HP.out] at he
    subst he
    have HB := Lib.hid ((Two.start w (.cells #[.int .i64 f, .int .i64 wt, .int .i64 l, .int .i64 x] 23) (.cells #[.int .i64 0, .int .i64 0, .int .i64 0, .int .i64 0] 23)).on hb)
    clear hb
    have f1 := frozen_of HB.out.b 0
    have f2 := frozen_of HB.out.b 1
    have f3 := frozen_of HB.out.b 2
    have f4 := frozen_of HB.out.b 3
    obtain ⟨d0, d1, d2, d3⟩ := cells4 HB.out.b
    go_wp2_with (first
      | (go_at_call 10; refine (keepConf_any ⟨_, _, _, _⟩ ⟨_, _, _, _⟩ _).mono ?_; rintro e wq ⟨rfl, hb⟩; rw [decide_eq_true rfl]; have HB := Lib.hid (blw (HB.out.set _ _ _ _).beh hb); clear hb)
      | (go_at_call 17; refine (wakes_any _).mono ?_; rintro e wz ⟨rfl, hb⟩; have HB := Lib.hid (blw HB.out hb); clear hb))
    go_ret
    exact ⟨rfl, HB.out⟩
  · obtain rfl : er = 0 := he
    obtain ⟨ca, cx, hn, hne, hfew, hkn⟩ := hw
    have hks := string_ne hkn
    have hks2 := string_nq hkn
    have l1 := cnt_le (bits .andNot .i64 a.vot (C.mk mf mw ml mx).vot)
    have l2 := cnt_le (bits .andNot .i64 (C.mk mf mw ml mx).vot a.vot)
    clear hkn
    obtain ⟨f, wt, l, x⟩ := a
    go_enter Try.func5, Try.ntmps5
    go_wp2_with fail
    refine Calls.mono (HT.out _) ?_
    rintro e q ⟨he, hb⟩
    rw [HP.out] at he
    subst he
    have HB := Lib.hid ((Two.start w (.cells #[.int .i64 f, .int .i64 wt, .int .i64 l, .int .i64 x] 23) (.cells #[.int .i64 0, .int .i64 0, .int .i64 0, .int .i64 0] 23)).on hb)
    clear hb
    have f1 := frozen_of HB.out.b 0
    have f2 := frozen_of HB.out.b 1
    have f3 := frozen_of HB.out.b 2
    have f4 := frozen_of HB.out.b 3
    obtain ⟨d0, d1, d2, d3⟩ := cells4 HB.out.b
    go_wp2_with fail
    have HB : Hid (Two w (.cells #[.int .i64 f, .int .i64 wt, .int .i64 l, .int .i64 x] 23) (.cells #[.int .i64 mf, .int .i64 mw, .int .i64 ml, .int .i64 mx] 23) ((((q.setCell ⟨w.heap.size + 1, 0, none⟩ (.int .i64 mf)).setCell ⟨w.heap.size + 1, 1, none⟩ (.int .i64 mw)).setCell ⟨w.heap.size + 1, 2, none⟩ (.int .i64 ml)).setCell ⟨w.heap.size + 1, 3, none⟩ (.int .i64 mx))) := HB.out.set _ _ _ _
    clear f1 f2 f3 f4 d0 d1 d2 d3
    generalize (((q.setCell ⟨w.heap.size + 1, 0, none⟩ (.int .i64 mf)).setCell ⟨w.heap.size + 1, 1, none⟩ (.int .i64 mw)).setCell ⟨w.heap.size + 1, 2, none⟩ (.int .i64 ml)).setCell ⟨w.heap.size + 1, 3, none⟩ (.int .i64 mx) = W at *
    refine wp_region_quiet (C := Two w (.cells #[.int .i64 f, .int .i64 wt, .int .i64 l, .int .i64 x] 23) (.cells #[.int .i64 mf, .int .i64 mw, .int .i64 ml, .int .i64 mx] 23)) (by kernel_rfl) (by kernel_rfl) (HB.out.drewN 1) ?_
    repeat (first
      | (refine BigFrame.wpQuiet_skip (by exact Eq.refl false) ?_
         ((try simp only [Act.put]); (try simp only [List.setIfInBounds_toArray]); (try simp only [List.set_cons_zero, List.set_cons_succ])))
      | (refine BigFrame.wpQuiet_want (by exact Eq.refl true) (fun K hK => ?_)
         first
         | (refine quiet_move2 _ rfl (by go_simp; rfl) ?_; refine hK _ ?_)
         | (apply Exists.intro
            refine ⟨fun wq hq => ?_, hK _ ?_⟩
            · ((obtain ⟨c0, c1, c2, c3⟩ := cells4 hq.a); (obtain ⟨d0, d1, d2, d3⟩ := cells4 hq.b)
               have HQ := Lib.hid hq
               clear hq
               unfold Oper.quietAt
               go_simp
               first
               | rfl
               | (go_at_call 19; exact (Voters_any ⟨_, _, _, _⟩ _).mono (fun e w' ⟨he, hb⟩ => ⟨he, HQ.out.on hb⟩))))
         clear hK K
         ((try simp only [Act.put]); (try simp only [List.setIfInBounds_toArray]); (try simp only [List.set_cons_zero, List.set_cons_succ]))))
    refine wpQuiet_nil ?_
    intro wq hq
    have HB := Lib.hid hq
    clear hq
    go_wp2_with (first | (go_at_call 20; refine (Count_any _ _).mono ?_; rintro e wq ⟨rfl, rfl⟩))
    refine wp_region_quiet (C := Two w (.cells #[.int .i64 f, .int .i64 wt, .int .i64 l, .int .i64 x] 23) (.cells #[.int .i64 mf, .int .i64 mw, .int .i64 ml, .int .i64 mx] 23)) (by kernel_rfl) (by kernel_rfl) (HB.out.drewN 1) ?_
    repeat (first
      | (refine BigFrame.wpQuiet_skip (by exact Eq.refl false) ?_
         ((try simp only [Act.put]); (try simp only [List.setIfInBounds_toArray]); (try simp only [List.set_cons_zero, List.set_cons_succ])))
      | (refine BigFrame.wpQuiet_want (by exact Eq.refl true) (fun K hK => ?_)
         first
         | (refine quiet_move2 _ rfl (by go_simp; rfl) ?_; refine hK _ ?_)
         | (apply Exists.intro
            refine ⟨fun wq hq => ?_, hK _ ?_⟩
            · ((obtain ⟨c0, c1, c2, c3⟩ := cells4 hq.a); (obtain ⟨d0, d1, d2, d3⟩ := cells4 hq.b)
               have HQ := Lib.hid hq
               clear hq
               unfold Oper.quietAt
               go_simp
               first
               | rfl
               | (go_at_call 21; exact (Check_any ⟨_, _, _, _⟩ _).mono (fun e w' ⟨he, hb⟩ => ⟨he, HQ.out.on hb⟩))
                 | (go_at_call 15; exact (Near_any ⟨_, _, _, _⟩ ⟨_, _, _, _⟩ _).mono (fun e w' ⟨he, hb⟩ => ⟨he, HQ.out.on hb⟩))
                 | (go_at_call 10; exact (keepConf_any ⟨_, _, _, _⟩ ⟨_, _, _, _⟩ _).mono (fun e w' ⟨he, hb⟩ => ⟨he, HQ.out.on hb⟩))
                 | (go_at_call 22; exact (Kind_any ⟨_, _, _, _⟩ _ _).mono (fun e w' ⟨he, hb⟩ => ⟨he, HQ.out.on hb⟩))
                 | (go_at_call 17; exact (wakes_any _).mono (fun e w' ⟨he, hb⟩ => ⟨he, HQ.out.on hb⟩))))
         clear hK K
         ((try simp only [Act.put]); (try simp only [List.setIfInBounds_toArray]); (try simp only [List.set_cons_zero, List.set_cons_succ]); (try simp only [ca]); (try simp only [cx]); (try simp only [hn]); (try simp only [hne]); (try simp only [hks]); (try simp only [hks2]))))
    refine wpQuiet_nil ?_
    intro wz hq
    have HB := Lib.hid hq
    clear hq
    go_wp2_with fail
    go_ret
    exact ⟨rfl, HB.out.beh⟩

set_option maxHeartbeats 3200000 in
theorem near_rem (a : C) (i kn : Int) (wit : Bool) (w : World) (hk : (IntKind.u64.wrap kn).tmod 3 = 2) :
    Calls Try.prog 5 #[a.val, .int .i64 i, .int .i64 kn, .bool wit] w fun e w' => e = .returned (.bool true) ∧ Below w.heap.size w w' := by
  have HT := Lib.hid (fun W => Remove_any a i W)
  have hd := told_rem a i
  generalize stepM a i remN = R at *
  obtain ⟨⟨mf, mw, ml, mx⟩, er⟩ := R
  have HP : Hid (pairV (C.mk mf mw ml mx, er) = .tuple #[.agg #[.int .i64 mf, .int .i64 mw, .int .i64 ml, .int .i64 mx], .int .i64 er]) := rfl
  rcases hd with ⟨he, hz⟩ | ⟨he, hw⟩
  · obtain ⟨rfl, rfl, rfl, rfl⟩ := (C.eq_iff _ _).1 hz
    have e1 : (er != 0) = true := by simpa using he
    clear he hz
    obtain ⟨f, wt, l, x⟩ := a
    go_enter Try.func5, Try.ntmps5
    go_wp2_with fail
    refine Calls.mono (HT.out _) ?_
    rintro e q ⟨he, hb⟩
    rw [HP.out] at he
    subst he
    have HB := Lib.hid ((Two.start w (.cells #[.int .i64 f, .int .i64 wt, .int .i64 l, .int .i64 x] 23) (.cells #[.int .i64 0, .int .i64 0, .int .i64 0, .int .i64 0] 23)).on hb)
    clear hb
    have f1 := frozen_of HB.out.b 0
    have f2 := frozen_of HB.out.b 1
    have f3 := frozen_of HB.out.b 2
    have f4 := frozen_of HB.out.b 3
    obtain ⟨d0, d1, d2, d3⟩ := cells4 HB.out.b
    go_wp2_with (first
      | (go_at_call 10; refine (keepConf_any ⟨_, _, _, _⟩ ⟨_, _, _, _⟩ _).mono ?_; rintro e wq ⟨rfl, hb⟩; rw [decide_eq_true rfl]; have HB := Lib.hid (blw (HB.out.set _ _ _ _).beh hb); clear hb)
      | (go_at_call 17; refine (wakes_any _).mono ?_; rintro e wz ⟨rfl, hb⟩; have HB := Lib.hid (blw HB.out hb); clear hb))
    go_ret
    exact ⟨rfl, HB.out⟩
  · obtain rfl : er = 0 := he
    obtain ⟨ca, cx, hn, hne, hfew, hkn⟩ := hw
    have hks := string_ne hkn
    have hks2 := string_nq hkn
    have l1 := cnt_le (bits .andNot .i64 a.vot (C.mk mf mw ml mx).vot)
    have l2 := cnt_le (bits .andNot .i64 (C.mk mf mw ml mx).vot a.vot)
    clear hkn
    obtain ⟨f, wt, l, x⟩ := a
    go_enter Try.func5, Try.ntmps5
    go_wp2_with fail
    refine Calls.mono (HT.out _) ?_
    rintro e q ⟨he, hb⟩
    rw [HP.out] at he
    subst he
    have HB := Lib.hid ((Two.start w (.cells #[.int .i64 f, .int .i64 wt, .int .i64 l, .int .i64 x] 23) (.cells #[.int .i64 0, .int .i64 0, .int .i64 0, .int .i64 0] 23)).on hb)
    clear hb
    have f1 := frozen_of HB.out.b 0
    have f2 := frozen_of HB.out.b 1
    have f3 := frozen_of HB.out.b 2
    have f4 := frozen_of HB.out.b 3
    obtain ⟨d0, d1, d2, d3⟩ := cells4 HB.out.b
    go_wp2_with fail
    have HB : Hid (Two w (.cells #[.int .i64 f, .int .i64 wt, .int .i64 l, .int .i64 x] 23) (.cells #[.int .i64 mf, .int .i64 mw, .int .i64 ml, .int .i64 mx] 23) ((((q.setCell ⟨w.heap.size + 1, 0, none⟩ (.int .i64 mf)).setCell ⟨w.heap.size + 1, 1, none⟩ (.int .i64 mw)).setCell ⟨w.heap.size + 1, 2, none⟩ (.int .i64 ml)).setCell ⟨w.heap.size + 1, 3, none⟩ (.int .i64 mx))) := HB.out.set _ _ _ _
    clear f1 f2 f3 f4 d0 d1 d2 d3
    generalize (((q.setCell ⟨w.heap.size + 1, 0, none⟩ (.int .i64 mf)).setCell ⟨w.heap.size + 1, 1, none⟩ (.int .i64 mw)).setCell ⟨w.heap.size + 1, 2, none⟩ (.int .i64 ml)).setCell ⟨w.heap.size + 1, 3, none⟩ (.int .i64 mx) = W at *
    refine wp_region_quiet (C := Two w (.cells #[.int .i64 f, .int .i64 wt, .int .i64 l, .int .i64 x] 23) (.cells #[.int .i64 mf, .int .i64 mw, .int .i64 ml, .int .i64 mx] 23)) (by kernel_rfl) (by kernel_rfl) (HB.out.drewN 1) ?_
    repeat (first
      | (refine BigFrame.wpQuiet_skip (by exact Eq.refl false) ?_
         ((try simp only [Act.put]); (try simp only [List.setIfInBounds_toArray]); (try simp only [List.set_cons_zero, List.set_cons_succ])))
      | (refine BigFrame.wpQuiet_want (by exact Eq.refl true) (fun K hK => ?_)
         first
         | (refine quiet_move2 _ rfl (by go_simp; rfl) ?_; refine hK _ ?_)
         | (apply Exists.intro
            refine ⟨fun wq hq => ?_, hK _ ?_⟩
            · ((obtain ⟨c0, c1, c2, c3⟩ := cells4 hq.a); (obtain ⟨d0, d1, d2, d3⟩ := cells4 hq.b)
               have HQ := Lib.hid hq
               clear hq
               unfold Oper.quietAt
               go_simp
               first
               | rfl
               | (go_at_call 19; exact (Voters_any ⟨_, _, _, _⟩ _).mono (fun e w' ⟨he, hb⟩ => ⟨he, HQ.out.on hb⟩))))
         clear hK K
         ((try simp only [Act.put]); (try simp only [List.setIfInBounds_toArray]); (try simp only [List.set_cons_zero, List.set_cons_succ]))))
    refine wpQuiet_nil ?_
    intro wq hq
    have HB := Lib.hid hq
    clear hq
    go_wp2_with (first | (go_at_call 20; refine (Count_any _ _).mono ?_; rintro e wq ⟨rfl, rfl⟩))
    refine wp_region_quiet (C := Two w (.cells #[.int .i64 f, .int .i64 wt, .int .i64 l, .int .i64 x] 23) (.cells #[.int .i64 mf, .int .i64 mw, .int .i64 ml, .int .i64 mx] 23)) (by kernel_rfl) (by kernel_rfl) (HB.out.drewN 1) ?_
    repeat (first
      | (refine BigFrame.wpQuiet_skip (by exact Eq.refl false) ?_
         ((try simp only [Act.put]); (try simp only [List.setIfInBounds_toArray]); (try simp only [List.set_cons_zero, List.set_cons_succ])))
      | (refine BigFrame.wpQuiet_want (by exact Eq.refl true) (fun K hK => ?_)
         first
         | (refine quiet_move2 _ rfl (by go_simp; rfl) ?_; refine hK _ ?_)
         | (apply Exists.intro
            refine ⟨fun wq hq => ?_, hK _ ?_⟩
            · ((obtain ⟨c0, c1, c2, c3⟩ := cells4 hq.a); (obtain ⟨d0, d1, d2, d3⟩ := cells4 hq.b)
               have HQ := Lib.hid hq
               clear hq
               unfold Oper.quietAt
               go_simp
               first
               | rfl
               | (go_at_call 21; exact (Check_any ⟨_, _, _, _⟩ _).mono (fun e w' ⟨he, hb⟩ => ⟨he, HQ.out.on hb⟩))
                 | (go_at_call 15; exact (Near_any ⟨_, _, _, _⟩ ⟨_, _, _, _⟩ _).mono (fun e w' ⟨he, hb⟩ => ⟨he, HQ.out.on hb⟩))
                 | (go_at_call 10; exact (keepConf_any ⟨_, _, _, _⟩ ⟨_, _, _, _⟩ _).mono (fun e w' ⟨he, hb⟩ => ⟨he, HQ.out.on hb⟩))
                 | (go_at_call 22; exact (Kind_any ⟨_, _, _, _⟩ _ _).mono (fun e w' ⟨he, hb⟩ => ⟨he, HQ.out.on hb⟩))
                 | (go_at_call 17; exact (wakes_any _).mono (fun e w' ⟨he, hb⟩ => ⟨he, HQ.out.on hb⟩))))
         clear hK K
         ((try simp only [Act.put]); (try simp only [List.setIfInBounds_toArray]); (try simp only [List.set_cons_zero, List.set_cons_succ]); (try simp only [ca]); (try simp only [cx]); (try simp only [hn]); (try simp only [hne]); (try simp only [hks]); (try simp only [hks2]))))
    refine wpQuiet_nil ?_
    intro wz hq
    have HB := Lib.hid hq
    clear hq
    go_wp2_with fail
    go_ret
    exact ⟨rfl, HB.out.beh⟩
theorem ConfNear_told (a : C) (i kn : Int) (wit : Bool) (w : World) (_ : a.Came) (_ : (Lit.int .i64 i).wf = true) (_ : (Lit.int .i64 kn).wf = true) :
    Calls Try.prog 5 #[a.val, .int .i64 i, .int .i64 kn, .bool wit] w fun e w' => e = .returned (.bool true) ∧ Below w.heap.size w w' := by
  rcases u3 kn with h | h | h
  · exact near_lrn a i kn wit w h
  · exact near_prom a i kn wit w h
  · exact near_rem a i kn wit w h
end Go.Proofs.Ytakaflbfhpalhaa.Cn
