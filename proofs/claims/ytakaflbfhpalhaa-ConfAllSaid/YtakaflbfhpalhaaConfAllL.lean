/- The law ConfAll, walked. -/
import Derived.Test.YtakaflbfhpalhaaConfLaw2
import Derived.Test.YtakaflbfhpalhaaConfIn
namespace Go.Proofs.Ytakaflbfhpalhaa.Cn
open Go Go.RowKit Bh
attribute [local irreducible] wpQuiet
/-- one block of a call's own, the first that it lays -/
structure One (w : World) (p : Obj) (w' : World) : Prop where
  beh : Beh w w'
  a : w'.heap[w.heap.size]? = some p
theorem One.start (w : World) (p : Obj) : One w p (w.alloc p) := ⟨below_alloc w p, alloc_here p rfl⟩
theorem One.on {w w' w'' : World} {p : Obj} (h : One w p w') (hb : Below w'.heap.size w' w'') : One w p w'' := ⟨h.beh.on hb, box_on h.a hb⟩
theorem One.drewN {w w' : World} {p : Obj} (h : One w p w') (n : Nat) : One w p (w'.drewN n) := ⟨h.beh.drewN n, h.a⟩
theorem wrap_pw {i : Int} (h1 : 0 ≤ i) (h2 : i ≤ 6) : wrap64 (2 ^ i.toNat) = pw i.toNat := by
  rcases seven h1 h2 with rfl | rfl | rfl | rfl | rfl | rfl | rfl <;> decide +kernel
set_option maxHeartbeats 1600000 in
theorem all_not (c : C) (x i : Int) (w : World) (hr : c.right = false) :
    Calls Try.prog 6 #[c.val, .int .i64 x, .int .i64 i] w fun e w' => e = .returned (.bool true) ∧ Below w.heap.size w w' := by
  have hcf : c.check = 14 := by unfold C.check; rw [hr]; rfl
  obtain ⟨f, wt, l, xx⟩ := c
  have HB := Lib.hid (One.start w (.cells #[.int .i64 f, .int .i64 wt, .int .i64 l, .int .i64 xx] 23))
  go_enter Try.func6, Try.ntmps6
  go_wp2_with (first | (go_at_call 21; refine (Check_any ⟨_, _, _, _⟩ _).mono ?_; rintro e wq ⟨rfl, hb⟩; rw [hcf]; have HB := Lib.hid (HB.out.on hb); clear hb) | (go_at_call 17; refine (wakes_any _).mono ?_; rintro e wz ⟨rfl, hb⟩; have HB := Lib.hid (HB.out.on hb); clear hb))
  go_ret
  exact ⟨rfl, HB.out.beh⟩

set_option maxHeartbeats 3200000 in
theorem all_no1 (c : C) (x i : Int) (w : World) (hr : c.right = true) (hx : quo c x = false) (hn : quo c (bits .xor .i64 (-1) x) = true) :
    Calls Try.prog 6 #[c.val, .int .i64 x, .int .i64 i] w fun e w' => e = .returned (.bool true) ∧ Below w.heap.size w w' := by
  have hcf : c.check = 0 := by unfold C.check; rw [hr]; rfl
  obtain ⟨h1, h2, h3, h4, h5, h6⟩ := all_facts (right_iff.1 hr) x
  have hp : quo c x = false → quo c (bits .xor .i64 (-1) x) = false → (((cnt c.vot : Nat) : Int).tmod 2 == 0) = true := fun a b => by
    have := h6 a b
    rw [beq_iff_eq, Int.tmod_eq_emod_of_nonneg (by omega)]
    omega
  have h7 := cnt_le c.vot
  have sgn : (if IntKind.i64.signed = true then (-1 : Int) else 9223372036854775807) = -1 := rfl
  clear hr
  clear hp
  clear h4 h5 h6
  obtain ⟨f, wt, l, xx⟩ := c
  have HB := Lib.hid (One.start w (.cells #[.int .i64 f, .int .i64 wt, .int .i64 l, .int .i64 xx] 23))
  go_enter Try.func6, Try.ntmps6
  go_wp2_with (first | (go_at_call 21; refine (Check_any ⟨_, _, _, _⟩ _).mono ?_; rintro e wq ⟨rfl, hb⟩; rw [hcf]; have HB := Lib.hid (HB.out.on hb); clear hb))
  refine wp_region_quiet (C := One w (.cells #[.int .i64 f, .int .i64 wt, .int .i64 l, .int .i64 xx] 23)) (by kernel_rfl) (by kernel_rfl) (HB.out.drewN 1) ?_
  repeat (first
    | (refine BigFrame.wpQuiet_skip (by exact Eq.refl false) ?_
       ((try simp only [Act.put]); (try simp only [List.setIfInBounds_toArray]); (try simp only [List.set_cons_zero, List.set_cons_succ])))
    | (refine BigFrame.wpQuiet_want (by exact Eq.refl true) (fun K hK => ?_)
       first
       | (refine quiet_move2 _ rfl (by go_simp; rfl) ?_; refine hK _ ?_)
       | (apply Exists.intro
          refine ⟨fun wq hq => ?_, hK _ ?_⟩
          · ((obtain ⟨c0, c1, c2, c3⟩ := cells4 hq.a)
             have HQ := Lib.hid hq
             clear hq
             unfold Oper.quietAt
             go_simp
             first
             | rfl
             | (go_at_call 18; exact (Quorum_any ⟨_, _, _, _⟩ _ _).mono (fun e w' ⟨he, hb⟩ => ⟨he, HQ.out.on hb⟩)) | (go_at_call 19; exact (Voters_any ⟨_, _, _, _⟩ _).mono (fun e w' ⟨he, hb⟩ => ⟨he, HQ.out.on hb⟩))))
       clear hK K
       ((try simp only [Act.put]); (try simp only [List.setIfInBounds_toArray]); (try simp only [List.set_cons_zero, List.set_cons_succ]); (try simp only [h1]); (try simp only [h2]); (try simp only [h3]))))
  refine wpQuiet_nil ?_
  intro wq hq
  have HB := Lib.hid hq
  obtain ⟨c0, c1, c2, c3⟩ := cells4 hq.a
  clear hq
  go_wp2_with (first | (go_at_call 18; refine (Quorum_any ⟨_, _, _, _⟩ _ _).mono ?_; rintro e wq ⟨rfl, hb⟩; (first | rw [hx] | rw [hor]); have HB := Lib.hid (HB.out.on hb); clear hb; obtain ⟨c0, c1, c2, c3⟩ := cells4 HB.out.a))
  refine wp_region_quiet (C := One w (.cells #[.int .i64 f, .int .i64 wt, .int .i64 l, .int .i64 xx] 23)) (by kernel_rfl) (by kernel_rfl) (HB.out.drewN 1) ?_
  repeat (first
    | (refine BigFrame.wpQuiet_skip (by exact Eq.refl false) ?_
       ((try simp only [Act.put]); (try simp only [List.setIfInBounds_toArray]); (try simp only [List.set_cons_zero, List.set_cons_succ])))
    | (refine BigFrame.wpQuiet_want (by exact Eq.refl true) (fun K hK => ?_)
       first
       | (refine quiet_move2 _ rfl (by go_simp; rfl) ?_; refine hK _ ?_)
       | (apply Exists.intro
          refine ⟨fun wq hq => ?_, hK _ ?_⟩
          · ((obtain ⟨c0, c1, c2, c3⟩ := cells4 hq.a)
             have HQ := Lib.hid hq
             clear hq
             unfold Oper.quietAt
             go_simp
             first
             | rfl
             | (go_at_call 18; exact (Quorum_any ⟨_, _, _, _⟩ _ _).mono (fun e w' ⟨he, hb⟩ => ⟨he, HQ.out.on hb⟩)) | (go_at_call 19; exact (Voters_any ⟨_, _, _, _⟩ _).mono (fun e w' ⟨he, hb⟩ => ⟨he, HQ.out.on hb⟩)) | (go_at_call 20; exact (Count_any _ _).mono (fun e w' ⟨he, hb⟩ => ⟨he, hb ▸ HQ.out⟩)) | (go_at_call 17; exact (wakes_any _).mono (fun e w' ⟨he, hb⟩ => ⟨he, HQ.out.on hb⟩))))
       clear hK K
       ((try simp only [Act.put]); (try simp only [List.setIfInBounds_toArray]); (try simp only [List.set_cons_zero, List.set_cons_succ]); (try simp only [sgn]); (try simp only [hx]); (try simp only [hn]))))
  refine wpQuiet_nil ?_
  intro wq hq
  have HB := Lib.hid hq
  clear hq
  go_wp2_with fail
  go_ret
  exact ⟨rfl, HB.out.beh⟩

set_option maxHeartbeats 3200000 in
theorem all_no2 (c : C) (x i : Int) (w : World) (hr : c.right = true) (hx : quo c x = false) (hn : quo c (bits .xor .i64 (-1) x) = false) :
    Calls Try.prog 6 #[c.val, .int .i64 x, .int .i64 i] w fun e w' => e = .returned (.bool true) ∧ Below w.heap.size w w' := by
  have hcf : c.check = 0 := by unfold C.check; rw [hr]; rfl
  obtain ⟨h1, h2, h3, h4, h5, h6⟩ := all_facts (right_iff.1 hr) x
  have hp : quo c x = false → quo c (bits .xor .i64 (-1) x) = false → (((cnt c.vot : Nat) : Int).tmod 2 == 0) = true := fun a b => by
    have := h6 a b
    rw [beq_iff_eq, Int.tmod_eq_emod_of_nonneg (by omega)]
    omega
  have h7 := cnt_le c.vot
  have sgn : (if IntKind.i64.signed = true then (-1 : Int) else 9223372036854775807) = -1 := rfl
  clear hr
  have hp := hp hx hn
  clear h4 h5 h6
  obtain ⟨f, wt, l, xx⟩ := c
  have HB := Lib.hid (One.start w (.cells #[.int .i64 f, .int .i64 wt, .int .i64 l, .int .i64 xx] 23))
  go_enter Try.func6, Try.ntmps6
  go_wp2_with (first | (go_at_call 21; refine (Check_any ⟨_, _, _, _⟩ _).mono ?_; rintro e wq ⟨rfl, hb⟩; rw [hcf]; have HB := Lib.hid (HB.out.on hb); clear hb))
  refine wp_region_quiet (C := One w (.cells #[.int .i64 f, .int .i64 wt, .int .i64 l, .int .i64 xx] 23)) (by kernel_rfl) (by kernel_rfl) (HB.out.drewN 1) ?_
  repeat (first
    | (refine BigFrame.wpQuiet_skip (by exact Eq.refl false) ?_
       ((try simp only [Act.put]); (try simp only [List.setIfInBounds_toArray]); (try simp only [List.set_cons_zero, List.set_cons_succ])))
    | (refine BigFrame.wpQuiet_want (by exact Eq.refl true) (fun K hK => ?_)
       first
       | (refine quiet_move2 _ rfl (by go_simp; rfl) ?_; refine hK _ ?_)
       | (apply Exists.intro
          refine ⟨fun wq hq => ?_, hK _ ?_⟩
          · ((obtain ⟨c0, c1, c2, c3⟩ := cells4 hq.a)
             have HQ := Lib.hid hq
             clear hq
             unfold Oper.quietAt
             go_simp
             first
             | rfl
             | (go_at_call 18; exact (Quorum_any ⟨_, _, _, _⟩ _ _).mono (fun e w' ⟨he, hb⟩ => ⟨he, HQ.out.on hb⟩)) | (go_at_call 19; exact (Voters_any ⟨_, _, _, _⟩ _).mono (fun e w' ⟨he, hb⟩ => ⟨he, HQ.out.on hb⟩))))
       clear hK K
       ((try simp only [Act.put]); (try simp only [List.setIfInBounds_toArray]); (try simp only [List.set_cons_zero, List.set_cons_succ]); (try simp only [h1]); (try simp only [h2]); (try simp only [h3]))))
  refine wpQuiet_nil ?_
  intro wq hq
  have HB := Lib.hid hq
  obtain ⟨c0, c1, c2, c3⟩ := cells4 hq.a
  clear hq
  go_wp2_with (first | (go_at_call 18; refine (Quorum_any ⟨_, _, _, _⟩ _ _).mono ?_; rintro e wq ⟨rfl, hb⟩; (first | rw [hx] | rw [hor]); have HB := Lib.hid (HB.out.on hb); clear hb; obtain ⟨c0, c1, c2, c3⟩ := cells4 HB.out.a))
  refine wp_region_quiet (C := One w (.cells #[.int .i64 f, .int .i64 wt, .int .i64 l, .int .i64 xx] 23)) (by kernel_rfl) (by kernel_rfl) (HB.out.drewN 1) ?_
  repeat (first
    | (refine BigFrame.wpQuiet_skip (by exact Eq.refl false) ?_
       ((try simp only [Act.put]); (try simp only [List.setIfInBounds_toArray]); (try simp only [List.set_cons_zero, List.set_cons_succ])))
    | (refine BigFrame.wpQuiet_want (by exact Eq.refl true) (fun K hK => ?_)
       first
       | (refine quiet_move2 _ rfl (by go_simp; rfl) ?_; refine hK _ ?_)
       | (apply Exists.intro
          refine ⟨fun wq hq => ?_, hK _ ?_⟩
          · ((obtain ⟨c0, c1, c2, c3⟩ := cells4 hq.a)
             have HQ := Lib.hid hq
             clear hq
             unfold Oper.quietAt
             go_simp
             first
             | rfl
             | (go_at_call 18; exact (Quorum_any ⟨_, _, _, _⟩ _ _).mono (fun e w' ⟨he, hb⟩ => ⟨he, HQ.out.on hb⟩)) | (go_at_call 19; exact (Voters_any ⟨_, _, _, _⟩ _).mono (fun e w' ⟨he, hb⟩ => ⟨he, HQ.out.on hb⟩)) | (go_at_call 20; exact (Count_any _ _).mono (fun e w' ⟨he, hb⟩ => ⟨he, hb ▸ HQ.out⟩)) | (go_at_call 17; exact (wakes_any _).mono (fun e w' ⟨he, hb⟩ => ⟨he, HQ.out.on hb⟩))))
       clear hK K
       ((try simp only [Act.put]); (try simp only [List.setIfInBounds_toArray]); (try simp only [List.set_cons_zero, List.set_cons_succ]); (try simp only [sgn]); (try simp only [hx]); (try simp only [hn]); (try simp only [hp]))))
  refine wpQuiet_nil ?_
  intro wq hq
  have HB := Lib.hid hq
  clear hq
  go_wp2_with fail
  go_ret
  exact ⟨rfl, HB.out.beh⟩

set_option maxHeartbeats 3200000 in
theorem all_lo (c : C) (x i : Int) (w : World) (hr : c.right = true) (hx : quo c x = true) (hi : ¬ 0 ≤ i) :
    Calls Try.prog 6 #[c.val, .int .i64 x, .int .i64 i] w fun e w' => e = .returned (.bool true) ∧ Below w.heap.size w w' := by
  have hcf : c.check = 0 := by unfold C.check; rw [hr]; rfl
  obtain ⟨h1, h2, h3, h4, h5, h6⟩ := all_facts (right_iff.1 hr) x
  have hp : quo c x = false → quo c (bits .xor .i64 (-1) x) = false → (((cnt c.vot : Nat) : Int).tmod 2 == 0) = true := fun a b => by
    have := h6 a b
    rw [beq_iff_eq, Int.tmod_eq_emod_of_nonneg (by omega)]
    omega
  have h7 := cnt_le c.vot
  have sgn : (if IntKind.i64.signed = true then (-1 : Int) else 9223372036854775807) = -1 := rfl
  clear hr
  clear hp
  have hn := h5 hx
  clear h4 h5 h6
  obtain ⟨f, wt, l, xx⟩ := c
  have HB := Lib.hid (One.start w (.cells #[.int .i64 f, .int .i64 wt, .int .i64 l, .int .i64 xx] 23))
  go_enter Try.func6, Try.ntmps6
  go_wp2_with (first | (go_at_call 21; refine (Check_any ⟨_, _, _, _⟩ _).mono ?_; rintro e wq ⟨rfl, hb⟩; rw [hcf]; have HB := Lib.hid (HB.out.on hb); clear hb))
  refine wp_region_quiet (C := One w (.cells #[.int .i64 f, .int .i64 wt, .int .i64 l, .int .i64 xx] 23)) (by kernel_rfl) (by kernel_rfl) (HB.out.drewN 1) ?_
  repeat (first
    | (refine BigFrame.wpQuiet_skip (by exact Eq.refl false) ?_
       ((try simp only [Act.put]); (try simp only [List.setIfInBounds_toArray]); (try simp only [List.set_cons_zero, List.set_cons_succ])))
    | (refine BigFrame.wpQuiet_want (by exact Eq.refl true) (fun K hK => ?_)
       first
       | (refine quiet_move2 _ rfl (by go_simp; rfl) ?_; refine hK _ ?_)
       | (apply Exists.intro
          refine ⟨fun wq hq => ?_, hK _ ?_⟩
          · ((obtain ⟨c0, c1, c2, c3⟩ := cells4 hq.a)
             have HQ := Lib.hid hq
             clear hq
             unfold Oper.quietAt
             go_simp
             first
             | rfl
             | (go_at_call 18; exact (Quorum_any ⟨_, _, _, _⟩ _ _).mono (fun e w' ⟨he, hb⟩ => ⟨he, HQ.out.on hb⟩)) | (go_at_call 19; exact (Voters_any ⟨_, _, _, _⟩ _).mono (fun e w' ⟨he, hb⟩ => ⟨he, HQ.out.on hb⟩))))
       clear hK K
       ((try simp only [Act.put]); (try simp only [List.setIfInBounds_toArray]); (try simp only [List.set_cons_zero, List.set_cons_succ]); (try simp only [h1]); (try simp only [h2]); (try simp only [h3]))))
  refine wpQuiet_nil ?_
  intro wq hq
  have HB := Lib.hid hq
  obtain ⟨c0, c1, c2, c3⟩ := cells4 hq.a
  clear hq
  go_wp2_with (first | (go_at_call 18; refine (Quorum_any ⟨_, _, _, _⟩ _ _).mono ?_; rintro e wq ⟨rfl, hb⟩; (first | rw [hx] | rw [hor]); have HB := Lib.hid (HB.out.on hb); clear hb; obtain ⟨c0, c1, c2, c3⟩ := cells4 HB.out.a))
  refine wp_region_quiet (C := One w (.cells #[.int .i64 f, .int .i64 wt, .int .i64 l, .int .i64 xx] 23)) (by kernel_rfl) (by kernel_rfl) (HB.out.drewN 1) ?_
  repeat (first
    | (refine BigFrame.wpQuiet_skip (by exact Eq.refl false) ?_
       ((try simp only [Act.put]); (try simp only [List.setIfInBounds_toArray]); (try simp only [List.set_cons_zero, List.set_cons_succ])))
    | (refine BigFrame.wpQuiet_want (by exact Eq.refl true) (fun K hK => ?_)
       first
       | (refine quiet_move2 _ rfl (by go_simp; rfl) ?_; refine hK _ ?_)
       | (apply Exists.intro
          refine ⟨fun wq hq => ?_, hK _ ?_⟩
          · ((obtain ⟨c0, c1, c2, c3⟩ := cells4 hq.a)
             have HQ := Lib.hid hq
             clear hq
             unfold Oper.quietAt
             go_simp
             first
             | rfl
             | (go_at_call 18; exact (Quorum_any ⟨_, _, _, _⟩ _ _).mono (fun e w' ⟨he, hb⟩ => ⟨he, HQ.out.on hb⟩)) | (go_at_call 19; exact (Voters_any ⟨_, _, _, _⟩ _).mono (fun e w' ⟨he, hb⟩ => ⟨he, HQ.out.on hb⟩)) | (go_at_call 20; exact (Count_any _ _).mono (fun e w' ⟨he, hb⟩ => ⟨he, hb ▸ HQ.out⟩)) | (go_at_call 17; exact (wakes_any _).mono (fun e w' ⟨he, hb⟩ => ⟨he, HQ.out.on hb⟩))))
       clear hK K
       ((try simp only [Act.put]); (try simp only [List.setIfInBounds_toArray]); (try simp only [List.set_cons_zero, List.set_cons_succ]); (try simp only [sgn]); (try simp only [hx]); (try simp only [hn]))))
  refine wpQuiet_nil ?_
  intro wq hq
  have HB := Lib.hid hq
  clear hq
  go_wp2_with fail
  go_ret
  exact ⟨rfl, HB.out.beh⟩

set_option maxHeartbeats 3200000 in
theorem all_hi (c : C) (x i : Int) (w : World) (hr : c.right = true) (hx : quo c x = true) (hi : 0 ≤ i) (hi2 : ¬ i < 7) :
    Calls Try.prog 6 #[c.val, .int .i64 x, .int .i64 i] w fun e w' => e = .returned (.bool true) ∧ Below w.heap.size w w' := by
  have hcf : c.check = 0 := by unfold C.check; rw [hr]; rfl
  obtain ⟨h1, h2, h3, h4, h5, h6⟩ := all_facts (right_iff.1 hr) x
  have hp : quo c x = false → quo c (bits .xor .i64 (-1) x) = false → (((cnt c.vot : Nat) : Int).tmod 2 == 0) = true := fun a b => by
    have := h6 a b
    rw [beq_iff_eq, Int.tmod_eq_emod_of_nonneg (by omega)]
    omega
  have h7 := cnt_le c.vot
  have sgn : (if IntKind.i64.signed = true then (-1 : Int) else 9223372036854775807) = -1 := rfl
  clear hr
  clear hp
  have hn := h5 hx
  clear h4 h5 h6
  obtain ⟨f, wt, l, xx⟩ := c
  have HB := Lib.hid (One.start w (.cells #[.int .i64 f, .int .i64 wt, .int .i64 l, .int .i64 xx] 23))
  go_enter Try.func6, Try.ntmps6
  go_wp2_with (first | (go_at_call 21; refine (Check_any ⟨_, _, _, _⟩ _).mono ?_; rintro e wq ⟨rfl, hb⟩; rw [hcf]; have HB := Lib.hid (HB.out.on hb); clear hb))
  refine wp_region_quiet (C := One w (.cells #[.int .i64 f, .int .i64 wt, .int .i64 l, .int .i64 xx] 23)) (by kernel_rfl) (by kernel_rfl) (HB.out.drewN 1) ?_
  repeat (first
    | (refine BigFrame.wpQuiet_skip (by exact Eq.refl false) ?_
       ((try simp only [Act.put]); (try simp only [List.setIfInBounds_toArray]); (try simp only [List.set_cons_zero, List.set_cons_succ])))
    | (refine BigFrame.wpQuiet_want (by exact Eq.refl true) (fun K hK => ?_)
       first
       | (refine quiet_move2 _ rfl (by go_simp; rfl) ?_; refine hK _ ?_)
       | (apply Exists.intro
          refine ⟨fun wq hq => ?_, hK _ ?_⟩
          · ((obtain ⟨c0, c1, c2, c3⟩ := cells4 hq.a)
             have HQ := Lib.hid hq
             clear hq
             unfold Oper.quietAt
             go_simp
             first
             | rfl
             | (go_at_call 18; exact (Quorum_any ⟨_, _, _, _⟩ _ _).mono (fun e w' ⟨he, hb⟩ => ⟨he, HQ.out.on hb⟩)) | (go_at_call 19; exact (Voters_any ⟨_, _, _, _⟩ _).mono (fun e w' ⟨he, hb⟩ => ⟨he, HQ.out.on hb⟩))))
       clear hK K
       ((try simp only [Act.put]); (try simp only [List.setIfInBounds_toArray]); (try simp only [List.set_cons_zero, List.set_cons_succ]); (try simp only [h1]); (try simp only [h2]); (try simp only [h3]))))
  refine wpQuiet_nil ?_
  intro wq hq
  have HB := Lib.hid hq
  obtain ⟨c0, c1, c2, c3⟩ := cells4 hq.a
  clear hq
  go_wp2_with (first | (go_at_call 18; refine (Quorum_any ⟨_, _, _, _⟩ _ _).mono ?_; rintro e wq ⟨rfl, hb⟩; (first | rw [hx] | rw [hor]); have HB := Lib.hid (HB.out.on hb); clear hb; obtain ⟨c0, c1, c2, c3⟩ := cells4 HB.out.a))
  refine wp_region_quiet (C := One w (.cells #[.int .i64 f, .int .i64 wt, .int .i64 l, .int .i64 xx] 23)) (by kernel_rfl) (by kernel_rfl) (HB.out.drewN 1) ?_
  repeat (first
    | (refine BigFrame.wpQuiet_skip (by exact Eq.refl false) ?_
       ((try simp only [Act.put]); (try simp only [List.setIfInBounds_toArray]); (try simp only [List.set_cons_zero, List.set_cons_succ])))
    | (refine BigFrame.wpQuiet_want (by exact Eq.refl true) (fun K hK => ?_)
       first
       | (refine quiet_move2 _ rfl (by go_simp; rfl) ?_; refine hK _ ?_)
       | (apply Exists.intro
          refine ⟨fun wq hq => ?_, hK _ ?_⟩
          · ((obtain ⟨c0, c1, c2, c3⟩ := cells4 hq.a)
             have HQ := Lib.hid hq
             clear hq
             unfold Oper.quietAt
             go_simp
             first
             | rfl
             | (go_at_call 18; exact (Quorum_any ⟨_, _, _, _⟩ _ _).mono (fun e w' ⟨he, hb⟩ => ⟨he, HQ.out.on hb⟩)) | (go_at_call 19; exact (Voters_any ⟨_, _, _, _⟩ _).mono (fun e w' ⟨he, hb⟩ => ⟨he, HQ.out.on hb⟩)) | (go_at_call 20; exact (Count_any _ _).mono (fun e w' ⟨he, hb⟩ => ⟨he, hb ▸ HQ.out⟩)) | (go_at_call 17; exact (wakes_any _).mono (fun e w' ⟨he, hb⟩ => ⟨he, HQ.out.on hb⟩))))
       clear hK K
       ((try simp only [Act.put]); (try simp only [List.setIfInBounds_toArray]); (try simp only [List.set_cons_zero, List.set_cons_succ]); (try simp only [sgn]); (try simp only [hx]); (try simp only [hn]))))
  refine wpQuiet_nil ?_
  intro wq hq
  have HB := Lib.hid hq
  clear hq
  go_wp2_with fail
  go_ret
  exact ⟨rfl, HB.out.beh⟩

set_option maxHeartbeats 3200000 in
theorem all_in (c : C) (x i : Int) (w : World) (hr : c.right = true) (hx : quo c x = true) (hi : 0 ≤ i) (hi2 : i < 7) :
    Calls Try.prog 6 #[c.val, .int .i64 x, .int .i64 i] w fun e w' => e = .returned (.bool true) ∧ Below w.heap.size w w' := by
  have hcf : c.check = 0 := by unfold C.check; rw [hr]; rfl
  obtain ⟨h1, h2, h3, h4, h5, h6⟩ := all_facts (right_iff.1 hr) x
  have hp : quo c x = false → quo c (bits .xor .i64 (-1) x) = false → (((cnt c.vot : Nat) : Int).tmod 2 == 0) = true := fun a b => by
    have := h6 a b
    rw [beq_iff_eq, Int.tmod_eq_emod_of_nonneg (by omega)]
    omega
  have h7 := cnt_le c.vot
  have sgn : (if IntKind.i64.signed = true then (-1 : Int) else 9223372036854775807) = -1 := rfl
  clear hr
  clear hp
  have hn := h5 hx
  have hS := wrap_pw hi (by omega)
  have hor := h4 i.toNat (by omega) hx
  generalize pw i.toNat = p at *
  clear h4 h5 h6
  obtain ⟨f, wt, l, xx⟩ := c
  have HB := Lib.hid (One.start w (.cells #[.int .i64 f, .int .i64 wt, .int .i64 l, .int .i64 xx] 23))
  go_enter Try.func6, Try.ntmps6
  go_wp2_with (first | (go_at_call 21; refine (Check_any ⟨_, _, _, _⟩ _).mono ?_; rintro e wq ⟨rfl, hb⟩; rw [hcf]; have HB := Lib.hid (HB.out.on hb); clear hb))
  refine wp_region_quiet (C := One w (.cells #[.int .i64 f, .int .i64 wt, .int .i64 l, .int .i64 xx] 23)) (by kernel_rfl) (by kernel_rfl) (HB.out.drewN 1) ?_
  repeat (first
    | (refine BigFrame.wpQuiet_skip (by exact Eq.refl false) ?_
       ((try simp only [Act.put]); (try simp only [List.setIfInBounds_toArray]); (try simp only [List.set_cons_zero, List.set_cons_succ])))
    | (refine BigFrame.wpQuiet_want (by exact Eq.refl true) (fun K hK => ?_)
       first
       | (refine quiet_move2 _ rfl (by go_simp; rfl) ?_; refine hK _ ?_)
       | (apply Exists.intro
          refine ⟨fun wq hq => ?_, hK _ ?_⟩
          · ((obtain ⟨c0, c1, c2, c3⟩ := cells4 hq.a)
             have HQ := Lib.hid hq
             clear hq
             unfold Oper.quietAt
             go_simp
             first
             | rfl
             | (go_at_call 18; exact (Quorum_any ⟨_, _, _, _⟩ _ _).mono (fun e w' ⟨he, hb⟩ => ⟨he, HQ.out.on hb⟩)) | (go_at_call 19; exact (Voters_any ⟨_, _, _, _⟩ _).mono (fun e w' ⟨he, hb⟩ => ⟨he, HQ.out.on hb⟩))))
       clear hK K
       ((try simp only [Act.put]); (try simp only [List.setIfInBounds_toArray]); (try simp only [List.set_cons_zero, List.set_cons_succ]); (try simp only [h1]); (try simp only [h2]); (try simp only [h3]))))
  refine wpQuiet_nil ?_
  intro wq hq
  have HB := Lib.hid hq
  obtain ⟨c0, c1, c2, c3⟩ := cells4 hq.a
  clear hq
  go_wp2_with (first | (go_at_call 18; refine (Quorum_any ⟨_, _, _, _⟩ _ _).mono ?_; rintro e wq ⟨rfl, hb⟩; (first | rw [hx] | rw [hor]); have HB := Lib.hid (HB.out.on hb); clear hb; obtain ⟨c0, c1, c2, c3⟩ := cells4 HB.out.a))
  refine wp_region_quiet (C := One w (.cells #[.int .i64 f, .int .i64 wt, .int .i64 l, .int .i64 xx] 23)) (by kernel_rfl) (by kernel_rfl) (HB.out.drewN 1) ?_
  repeat (first
    | (refine BigFrame.wpQuiet_skip (by exact Eq.refl false) ?_
       ((try simp only [Act.put]); (try simp only [List.setIfInBounds_toArray]); (try simp only [List.set_cons_zero, List.set_cons_succ])))
    | (refine BigFrame.wpQuiet_want (by exact Eq.refl true) (fun K hK => ?_)
       first
       | (refine quiet_move2 _ rfl (by go_simp; rfl) ?_; refine hK _ ?_)
       | (apply Exists.intro
          refine ⟨fun wq hq => ?_, hK _ ?_⟩
          · ((obtain ⟨c0, c1, c2, c3⟩ := cells4 hq.a)
             have HQ := Lib.hid hq
             clear hq
             unfold Oper.quietAt
             go_simp
             first
             | rfl
             | (go_at_call 18; exact (Quorum_any ⟨_, _, _, _⟩ _ _).mono (fun e w' ⟨he, hb⟩ => ⟨he, HQ.out.on hb⟩)) | (go_at_call 19; exact (Voters_any ⟨_, _, _, _⟩ _).mono (fun e w' ⟨he, hb⟩ => ⟨he, HQ.out.on hb⟩)) | (go_at_call 20; exact (Count_any _ _).mono (fun e w' ⟨he, hb⟩ => ⟨he, hb ▸ HQ.out⟩)) | (go_at_call 17; exact (wakes_any _).mono (fun e w' ⟨he, hb⟩ => ⟨he, HQ.out.on hb⟩))))
       clear hK K
       ((try simp only [Act.put]); (try simp only [List.setIfInBounds_toArray]); (try simp only [List.set_cons_zero, List.set_cons_succ]); (try simp only [sgn]); (try simp only [hx]); (try simp only [hn]))))
  refine wpQuiet_nil ?_
  intro wq hq
  have HB := Lib.hid hq
  clear hq
  go_wp2_with fail
  go_ret
  exact ⟨rfl, HB.out.beh⟩

theorem ConfAll_told (c : C) (x i : Int) (w : World) (_ : c.Came) (_ : (Lit.int .i64 x).wf = true) (_ : (Lit.int .i64 i).wf = true) :
    Calls Try.prog 6 #[c.val, .int .i64 x, .int .i64 i] w fun e w' => e = .returned (.bool true) ∧ Below w.heap.size w w' := by
  cases hr : c.right
  · exact all_not c x i w hr
  · cases hx : quo c x
    · cases hn : quo c (bits .xor .i64 (-1) x)
      · exact all_no2 c x i w hr hx hn
      · exact all_no1 c x i w hr hx hn
    · by_cases h1 : 0 ≤ i
      · by_cases h2 : i < 7
        · exact all_in c x i w hr hx h1 h2
        · exact all_hi c x i w hr hx h1 h2
      · exact all_lo c x i w hr hx h1
end Go.Proofs.Ytakaflbfhpalhaa.Cn
