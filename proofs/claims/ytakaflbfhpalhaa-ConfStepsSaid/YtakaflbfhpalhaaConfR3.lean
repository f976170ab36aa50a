/- Walks of the reference's conf: Learn, Promote, Remove. -/
import Derived.Test.YtakaflbfhpalhaaConfR2
import Derived.Test.YtakaflbfhpalhaaConfSt
namespace Go.Proofs.Ytakaflbfhpalhaa.Cn
open Go Go.RowKit Bh
attribute [local irreducible] wpQuiet
theorem wrap_pw {i : Int} (h1 : 0 ≤ i) (h2 : i ≤ 6) : wrap64 (2 ^ i.toNat) = pw i.toNat := by
  rcases seven h1 h2 with rfl | rfl | rfl | rfl | rfl | rfl | rfl <;> decide +kernel

set_option maxHeartbeats 800000 in
theorem rLearn_not (c : C) (i : Int) (wit : Bool) (w : World) (hr : c.right = false) :
    Calls Try.prog 9 #[c.val, .int .i64 i, .bool wit] w fun e w' => e = .returned (pairV (stepM c i (lrnN wit))) ∧ Below w.heap.size w w' := by
  have HS : pairV (stepM c i (lrnN wit)) = .tuple #[.agg #[.int .i64 0, .int .i64 0, .int .i64 0, .int .i64 0], .int .i64 14] := by unfold stepM; rw [hr]; rfl
  rw [HS]
  have HS := Lib.hid HS
  obtain ⟨f, wt, l, x⟩ := c
  have HB := Lib.hid (Two.start w (.cells #[.int .i64 f, .int .i64 wt, .int .i64 l, .int .i64 x] 23) (.cells #[.int .i64 0, .int .i64 0, .int .i64 0, .int .i64 0] 23))
  go_enter Try.func9, Try.ntmps9
  go_wp2_with (first | (go_at_call 25; refine (rConf_any ⟨_, _, _, _⟩ _).mono ?_; rintro e wq ⟨rfl, hb⟩; (first | rw [hr]); have HB := Lib.hid (HB.out.on hb); clear hb; obtain ⟨d0, d1, d2, d3⟩ := cells4 HB.out.a; have k0 := frozen_of HB.out.a 0; have k1 := frozen_of HB.out.a 1; have k2 := frozen_of HB.out.a 2; have k3 := frozen_of HB.out.a 3; have f1 := frozen_of HB.out.b 0; have f2 := frozen_of HB.out.b 1; have f3 := frozen_of HB.out.b 2; have f4 := frozen_of HB.out.b 3; obtain ⟨h0, h1, h2, h3⟩ := cells4 HB.out.b))
  (try simp only [Exit.inBlock, Exit.then])
  refine bodyPost_ret (v := .tuple #[.agg #[.int .i64 0, .int .i64 0, .int .i64 0, .int .i64 0], .int .i64 14]) ?_ rfl ⟨ret_val (rfl : _ = _).symm, by repeat' (with_reducible first | refine Below.setCell ?_ (by dsimp only; omega) _ | exact HB.out.beh.below)⟩
  rw [results_cell_tmp rfl]
  go_simp
set_option maxHeartbeats 800000 in
theorem rLearn_node (c : C) (i : Int) (wit : Bool) (w : World) (hr : c.right = true) (hi : isN i = false) :
    Calls Try.prog 9 #[c.val, .int .i64 i, .bool wit] w fun e w' => e = .returned (pairV (stepM c i (lrnN wit))) ∧ Below w.heap.size w w' := by
  have HS : pairV (stepM c i (lrnN wit)) = .tuple #[.agg #[.int .i64 0, .int .i64 0, .int .i64 0, .int .i64 0], .int .i64 1] := by unfold stepM; rw [hr, hi]; rfl
  rw [HS]
  have HS := Lib.hid HS
  obtain ⟨f, wt, l, x⟩ := c
  have HB := Lib.hid (Two.start w (.cells #[.int .i64 f, .int .i64 wt, .int .i64 l, .int .i64 x] 23) (.cells #[.int .i64 0, .int .i64 0, .int .i64 0, .int .i64 0] 23))
  go_enter Try.func9, Try.ntmps9
  go_wp2_with (first | (go_at_call 26; refine (rNode_any _ _).mono ?_; rintro e wq ⟨rfl, rfl⟩; rw [hi]) | (go_at_call 25; refine (rConf_any ⟨_, _, _, _⟩ _).mono ?_; rintro e wq ⟨rfl, hb⟩; (first | rw [hr]); have HB := Lib.hid (HB.out.on hb); clear hb; obtain ⟨d0, d1, d2, d3⟩ := cells4 HB.out.a; have k0 := frozen_of HB.out.a 0; have k1 := frozen_of HB.out.a 1; have k2 := frozen_of HB.out.a 2; have k3 := frozen_of HB.out.a 3; have f1 := frozen_of HB.out.b 0; have f2 := frozen_of HB.out.b 1; have f3 := frozen_of HB.out.b 2; have f4 := frozen_of HB.out.b 3; obtain ⟨h0, h1, h2, h3⟩ := cells4 HB.out.b))
  (try simp only [Exit.inBlock, Exit.then])
  refine bodyPost_ret (v := .tuple #[.agg #[.int .i64 0, .int .i64 0, .int .i64 0, .int .i64 0], .int .i64 1]) ?_ rfl ⟨ret_val (rfl : _ = _).symm, by repeat' (with_reducible first | refine Below.setCell ?_ (by dsimp only; omega) _ | exact HB.out.beh.below)⟩
  rw [results_cell_tmp rfl]
  go_simp
set_option maxHeartbeats 1600000 in
theorem rLearn_false0 (c : C) (i : Int) (w : World) (hr : c.right = true) (hi : isN i = true) (hk : c.kd i.toNat = 0) :
    Calls Try.prog 9 #[c.val, .int .i64 i, .bool false] w fun e w' => e = .returned (pairV (stepM c i (lrnN false))) ∧ Below w.heap.size w w' := by
  obtain ⟨i1, i2⟩ := isN_iff.1 hi
  have hok := right_iff.1 hr
  have hkn : kname (c.kind i) = ⟨#[]⟩ := by unfold C.kind; rw [if_pos ⟨i1, i2⟩, hk]; rfl
  have hS := wrap_pw i1 i2
  obtain ⟨p1, p2⟩ := In7.pw (i := i.toNat) (by omega)
  obtain ⟨⟨f1, f2⟩, ⟨w1, w2⟩, ⟨l1, l2⟩, ⟨x1, x2⟩, _, _⟩ := id hok
  have HS : pairV (stepM c i (lrnN false)) = .tuple #[.agg #[.int .i64 c.f, .int .i64 c.w, .int .i64 (c.l + pw i.toNat), .int .i64 c.x], .int .i64 0] := by
    rw [step_is hok i1 i2 (by rw [hk]; rfl) (by rw [hk]; exact wth_ok hok (by omega) _ (stays_f hok (by omega) (by omega) _)), hk]
    show pairV (wth c i.toNat 3, 0) = _
    rw [val03 hok (by omega) hk]
    rfl
  generalize pw i.toNat = p at *
  obtain ⟨f, wt, l, x⟩ := c
  simp only at *
  rw [HS]
  clear HS hok hk
  have HB := Lib.hid (Two.start w (.cells #[.int .i64 f, .int .i64 wt, .int .i64 l, .int .i64 x] 23) (.cells #[.int .i64 0, .int .i64 0, .int .i64 0, .int .i64 0] 23))
  go_enter Try.func9, Try.ntmps9
  go_wp2_with (first | (go_at_call 26; refine (rNode_any _ _).mono ?_; rintro e wq ⟨rfl, rfl⟩; rw [hi]) | (go_at_call 27; refine (rKind_any ⟨_, _, _, _⟩ _ _).mono ?_; rintro e wq ⟨rfl, hb⟩; rw [hkn]; have HB := Lib.hid (HB.out.on hb); clear hb; obtain ⟨d0, d1, d2, d3⟩ := cells4 HB.out.a; have k0 := frozen_of HB.out.a 0; have k1 := frozen_of HB.out.a 1; have k2 := frozen_of HB.out.a 2; have k3 := frozen_of HB.out.a 3; have f1 := frozen_of HB.out.b 0; have f2 := frozen_of HB.out.b 1; have f3 := frozen_of HB.out.b 2; have f4 := frozen_of HB.out.b 3; obtain ⟨h0, h1, h2, h3⟩ := cells4 HB.out.b) | (go_at_call 25; refine (rConf_any ⟨_, _, _, _⟩ _).mono ?_; rintro e wq ⟨rfl, hb⟩; (first | rw [hr]); have HB := Lib.hid (HB.out.on hb); clear hb; obtain ⟨d0, d1, d2, d3⟩ := cells4 HB.out.a; have k0 := frozen_of HB.out.a 0; have k1 := frozen_of HB.out.a 1; have k2 := frozen_of HB.out.a 2; have k3 := frozen_of HB.out.a 3; have f1 := frozen_of HB.out.b 0; have f2 := frozen_of HB.out.b 1; have f3 := frozen_of HB.out.b 2; have f4 := frozen_of HB.out.b 3; obtain ⟨h0, h1, h2, h3⟩ := cells4 HB.out.b))
  (try simp only [Exit.inBlock, Exit.then])
  refine bodyPost_ret (v := .tuple #[.agg #[.int .i64 f, .int .i64 wt, .int .i64 (l + p), .int .i64 x], .int .i64 0]) ?_ rfl ⟨ret_val (rfl : _ = _).symm, by repeat' (with_reducible first | refine Below.setCell ?_ (by dsimp only; omega) _ | exact HB.out.beh.below)⟩
  rw [results_cell_tmp rfl]
  go_simp
set_option maxHeartbeats 1600000 in
theorem rLearn_false1 (c : C) (i : Int) (w : World) (hr : c.right = true) (hi : isN i = true) (hk : c.kd i.toNat = 1) :
    Calls Try.prog 9 #[c.val, .int .i64 i, .bool false] w fun e w' => e = .returned (pairV (stepM c i (lrnN false))) ∧ Below w.heap.size w w' := by
  obtain ⟨i1, i2⟩ := isN_iff.1 hi
  have hok := right_iff.1 hr
  have hkn : kname (c.kind i) = ⟨#[102, 117, 108, 108]⟩ := by unfold C.kind; rw [if_pos ⟨i1, i2⟩, hk]; rfl
  have hS := wrap_pw i1 i2
  obtain ⟨p1, p2⟩ := In7.pw (i := i.toNat) (by omega)
  obtain ⟨⟨f1, f2⟩, ⟨w1, w2⟩, ⟨l1, l2⟩, ⟨x1, x2⟩, _, _⟩ := id hok
  have HS : pairV (stepM c i (lrnN false)) = .tuple #[.agg #[.int .i64 0, .int .i64 0, .int .i64 0, .int .i64 0], .int .i64 14] := by
    unfold stepM
    rw [hr, hi, hk]
    rfl
  generalize pw i.toNat = p at *
  obtain ⟨f, wt, l, x⟩ := c
  simp only at *
  rw [HS]
  clear HS hok hk
  have HB := Lib.hid (Two.start w (.cells #[.int .i64 f, .int .i64 wt, .int .i64 l, .int .i64 x] 23) (.cells #[.int .i64 0, .int .i64 0, .int .i64 0, .int .i64 0] 23))
  go_enter Try.func9, Try.ntmps9
  go_wp2_with (first | (go_at_call 26; refine (rNode_any _ _).mono ?_; rintro e wq ⟨rfl, rfl⟩; rw [hi]) | (go_at_call 27; refine (rKind_any ⟨_, _, _, _⟩ _ _).mono ?_; rintro e wq ⟨rfl, hb⟩; rw [hkn]; have HB := Lib.hid (HB.out.on hb); clear hb; obtain ⟨d0, d1, d2, d3⟩ := cells4 HB.out.a; have k0 := frozen_of HB.out.a 0; have k1 := frozen_of HB.out.a 1; have k2 := frozen_of HB.out.a 2; have k3 := frozen_of HB.out.a 3; have f1 := frozen_of HB.out.b 0; have f2 := frozen_of HB.out.b 1; have f3 := frozen_of HB.out.b 2; have f4 := frozen_of HB.out.b 3; obtain ⟨h0, h1, h2, h3⟩ := cells4 HB.out.b) | (go_at_call 25; refine (rConf_any ⟨_, _, _, _⟩ _).mono ?_; rintro e wq ⟨rfl, hb⟩; (first | rw [hr]); have HB := Lib.hid (HB.out.on hb); clear hb; obtain ⟨d0, d1, d2, d3⟩ := cells4 HB.out.a; have k0 := frozen_of HB.out.a 0; have k1 := frozen_of HB.out.a 1; have k2 := frozen_of HB.out.a 2; have k3 := frozen_of HB.out.a 3; have f1 := frozen_of HB.out.b 0; have f2 := frozen_of HB.out.b 1; have f3 := frozen_of HB.out.b 2; have f4 := frozen_of HB.out.b 3; obtain ⟨h0, h1, h2, h3⟩ := cells4 HB.out.b))
  (try simp only [Exit.inBlock, Exit.then])
  refine bodyPost_ret (v := .tuple #[.agg #[.int .i64 0, .int .i64 0, .int .i64 0, .int .i64 0], .int .i64 14]) ?_ rfl ⟨ret_val (rfl : _ = _).symm, by repeat' (with_reducible first | refine Below.setCell ?_ (by dsimp only; omega) _ | exact HB.out.beh.below)⟩
  rw [results_cell_tmp rfl]
  go_simp
set_option maxHeartbeats 1600000 in
theorem rLearn_false2 (c : C) (i : Int) (w : World) (hr : c.right = true) (hi : isN i = true) (hk : c.kd i.toNat = 2) :
    Calls Try.prog 9 #[c.val, .int .i64 i, .bool false] w fun e w' => e = .returned (pairV (stepM c i (lrnN false))) ∧ Below w.heap.size w w' := by
  obtain ⟨i1, i2⟩ := isN_iff.1 hi
  have hok := right_iff.1 hr
  have hkn : kname (c.kind i) = ⟨#[119, 105, 116]⟩ := by unfold C.kind; rw [if_pos ⟨i1, i2⟩, hk]; rfl
  have hS := wrap_pw i1 i2
  obtain ⟨p1, p2⟩ := In7.pw (i := i.toNat) (by omega)
  obtain ⟨⟨f1, f2⟩, ⟨w1, w2⟩, ⟨l1, l2⟩, ⟨x1, x2⟩, _, _⟩ := id hok
  have HS : pairV (stepM c i (lrnN false)) = .tuple #[.agg #[.int .i64 0, .int .i64 0, .int .i64 0, .int .i64 0], .int .i64 14] := by
    unfold stepM
    rw [hr, hi, hk]
    rfl
  generalize pw i.toNat = p at *
  obtain ⟨f, wt, l, x⟩ := c
  simp only at *
  rw [HS]
  clear HS hok hk
  have HB := Lib.hid (Two.start w (.cells #[.int .i64 f, .int .i64 wt, .int .i64 l, .int .i64 x] 23) (.cells #[.int .i64 0, .int .i64 0, .int .i64 0, .int .i64 0] 23))
  go_enter Try.func9, Try.ntmps9
  go_wp2_with (first | (go_at_call 26; refine (rNode_any _ _).mono ?_; rintro e wq ⟨rfl, rfl⟩; rw [hi]) | (go_at_call 27; refine (rKind_any ⟨_, _, _, _⟩ _ _).mono ?_; rintro e wq ⟨rfl, hb⟩; rw [hkn]; have HB := Lib.hid (HB.out.on hb); clear hb; obtain ⟨d0, d1, d2, d3⟩ := cells4 HB.out.a; have k0 := frozen_of HB.out.a 0; have k1 := frozen_of HB.out.a 1; have k2 := frozen_of HB.out.a 2; have k3 := frozen_of HB.out.a 3; have f1 := frozen_of HB.out.b 0; have f2 := frozen_of HB.out.b 1; have f3 := frozen_of HB.out.b 2; have f4 := frozen_of HB.out.b 3; obtain ⟨h0, h1, h2, h3⟩ := cells4 HB.out.b) | (go_at_call 25; refine (rConf_any ⟨_, _, _, _⟩ _).mono ?_; rintro e wq ⟨rfl, hb⟩; (first | rw [hr]); have HB := Lib.hid (HB.out.on hb); clear hb; obtain ⟨d0, d1, d2, d3⟩ := cells4 HB.out.a; have k0 := frozen_of HB.out.a 0; have k1 := frozen_of HB.out.a 1; have k2 := frozen_of HB.out.a 2; have k3 := frozen_of HB.out.a 3; have f1 := frozen_of HB.out.b 0; have f2 := frozen_of HB.out.b 1; have f3 := frozen_of HB.out.b 2; have f4 := frozen_of HB.out.b 3; obtain ⟨h0, h1, h2, h3⟩ := cells4 HB.out.b))
  (try simp only [Exit.inBlock, Exit.then])
  refine bodyPost_ret (v := .tuple #[.agg #[.int .i64 0, .int .i64 0, .int .i64 0, .int .i64 0], .int .i64 14]) ?_ rfl ⟨ret_val (rfl : _ = _).symm, by repeat' (with_reducible first | refine Below.setCell ?_ (by dsimp only; omega) _ | exact HB.out.beh.below)⟩
  rw [results_cell_tmp rfl]
  go_simp
set_option maxHeartbeats 1600000 in
theorem rLearn_false3 (c : C) (i : Int) (w : World) (hr : c.right = true) (hi : isN i = true) (hk : c.kd i.toNat = 3) :
    Calls Try.prog 9 #[c.val, .int .i64 i, .bool false] w fun e w' => e = .returned (pairV (stepM c i (lrnN false))) ∧ Below w.heap.size w w' := by
  obtain ⟨i1, i2⟩ := isN_iff.1 hi
  have hok := right_iff.1 hr
  have hkn : kname (c.kind i) = ⟨#[108, 101, 97, 114, 110]⟩ := by unfold C.kind; rw [if_pos ⟨i1, i2⟩, hk]; rfl
  have hS := wrap_pw i1 i2
  obtain ⟨p1, p2⟩ := In7.pw (i := i.toNat) (by omega)
  obtain ⟨⟨f1, f2⟩, ⟨w1, w2⟩, ⟨l1, l2⟩, ⟨x1, x2⟩, _, _⟩ := id hok
  have HS : pairV (stepM c i (lrnN false)) = .tuple #[.agg #[.int .i64 0, .int .i64 0, .int .i64 0, .int .i64 0], .int .i64 14] := by
    unfold stepM
    rw [hr, hi, hk]
    rfl
  generalize pw i.toNat = p at *
  obtain ⟨f, wt, l, x⟩ := c
  simp only at *
  rw [HS]
  clear HS hok hk
  have HB := Lib.hid (Two.start w (.cells #[.int .i64 f, .int .i64 wt, .int .i64 l, .int .i64 x] 23) (.cells #[.int .i64 0, .int .i64 0, .int .i64 0, .int .i64 0] 23))
  go_enter Try.func9, Try.ntmps9
  go_wp2_with (first | (go_at_call 26; refine (rNode_any _ _).mono ?_; rintro e wq ⟨rfl, rfl⟩; rw [hi]) | (go_at_call 27; refine (rKind_any ⟨_, _, _, _⟩ _ _).mono ?_; rintro e wq ⟨rfl, hb⟩; rw [hkn]; have HB := Lib.hid (HB.out.on hb); clear hb; obtain ⟨d0, d1, d2, d3⟩ := cells4 HB.out.a; have k0 := frozen_of HB.out.a 0; have k1 := frozen_of HB.out.a 1; have k2 := frozen_of HB.out.a 2; have k3 := frozen_of HB.out.a 3; have f1 := frozen_of HB.out.b 0; have f2 := frozen_of HB.out.b 1; have f3 := frozen_of HB.out.b 2; have f4 := frozen_of HB.out.b 3; obtain ⟨h0, h1, h2, h3⟩ := cells4 HB.out.b) | (go_at_call 25; refine (rConf_any ⟨_, _, _, _⟩ _).mono ?_; rintro e wq ⟨rfl, hb⟩; (first | rw [hr]); have HB := Lib.hid (HB.out.on hb); clear hb; obtain ⟨d0, d1, d2, d3⟩ := cells4 HB.out.a; have k0 := frozen_of HB.out.a 0; have k1 := frozen_of HB.out.a 1; have k2 := frozen_of HB.out.a 2; have k3 := frozen_of HB.out.a 3; have f1 := frozen_of HB.out.b 0; have f2 := frozen_of HB.out.b 1; have f3 := frozen_of HB.out.b 2; have f4 := frozen_of HB.out.b 3; obtain ⟨h0, h1, h2, h3⟩ := cells4 HB.out.b))
  (try simp only [Exit.inBlock, Exit.then])
  refine bodyPost_ret (v := .tuple #[.agg #[.int .i64 0, .int .i64 0, .int .i64 0, .int .i64 0], .int .i64 14]) ?_ rfl ⟨ret_val (rfl : _ = _).symm, by repeat' (with_reducible first | refine Below.setCell ?_ (by dsimp only; omega) _ | exact HB.out.beh.below)⟩
  rw [results_cell_tmp rfl]
  go_simp
set_option maxHeartbeats 1600000 in
theorem rLearn_false4 (c : C) (i : Int) (w : World) (hr : c.right = true) (hi : isN i = true) (hk : c.kd i.toNat = 4) :
    Calls Try.prog 9 #[c.val, .int .i64 i, .bool false] w fun e w' => e = .returned (pairV (stepM c i (lrnN false))) ∧ Below w.heap.size w w' := by
  obtain ⟨i1, i2⟩ := isN_iff.1 hi
  have hok := right_iff.1 hr
  have hkn : kname (c.kind i) = ⟨#[108, 101, 97, 114, 110, 119, 105, 116]⟩ := by unfold C.kind; rw [if_pos ⟨i1, i2⟩, hk]; rfl
  have hS := wrap_pw i1 i2
  obtain ⟨p1, p2⟩ := In7.pw (i := i.toNat) (by omega)
  obtain ⟨⟨f1, f2⟩, ⟨w1, w2⟩, ⟨l1, l2⟩, ⟨x1, x2⟩, _, _⟩ := id hok
  have HS : pairV (stepM c i (lrnN false)) = .tuple #[.agg #[.int .i64 0, .int .i64 0, .int .i64 0, .int .i64 0], .int .i64 14] := by
    unfold stepM
    rw [hr, hi, hk]
    rfl
  generalize pw i.toNat = p at *
  obtain ⟨f, wt, l, x⟩ := c
  simp only at *
  rw [HS]
  clear HS hok hk
  have HB := Lib.hid (Two.start w (.cells #[.int .i64 f, .int .i64 wt, .int .i64 l, .int .i64 x] 23) (.cells #[.int .i64 0, .int .i64 0, .int .i64 0, .int .i64 0] 23))
  go_enter Try.func9, Try.ntmps9
  go_wp2_with (first | (go_at_call 26; refine (rNode_any _ _).mono ?_; rintro e wq ⟨rfl, rfl⟩; rw [hi]) | (go_at_call 27; refine (rKind_any ⟨_, _, _, _⟩ _ _).mono ?_; rintro e wq ⟨rfl, hb⟩; rw [hkn]; have HB := Lib.hid (HB.out.on hb); clear hb; obtain ⟨d0, d1, d2, d3⟩ := cells4 HB.out.a; have k0 := frozen_of HB.out.a 0; have k1 := frozen_of HB.out.a 1; have k2 := frozen_of HB.out.a 2; have k3 := frozen_of HB.out.a 3; have f1 := frozen_of HB.out.b 0; have f2 := frozen_of HB.out.b 1; have f3 := frozen_of HB.out.b 2; have f4 := frozen_of HB.out.b 3; obtain ⟨h0, h1, h2, h3⟩ := cells4 HB.out.b) | (go_at_call 25; refine (rConf_any ⟨_, _, _, _⟩ _).mono ?_; rintro e wq ⟨rfl, hb⟩; (first | rw [hr]); have HB := Lib.hid (HB.out.on hb); clear hb; obtain ⟨d0, d1, d2, d3⟩ := cells4 HB.out.a; have k0 := frozen_of HB.out.a 0; have k1 := frozen_of HB.out.a 1; have k2 := frozen_of HB.out.a 2; have k3 := frozen_of HB.out.a 3; have f1 := frozen_of HB.out.b 0; have f2 := frozen_of HB.out.b 1; have f3 := frozen_of HB.out.b 2; have f4 := frozen_of HB.out.b 3; obtain ⟨h0, h1, h2, h3⟩ := cells4 HB.out.b))
  (try simp only [Exit.inBlock, Exit.then])
  refine bodyPost_ret (v := .tuple #[.agg #[.int .i64 0, .int .i64 0, .int .i64 0, .int .i64 0], .int .i64 14]) ?_ rfl ⟨ret_val (rfl : _ = _).symm, by repeat' (with_reducible first | refine Below.setCell ?_ (by dsimp only; omega) _ | exact HB.out.beh.below)⟩
  rw [results_cell_tmp rfl]
  go_simp
set_option maxHeartbeats 1600000 in
theorem rLearn_true0 (c : C) (i : Int) (w : World) (hr : c.right = true) (hi : isN i = true) (hk : c.kd i.toNat = 0) :
    Calls Try.prog 9 #[c.val, .int .i64 i, .bool true] w fun e w' => e = .returned (pairV (stepM c i (lrnN true))) ∧ Below w.heap.size w w' := by
  obtain ⟨i1, i2⟩ := isN_iff.1 hi
  have hok := right_iff.1 hr
  have hkn : kname (c.kind i) = ⟨#[]⟩ := by unfold C.kind; rw [if_pos ⟨i1, i2⟩, hk]; rfl
  have hS := wrap_pw i1 i2
  obtain ⟨p1, p2⟩ := In7.pw (i := i.toNat) (by omega)
  obtain ⟨⟨f1, f2⟩, ⟨w1, w2⟩, ⟨l1, l2⟩, ⟨x1, x2⟩, _, _⟩ := id hok
  have HS : pairV (stepM c i (lrnN true)) = .tuple #[.agg #[.int .i64 c.f, .int .i64 c.w, .int .i64 c.l, .int .i64 (c.x + pw i.toNat)], .int .i64 0] := by
    rw [step_is hok i1 i2 (by rw [hk]; rfl) (by rw [hk]; exact wth_ok hok (by omega) _ (stays_f hok (by omega) (by omega) _)), hk]
    show pairV (wth c i.toNat 4, 0) = _
    rw [val04 hok (by omega) hk]
    rfl
  generalize pw i.toNat = p at *
  obtain ⟨f, wt, l, x⟩ := c
  simp only at *
  rw [HS]
  clear HS hok hk
  have HB := Lib.hid (Two.start w (.cells #[.int .i64 f, .int .i64 wt, .int .i64 l, .int .i64 x] 23) (.cells #[.int .i64 0, .int .i64 0, .int .i64 0, .int .i64 0] 23))
  go_enter Try.func9, Try.ntmps9
  go_wp2_with (first | (go_at_call 26; refine (rNode_any _ _).mono ?_; rintro e wq ⟨rfl, rfl⟩; rw [hi]) | (go_at_call 27; refine (rKind_any ⟨_, _, _, _⟩ _ _).mono ?_; rintro e wq ⟨rfl, hb⟩; rw [hkn]; have HB := Lib.hid (HB.out.on hb); clear hb; obtain ⟨d0, d1, d2, d3⟩ := cells4 HB.out.a; have k0 := frozen_of HB.out.a 0; have k1 := frozen_of HB.out.a 1; have k2 := frozen_of HB.out.a 2; have k3 := frozen_of HB.out.a 3; have f1 := frozen_of HB.out.b 0; have f2 := frozen_of HB.out.b 1; have f3 := frozen_of HB.out.b 2; have f4 := frozen_of HB.out.b 3; obtain ⟨h0, h1, h2, h3⟩ := cells4 HB.out.b) | (go_at_call 25; refine (rConf_any ⟨_, _, _, _⟩ _).mono ?_; rintro e wq ⟨rfl, hb⟩; (first | rw [hr]); have HB := Lib.hid (HB.out.on hb); clear hb; obtain ⟨d0, d1, d2, d3⟩ := cells4 HB.out.a; have k0 := frozen_of HB.out.a 0; have k1 := frozen_of HB.out.a 1; have k2 := frozen_of HB.out.a 2; have k3 := frozen_of HB.out.a 3; have f1 := frozen_of HB.out.b 0; have f2 := frozen_of HB.out.b 1; have f3 := frozen_of HB.out.b 2; have f4 := frozen_of HB.out.b 3; obtain ⟨h0, h1, h2, h3⟩ := cells4 HB.out.b))
  (try simp only [Exit.inBlock, Exit.then])
  refine bodyPost_ret (v := .tuple #[.agg #[.int .i64 f, .int .i64 wt, .int .i64 l, .int .i64 (x + p)], .int .i64 0]) ?_ rfl ⟨ret_val (rfl : _ = _).symm, by repeat' (with_reducible first | refine Below.setCell ?_ (by dsimp only; omega) _ | exact HB.out.beh.below)⟩
  rw [results_cell_tmp rfl]
  go_simp
set_option maxHeartbeats 1600000 in
theorem rLearn_true1 (c : C) (i : Int) (w : World) (hr : c.right = true) (hi : isN i = true) (hk : c.kd i.toNat = 1) :
    Calls Try.prog 9 #[c.val, .int .i64 i, .bool true] w fun e w' => e = .returned (pairV (stepM c i (lrnN true))) ∧ Below w.heap.size w w' := by
  obtain ⟨i1, i2⟩ := isN_iff.1 hi
  have hok := right_iff.1 hr
  have hkn : kname (c.kind i) = ⟨#[102, 117, 108, 108]⟩ := by unfold C.kind; rw [if_pos ⟨i1, i2⟩, hk]; rfl
  have hS := wrap_pw i1 i2
  obtain ⟨p1, p2⟩ := In7.pw (i := i.toNat) (by omega)
  obtain ⟨⟨f1, f2⟩, ⟨w1, w2⟩, ⟨l1, l2⟩, ⟨x1, x2⟩, _, _⟩ := id hok
  have HS : pairV (stepM c i (lrnN true)) = .tuple #[.agg #[.int .i64 0, .int .i64 0, .int .i64 0, .int .i64 0], .int .i64 14] := by
    unfold stepM
    rw [hr, hi, hk]
    rfl
  generalize pw i.toNat = p at *
  obtain ⟨f, wt, l, x⟩ := c
  simp only at *
  rw [HS]
  clear HS hok hk
  have HB := Lib.hid (Two.start w (.cells #[.int .i64 f, .int .i64 wt, .int .i64 l, .int .i64 x] 23) (.cells #[.int .i64 0, .int .i64 0, .int .i64 0, .int .i64 0] 23))
  go_enter Try.func9, Try.ntmps9
  go_wp2_with (first | (go_at_call 26; refine (rNode_any _ _).mono ?_; rintro e wq ⟨rfl, rfl⟩; rw [hi]) | (go_at_call 27; refine (rKind_any ⟨_, _, _, _⟩ _ _).mono ?_; rintro e wq ⟨rfl, hb⟩; rw [hkn]; have HB := Lib.hid (HB.out.on hb); clear hb; obtain ⟨d0, d1, d2, d3⟩ := cells4 HB.out.a; have k0 := frozen_of HB.out.a 0; have k1 := frozen_of HB.out.a 1; have k2 := frozen_of HB.out.a 2; have k3 := frozen_of HB.out.a 3; have f1 := frozen_of HB.out.b 0; have f2 := frozen_of HB.out.b 1; have f3 := frozen_of HB.out.b 2; have f4 := frozen_of HB.out.b 3; obtain ⟨h0, h1, h2, h3⟩ := cells4 HB.out.b) | (go_at_call 25; refine (rConf_any ⟨_, _, _, _⟩ _).mono ?_; rintro e wq ⟨rfl, hb⟩; (first | rw [hr]); have HB := Lib.hid (HB.out.on hb); clear hb; obtain ⟨d0, d1, d2, d3⟩ := cells4 HB.out.a; have k0 := frozen_of HB.out.a 0; have k1 := frozen_of HB.out.a 1; have k2 := frozen_of HB.out.a 2; have k3 := frozen_of HB.out.a 3; have f1 := frozen_of HB.out.b 0; have f2 := frozen_of HB.out.b 1; have f3 := frozen_of HB.out.b 2; have f4 := frozen_of HB.out.b 3; obtain ⟨h0, h1, h2, h3⟩ := cells4 HB.out.b))
  (try simp only [Exit.inBlock, Exit.then])
  refine bodyPost_ret (v := .tuple #[.agg #[.int .i64 0, .int .i64 0, .int .i64 0, .int .i64 0], .int .i64 14]) ?_ rfl ⟨ret_val (rfl : _ = _).symm, by repeat' (with_reducible first | refine Below.setCell ?_ (by dsimp only; omega) _ | exact HB.out.beh.below)⟩
  rw [results_cell_tmp rfl]
  go_simp
set_option maxHeartbeats 1600000 in
theorem rLearn_true2 (c : C) (i : Int) (w : World) (hr : c.right = true) (hi : isN i = true) (hk : c.kd i.toNat = 2) :
    Calls Try.prog 9 #[c.val, .int .i64 i, .bool true] w fun e w' => e = .returned (pairV (stepM c i (lrnN true))) ∧ Below w.heap.size w w' := by
  obtain ⟨i1, i2⟩ := isN_iff.1 hi
  have hok := right_iff.1 hr
  have hkn : kname (c.kind i) = ⟨#[119, 105, 116]⟩ := by unfold C.kind; rw [if_pos ⟨i1, i2⟩, hk]; rfl
  have hS := wrap_pw i1 i2
  obtain ⟨p1, p2⟩ := In7.pw (i := i.toNat) (by omega)
  obtain ⟨⟨f1, f2⟩, ⟨w1, w2⟩, ⟨l1, l2⟩, ⟨x1, x2⟩, _, _⟩ := id hok
  have HS : pairV (stepM c i (lrnN true)) = .tuple #[.agg #[.int .i64 0, .int .i64 0, .int .i64 0, .int .i64 0], .int .i64 14] := by
    unfold stepM
    rw [hr, hi, hk]
    rfl
  generalize pw i.toNat = p at *
  obtain ⟨f, wt, l, x⟩ := c
  simp only at *
  rw [HS]
  clear HS hok hk
  have HB := Lib.hid (Two.start w (.cells #[.int .i64 f, .int .i64 wt, .int .i64 l, .int .i64 x] 23) (.cells #[.int .i64 0, .int .i64 0, .int .i64 0, .int .i64 0] 23))
  go_enter Try.func9, Try.ntmps9
  go_wp2_with (first | (go_at_call 26; refine (rNode_any _ _).mono ?_; rintro e wq ⟨rfl, rfl⟩; rw [hi]) | (go_at_call 27; refine (rKind_any ⟨_, _, _, _⟩ _ _).mono ?_; rintro e wq ⟨rfl, hb⟩; rw [hkn]; have HB := Lib.hid (HB.out.on hb); clear hb; obtain ⟨d0, d1, d2, d3⟩ := cells4 HB.out.a; have k0 := frozen_of HB.out.a 0; have k1 := frozen_of HB.out.a 1; have k2 := frozen_of HB.out.a 2; have k3 := frozen_of HB.out.a 3; have f1 := frozen_of HB.out.b 0; have f2 := frozen_of HB.out.b 1; have f3 := frozen_of HB.out.b 2; have f4 := frozen_of HB.out.b 3; obtain ⟨h0, h1, h2, h3⟩ := cells4 HB.out.b) | (go_at_call 25; refine (rConf_any ⟨_, _, _, _⟩ _).mono ?_; rintro e wq ⟨rfl, hb⟩; (first | rw [hr]); have HB := Lib.hid (HB.out.on hb); clear hb; obtain ⟨d0, d1, d2, d3⟩ := cells4 HB.out.a; have k0 := frozen_of HB.out.a 0; have k1 := frozen_of HB.out.a 1; have k2 := frozen_of HB.out.a 2; have k3 := frozen_of HB.out.a 3; have f1 := frozen_of HB.out.b 0; have f2 := frozen_of HB.out.b 1; have f3 := frozen_of HB.out.b 2; have f4 := frozen_of HB.out.b 3; obtain ⟨h0, h1, h2, h3⟩ := cells4 HB.out.b))
  (try simp only [Exit.inBlock, Exit.then])
  refine bodyPost_ret (v := .tuple #[.agg #[.int .i64 0, .int .i64 0, .int .i64 0, .int .i64 0], .int .i64 14]) ?_ rfl ⟨ret_val (rfl : _ = _).symm, by repeat' (with_reducible first | refine Below.setCell ?_ (by dsimp only; omega) _ | exact HB.out.beh.below)⟩
  rw [results_cell_tmp rfl]
  go_simp
set_option maxHeartbeats 1600000 in
theorem rLearn_true3 (c : C) (i : Int) (w : World) (hr : c.right = true) (hi : isN i = true) (hk : c.kd i.toNat = 3) :
    Calls Try.prog 9 #[c.val, .int .i64 i, .bool true] w fun e w' => e = .returned (pairV (stepM c i (lrnN true))) ∧ Below w.heap.size w w' := by
  obtain ⟨i1, i2⟩ := isN_iff.1 hi
  have hok := right_iff.1 hr
  have hkn : kname (c.kind i) = ⟨#[108, 101, 97, 114, 110]⟩ := by unfold C.kind; rw [if_pos ⟨i1, i2⟩, hk]; rfl
  have hS := wrap_pw i1 i2
  obtain ⟨p1, p2⟩ := In7.pw (i := i.toNat) (by omega)
  obtain ⟨⟨f1, f2⟩, ⟨w1, w2⟩, ⟨l1, l2⟩, ⟨x1, x2⟩, _, _⟩ := id hok
  have HS : pairV (stepM c i (lrnN true)) = .tuple #[.agg #[.int .i64 0, .int .i64 0, .int .i64 0, .int .i64 0], .int .i64 14] := by
    unfold stepM
    rw [hr, hi, hk]
    rfl
  generalize pw i.toNat = p at *
  obtain ⟨f, wt, l, x⟩ := c
  simp only at *
  rw [HS]
  clear HS hok hk
  have HB := Lib.hid (Two.start w (.cells #[.int .i64 f, .int .i64 wt, .int .i64 l, .int .i64 x] 23) (.cells #[.int .i64 0, .int .i64 0, .int .i64 0, .int .i64 0] 23))
  go_enter Try.func9, Try.ntmps9
  go_wp2_with (first | (go_at_call 26; refine (rNode_any _ _).mono ?_; rintro e wq ⟨rfl, rfl⟩; rw [hi]) | (go_at_call 27; refine (rKind_any ⟨_, _, _, _⟩ _ _).mono ?_; rintro e wq ⟨rfl, hb⟩; rw [hkn]; have HB := Lib.hid (HB.out.on hb); clear hb; obtain ⟨d0, d1, d2, d3⟩ := cells4 HB.out.a; have k0 := frozen_of HB.out.a 0; have k1 := frozen_of HB.out.a 1; have k2 := frozen_of HB.out.a 2; have k3 := frozen_of HB.out.a 3; have f1 := frozen_of HB.out.b 0; have f2 := frozen_of HB.out.b 1; have f3 := frozen_of HB.out.b 2; have f4 := frozen_of HB.out.b 3; obtain ⟨h0, h1, h2, h3⟩ := cells4 HB.out.b) | (go_at_call 25; refine (rConf_any ⟨_, _, _, _⟩ _).mono ?_; rintro e wq ⟨rfl, hb⟩; (first | rw [hr]); have HB := Lib.hid (HB.out.on hb); clear hb; obtain ⟨d0, d1, d2, d3⟩ := cells4 HB.out.a; have k0 := frozen_of HB.out.a 0; have k1 := frozen_of HB.out.a 1; have k2 := frozen_of HB.out.a 2; have k3 := frozen_of HB.out.a 3; have f1 := frozen_of HB.out.b 0; have f2 := frozen_of HB.out.b 1; have f3 := frozen_of HB.out.b 2; have f4 := frozen_of HB.out.b 3; obtain ⟨h0, h1, h2, h3⟩ := cells4 HB.out.b))
  (try simp only [Exit.inBlock, Exit.then])
  refine bodyPost_ret (v := .tuple #[.agg #[.int .i64 0, .int .i64 0, .int .i64 0, .int .i64 0], .int .i64 14]) ?_ rfl ⟨ret_val (rfl : _ = _).symm, by repeat' (with_reducible first | refine Below.setCell ?_ (by dsimp only; omega) _ | exact HB.out.beh.below)⟩
  rw [results_cell_tmp rfl]
  go_simp
set_option maxHeartbeats 1600000 in
theorem rLearn_true4 (c : C) (i : Int) (w : World) (hr : c.right = true) (hi : isN i = true) (hk : c.kd i.toNat = 4) :
    Calls Try.prog 9 #[c.val, .int .i64 i, .bool true] w fun e w' => e = .returned (pairV (stepM c i (lrnN true))) ∧ Below w.heap.size w w' := by
  obtain ⟨i1, i2⟩ := isN_iff.1 hi
  have hok := right_iff.1 hr
  have hkn : kname (c.kind i) = ⟨#[108, 101, 97, 114, 110, 119, 105, 116]⟩ := by unfold C.kind; rw [if_pos ⟨i1, i2⟩, hk]; rfl
  have hS := wrap_pw i1 i2
  obtain ⟨p1, p2⟩ := In7.pw (i := i.toNat) (by omega)
  obtain ⟨⟨f1, f2⟩, ⟨w1, w2⟩, ⟨l1, l2⟩, ⟨x1, x2⟩, _, _⟩ := id hok
  have HS : pairV (stepM c i (lrnN true)) = .tuple #[.agg #[.int .i64 0, .int .i64 0, .int .i64 0, .int .i64 0], .int .i64 14] := by
    unfold stepM
    rw [hr, hi, hk]
    rfl
  generalize pw i.toNat = p at *
  obtain ⟨f, wt, l, x⟩ := c
  simp only at *
  rw [HS]
  clear HS hok hk
  have HB := Lib.hid (Two.start w (.cells #[.int .i64 f, .int .i64 wt, .int .i64 l, .int .i64 x] 23) (.cells #[.int .i64 0, .int .i64 0, .int .i64 0, .int .i64 0] 23))
  go_enter Try.func9, Try.ntmps9
  go_wp2_with (first | (go_at_call 26; refine (rNode_any _ _).mono ?_; rintro e wq ⟨rfl, rfl⟩; rw [hi]) | (go_at_call 27; refine (rKind_any ⟨_, _, _, _⟩ _ _).mono ?_; rintro e wq ⟨rfl, hb⟩; rw [hkn]; have HB := Lib.hid (HB.out.on hb); clear hb; obtain ⟨d0, d1, d2, d3⟩ := cells4 HB.out.a; have k0 := frozen_of HB.out.a 0; have k1 := frozen_of HB.out.a 1; have k2 := frozen_of HB.out.a 2; have k3 := frozen_of HB.out.a 3; have f1 := frozen_of HB.out.b 0; have f2 := frozen_of HB.out.b 1; have f3 := frozen_of HB.out.b 2; have f4 := frozen_of HB.out.b 3; obtain ⟨h0, h1, h2, h3⟩ := cells4 HB.out.b) | (go_at_call 25; refine (rConf_any ⟨_, _, _, _⟩ _).mono ?_; rintro e wq ⟨rfl, hb⟩; (first | rw [hr]); have HB := Lib.hid (HB.out.on hb); clear hb; obtain ⟨d0, d1, d2, d3⟩ := cells4 HB.out.a; have k0 := frozen_of HB.out.a 0; have k1 := frozen_of HB.out.a 1; have k2 := frozen_of HB.out.a 2; have k3 := frozen_of HB.out.a 3; have f1 := frozen_of HB.out.b 0; have f2 := frozen_of HB.out.b 1; have f3 := frozen_of HB.out.b 2; have f4 := frozen_of HB.out.b 3; obtain ⟨h0, h1, h2, h3⟩ := cells4 HB.out.b))
  (try simp only [Exit.inBlock, Exit.then])
  refine bodyPost_ret (v := .tuple #[.agg #[.int .i64 0, .int .i64 0, .int .i64 0, .int .i64 0], .int .i64 14]) ?_ rfl ⟨ret_val (rfl : _ = _).symm, by repeat' (with_reducible first | refine Below.setCell ?_ (by dsimp only; omega) _ | exact HB.out.beh.below)⟩
  rw [results_cell_tmp rfl]
  go_simp
theorem rLearn_any (c : C) (i : Int) (wit : Bool) (w : World) :
    Calls Try.prog 9 #[c.val, .int .i64 i, .bool wit] w fun e w' => e = .returned (pairV (stepM c i (lrnN wit))) ∧ Below w.heap.size w w' := by
  cases hr : c.right
  · exact rLearn_not c i wit w hr
  · cases hi : isN i
    · exact rLearn_node c i wit w hr hi
    · have hk := kd_lt c i.toNat
      obtain e | e | e | e | e : c.kd i.toNat = 0 ∨ c.kd i.toNat = 1 ∨ c.kd i.toNat = 2 ∨ c.kd i.toNat = 3 ∨ c.kd i.toNat = 4 := by omega
      · cases wit
        · exact rLearn_false0 c i w hr hi e
        · exact rLearn_true0 c i w hr hi e
      · cases wit
        · exact rLearn_false1 c i w hr hi e
        · exact rLearn_true1 c i w hr hi e
      · cases wit
        · exact rLearn_false2 c i w hr hi e
        · exact rLearn_true2 c i w hr hi e
      · cases wit
        · exact rLearn_false3 c i w hr hi e
        · exact rLearn_true3 c i w hr hi e
      · cases wit
        · exact rLearn_false4 c i w hr hi e
        · exact rLearn_true4 c i w hr hi e

set_option maxHeartbeats 800000 in
theorem rPromote_not (c : C) (i : Int) (w : World) (hr : c.right = false) :
    Calls Try.prog 12 #[c.val, .int .i64 i] w fun e w' => e = .returned (pairV (stepM c i promN)) ∧ Below w.heap.size w w' := by
  have HS : pairV (stepM c i promN) = .tuple #[.agg #[.int .i64 0, .int .i64 0, .int .i64 0, .int .i64 0], .int .i64 14] := by unfold stepM; rw [hr]; rfl
  rw [HS]
  have HS := Lib.hid HS
  obtain ⟨f, wt, l, x⟩ := c
  have HB := Lib.hid (Two.start w (.cells #[.int .i64 f, .int .i64 wt, .int .i64 l, .int .i64 x] 23) (.cells #[.int .i64 0, .int .i64 0, .int .i64 0, .int .i64 0] 23))
  go_enter Try.func12, Try.ntmps12
  go_wp2_with (first | (go_at_call 25; refine (rConf_any ⟨_, _, _, _⟩ _).mono ?_; rintro e wq ⟨rfl, hb⟩; (first | rw [hr]); have HB := Lib.hid (HB.out.on hb); clear hb; obtain ⟨d0, d1, d2, d3⟩ := cells4 HB.out.a; have k0 := frozen_of HB.out.a 0; have k1 := frozen_of HB.out.a 1; have k2 := frozen_of HB.out.a 2; have k3 := frozen_of HB.out.a 3; have f1 := frozen_of HB.out.b 0; have f2 := frozen_of HB.out.b 1; have f3 := frozen_of HB.out.b 2; have f4 := frozen_of HB.out.b 3; obtain ⟨h0, h1, h2, h3⟩ := cells4 HB.out.b))
  (try simp only [Exit.inBlock, Exit.then])
  refine bodyPost_ret (v := .tuple #[.agg #[.int .i64 0, .int .i64 0, .int .i64 0, .int .i64 0], .int .i64 14]) ?_ rfl ⟨ret_val (rfl : _ = _).symm, by repeat' (with_reducible first | refine Below.setCell ?_ (by dsimp only; omega) _ | exact HB.out.beh.below)⟩
  rw [results_cell_tmp rfl]
  go_simp
set_option maxHeartbeats 800000 in
theorem rPromote_node (c : C) (i : Int) (w : World) (hr : c.right = true) (hi : isN i = false) :
    Calls Try.prog 12 #[c.val, .int .i64 i] w fun e w' => e = .returned (pairV (stepM c i promN)) ∧ Below w.heap.size w w' := by
  have HS : pairV (stepM c i promN) = .tuple #[.agg #[.int .i64 0, .int .i64 0, .int .i64 0, .int .i64 0], .int .i64 1] := by unfold stepM; rw [hr, hi]; rfl
  rw [HS]
  have HS := Lib.hid HS
  obtain ⟨f, wt, l, x⟩ := c
  have HB := Lib.hid (Two.start w (.cells #[.int .i64 f, .int .i64 wt, .int .i64 l, .int .i64 x] 23) (.cells #[.int .i64 0, .int .i64 0, .int .i64 0, .int .i64 0] 23))
  go_enter Try.func12, Try.ntmps12
  go_wp2_with (first | (go_at_call 26; refine (rNode_any _ _).mono ?_; rintro e wq ⟨rfl, rfl⟩; rw [hi]) | (go_at_call 25; refine (rConf_any ⟨_, _, _, _⟩ _).mono ?_; rintro e wq ⟨rfl, hb⟩; (first | rw [hr]); have HB := Lib.hid (HB.out.on hb); clear hb; obtain ⟨d0, d1, d2, d3⟩ := cells4 HB.out.a; have k0 := frozen_of HB.out.a 0; have k1 := frozen_of HB.out.a 1; have k2 := frozen_of HB.out.a 2; have k3 := frozen_of HB.out.a 3; have f1 := frozen_of HB.out.b 0; have f2 := frozen_of HB.out.b 1; have f3 := frozen_of HB.out.b 2; have f4 := frozen_of HB.out.b 3; obtain ⟨h0, h1, h2, h3⟩ := cells4 HB.out.b))
  (try simp only [Exit.inBlock, Exit.then])
  refine bodyPost_ret (v := .tuple #[.agg #[.int .i64 0, .int .i64 0, .int .i64 0, .int .i64 0], .int .i64 1]) ?_ rfl ⟨ret_val (rfl : _ = _).symm, by repeat' (with_reducible first | refine Below.setCell ?_ (by dsimp only; omega) _ | exact HB.out.beh.below)⟩
  rw [results_cell_tmp rfl]
  go_simp
set_option maxHeartbeats 1600000 in
theorem rPromote_k0 (c : C) (i : Int) (w : World) (hr : c.right = true) (hi : isN i = true) (hk : c.kd i.toNat = 0) :
    Calls Try.prog 12 #[c.val, .int .i64 i] w fun e w' => e = .returned (pairV (stepM c i promN)) ∧ Below w.heap.size w w' := by
  obtain ⟨i1, i2⟩ := isN_iff.1 hi
  have hok := right_iff.1 hr
  have hkn : kname (c.kind i) = ⟨#[]⟩ := by unfold C.kind; rw [if_pos ⟨i1, i2⟩, hk]; rfl
  have hS := wrap_pw i1 i2
  obtain ⟨p1, p2⟩ := In7.pw (i := i.toNat) (by omega)
  obtain ⟨⟨f1, f2⟩, ⟨w1, w2⟩, ⟨l1, l2⟩, ⟨x1, x2⟩, _, _⟩ := id hok
  have HS : pairV (stepM c i promN) = .tuple #[.agg #[.int .i64 0, .int .i64 0, .int .i64 0, .int .i64 0], .int .i64 14] := by
    unfold stepM
    rw [hr, hi, hk]
    rfl
  generalize pw i.toNat = p at *
  obtain ⟨f, wt, l, x⟩ := c
  simp only at *
  rw [HS]
  clear HS hok hk
  have HB := Lib.hid (Two.start w (.cells #[.int .i64 f, .int .i64 wt, .int .i64 l, .int .i64 x] 23) (.cells #[.int .i64 0, .int .i64 0, .int .i64 0, .int .i64 0] 23))
  go_enter Try.func12, Try.ntmps12
  go_wp2_with (first | (go_at_call 26; refine (rNode_any _ _).mono ?_; rintro e wq ⟨rfl, rfl⟩; rw [hi]) | (go_at_call 27; refine (rKind_any ⟨_, _, _, _⟩ _ _).mono ?_; rintro e wq ⟨rfl, hb⟩; rw [hkn]; have HB := Lib.hid (HB.out.on hb); clear hb; obtain ⟨d0, d1, d2, d3⟩ := cells4 HB.out.a; have k0 := frozen_of HB.out.a 0; have k1 := frozen_of HB.out.a 1; have k2 := frozen_of HB.out.a 2; have k3 := frozen_of HB.out.a 3; have f1 := frozen_of HB.out.b 0; have f2 := frozen_of HB.out.b 1; have f3 := frozen_of HB.out.b 2; have f4 := frozen_of HB.out.b 3; obtain ⟨h0, h1, h2, h3⟩ := cells4 HB.out.b) | (go_at_call 25; refine (rConf_any ⟨_, _, _, _⟩ _).mono ?_; rintro e wq ⟨rfl, hb⟩; (first | rw [hr]); have HB := Lib.hid (HB.out.on hb); clear hb; obtain ⟨d0, d1, d2, d3⟩ := cells4 HB.out.a; have k0 := frozen_of HB.out.a 0; have k1 := frozen_of HB.out.a 1; have k2 := frozen_of HB.out.a 2; have k3 := frozen_of HB.out.a 3; have f1 := frozen_of HB.out.b 0; have f2 := frozen_of HB.out.b 1; have f3 := frozen_of HB.out.b 2; have f4 := frozen_of HB.out.b 3; obtain ⟨h0, h1, h2, h3⟩ := cells4 HB.out.b))
  (try simp only [Exit.inBlock, Exit.then])
  refine bodyPost_ret (v := .tuple #[.agg #[.int .i64 0, .int .i64 0, .int .i64 0, .int .i64 0], .int .i64 14]) ?_ rfl ⟨ret_val (rfl : _ = _).symm, by repeat' (with_reducible first | refine Below.setCell ?_ (by dsimp only; omega) _ | exact HB.out.beh.below)⟩
  rw [results_cell_tmp rfl]
  go_simp
set_option maxHeartbeats 1600000 in
theorem rPromote_k1 (c : C) (i : Int) (w : World) (hr : c.right = true) (hi : isN i = true) (hk : c.kd i.toNat = 1) :
    Calls Try.prog 12 #[c.val, .int .i64 i] w fun e w' => e = .returned (pairV (stepM c i promN)) ∧ Below w.heap.size w w' := by
  obtain ⟨i1, i2⟩ := isN_iff.1 hi
  have hok := right_iff.1 hr
  have hkn : kname (c.kind i) = ⟨#[102, 117, 108, 108]⟩ := by unfold C.kind; rw [if_pos ⟨i1, i2⟩, hk]; rfl
  have hS := wrap_pw i1 i2
  obtain ⟨p1, p2⟩ := In7.pw (i := i.toNat) (by omega)
  obtain ⟨⟨f1, f2⟩, ⟨w1, w2⟩, ⟨l1, l2⟩, ⟨x1, x2⟩, _, _⟩ := id hok
  have HS : pairV (stepM c i promN) = .tuple #[.agg #[.int .i64 0, .int .i64 0, .int .i64 0, .int .i64 0], .int .i64 14] := by
    unfold stepM
    rw [hr, hi, hk]
    rfl
  generalize pw i.toNat = p at *
  obtain ⟨f, wt, l, x⟩ := c
  simp only at *
  rw [HS]
  clear HS hok hk
  have HB := Lib.hid (Two.start w (.cells #[.int .i64 f, .int .i64 wt, .int .i64 l, .int .i64 x] 23) (.cells #[.int .i64 0, .int .i64 0, .int .i64 0, .int .i64 0] 23))
  go_enter Try.func12, Try.ntmps12
  go_wp2_with (first | (go_at_call 26; refine (rNode_any _ _).mono ?_; rintro e wq ⟨rfl, rfl⟩; rw [hi]) | (go_at_call 27; refine (rKind_any ⟨_, _, _, _⟩ _ _).mono ?_; rintro e wq ⟨rfl, hb⟩; rw [hkn]; have HB := Lib.hid (HB.out.on hb); clear hb; obtain ⟨d0, d1, d2, d3⟩ := cells4 HB.out.a; have k0 := frozen_of HB.out.a 0; have k1 := frozen_of HB.out.a 1; have k2 := frozen_of HB.out.a 2; have k3 := frozen_of HB.out.a 3; have f1 := frozen_of HB.out.b 0; have f2 := frozen_of HB.out.b 1; have f3 := frozen_of HB.out.b 2; have f4 := frozen_of HB.out.b 3; obtain ⟨h0, h1, h2, h3⟩ := cells4 HB.out.b) | (go_at_call 25; refine (rConf_any ⟨_, _, _, _⟩ _).mono ?_; rintro e wq ⟨rfl, hb⟩; (first | rw [hr]); have HB := Lib.hid (HB.out.on hb); clear hb; obtain ⟨d0, d1, d2, d3⟩ := cells4 HB.out.a; have k0 := frozen_of HB.out.a 0; have k1 := frozen_of HB.out.a 1; have k2 := frozen_of HB.out.a 2; have k3 := frozen_of HB.out.a 3; have f1 := frozen_of HB.out.b 0; have f2 := frozen_of HB.out.b 1; have f3 := frozen_of HB.out.b 2; have f4 := frozen_of HB.out.b 3; obtain ⟨h0, h1, h2, h3⟩ := cells4 HB.out.b))
  (try simp only [Exit.inBlock, Exit.then])
  refine bodyPost_ret (v := .tuple #[.agg #[.int .i64 0, .int .i64 0, .int .i64 0, .int .i64 0], .int .i64 14]) ?_ rfl ⟨ret_val (rfl : _ = _).symm, by repeat' (with_reducible first | refine Below.setCell ?_ (by dsimp only; omega) _ | exact HB.out.beh.below)⟩
  rw [results_cell_tmp rfl]
  go_simp
set_option maxHeartbeats 1600000 in
theorem rPromote_k2 (c : C) (i : Int) (w : World) (hr : c.right = true) (hi : isN i = true) (hk : c.kd i.toNat = 2) :
    Calls Try.prog 12 #[c.val, .int .i64 i] w fun e w' => e = .returned (pairV (stepM c i promN)) ∧ Below w.heap.size w w' := by
  obtain ⟨i1, i2⟩ := isN_iff.1 hi
  have hok := right_iff.1 hr
  have hkn : kname (c.kind i) = ⟨#[119, 105, 116]⟩ := by unfold C.kind; rw [if_pos ⟨i1, i2⟩, hk]; rfl
  have hS := wrap_pw i1 i2
  obtain ⟨p1, p2⟩ := In7.pw (i := i.toNat) (by omega)
  obtain ⟨⟨f1, f2⟩, ⟨w1, w2⟩, ⟨l1, l2⟩, ⟨x1, x2⟩, _, _⟩ := id hok
  have HS : pairV (stepM c i promN) = .tuple #[.agg #[.int .i64 0, .int .i64 0, .int .i64 0, .int .i64 0], .int .i64 14] := by
    unfold stepM
    rw [hr, hi, hk]
    rfl
  generalize pw i.toNat = p at *
  obtain ⟨f, wt, l, x⟩ := c
  simp only at *
  rw [HS]
  clear HS hok hk
  have HB := Lib.hid (Two.start w (.cells #[.int .i64 f, .int .i64 wt, .int .i64 l, .int .i64 x] 23) (.cells #[.int .i64 0, .int .i64 0, .int .i64 0, .int .i64 0] 23))
  go_enter Try.func12, Try.ntmps12
  go_wp2_with (first | (go_at_call 26; refine (rNode_any _ _).mono ?_; rintro e wq ⟨rfl, rfl⟩; rw [hi]) | (go_at_call 27; refine (rKind_any ⟨_, _, _, _⟩ _ _).mono ?_; rintro e wq ⟨rfl, hb⟩; rw [hkn]; have HB := Lib.hid (HB.out.on hb); clear hb; obtain ⟨d0, d1, d2, d3⟩ := cells4 HB.out.a; have k0 := frozen_of HB.out.a 0; have k1 := frozen_of HB.out.a 1; have k2 := frozen_of HB.out.a 2; have k3 := frozen_of HB.out.a 3; have f1 := frozen_of HB.out.b 0; have f2 := frozen_of HB.out.b 1; have f3 := frozen_of HB.out.b 2; have f4 := frozen_of HB.out.b 3; obtain ⟨h0, h1, h2, h3⟩ := cells4 HB.out.b) | (go_at_call 25; refine (rConf_any ⟨_, _, _, _⟩ _).mono ?_; rintro e wq ⟨rfl, hb⟩; (first | rw [hr]); have HB := Lib.hid (HB.out.on hb); clear hb; obtain ⟨d0, d1, d2, d3⟩ := cells4 HB.out.a; have k0 := frozen_of HB.out.a 0; have k1 := frozen_of HB.out.a 1; have k2 := frozen_of HB.out.a 2; have k3 := frozen_of HB.out.a 3; have f1 := frozen_of HB.out.b 0; have f2 := frozen_of HB.out.b 1; have f3 := frozen_of HB.out.b 2; have f4 := frozen_of HB.out.b 3; obtain ⟨h0, h1, h2, h3⟩ := cells4 HB.out.b))
  (try simp only [Exit.inBlock, Exit.then])
  refine bodyPost_ret (v := .tuple #[.agg #[.int .i64 0, .int .i64 0, .int .i64 0, .int .i64 0], .int .i64 14]) ?_ rfl ⟨ret_val (rfl : _ = _).symm, by repeat' (with_reducible first | refine Below.setCell ?_ (by dsimp only; omega) _ | exact HB.out.beh.below)⟩
  rw [results_cell_tmp rfl]
  go_simp
set_option maxHeartbeats 1600000 in
theorem rPromote_k3 (c : C) (i : Int) (w : World) (hr : c.right = true) (hi : isN i = true) (hk : c.kd i.toNat = 3) :
    Calls Try.prog 12 #[c.val, .int .i64 i] w fun e w' => e = .returned (pairV (stepM c i promN)) ∧ Below w.heap.size w w' := by
  obtain ⟨i1, i2⟩ := isN_iff.1 hi
  have hok := right_iff.1 hr
  have hkn : kname (c.kind i) = ⟨#[108, 101, 97, 114, 110]⟩ := by unfold C.kind; rw [if_pos ⟨i1, i2⟩, hk]; rfl
  have hS := wrap_pw i1 i2
  obtain ⟨p1, p2⟩ := In7.pw (i := i.toNat) (by omega)
  obtain ⟨⟨f1, f2⟩, ⟨w1, w2⟩, ⟨l1, l2⟩, ⟨x1, x2⟩, _, _⟩ := id hok
  have HS : pairV (stepM c i promN) = .tuple #[.agg #[.int .i64 (c.f + pw i.toNat), .int .i64 c.w, .int .i64 (c.l - pw i.toNat), .int .i64 c.x], .int .i64 0] := by
    rw [step_is hok i1 i2 (by rw [hk]; rfl) (by rw [hk]; exact wth_ok hok (by omega) _ (stays_f hok (by omega) (by omega) _)), hk]
    show pairV (wth c i.toNat 1, 0) = _
    rw [val31 hok (by omega) hk]
    rfl
  generalize pw i.toNat = p at *
  obtain ⟨f, wt, l, x⟩ := c
  simp only at *
  rw [HS]
  clear HS hok hk
  have HB := Lib.hid (Two.start w (.cells #[.int .i64 f, .int .i64 wt, .int .i64 l, .int .i64 x] 23) (.cells #[.int .i64 0, .int .i64 0, .int .i64 0, .int .i64 0] 23))
  go_enter Try.func12, Try.ntmps12
  go_wp2_with (first | (go_at_call 26; refine (rNode_any _ _).mono ?_; rintro e wq ⟨rfl, rfl⟩; rw [hi]) | (go_at_call 27; refine (rKind_any ⟨_, _, _, _⟩ _ _).mono ?_; rintro e wq ⟨rfl, hb⟩; rw [hkn]; have HB := Lib.hid (HB.out.on hb); clear hb; obtain ⟨d0, d1, d2, d3⟩ := cells4 HB.out.a; have k0 := frozen_of HB.out.a 0; have k1 := frozen_of HB.out.a 1; have k2 := frozen_of HB.out.a 2; have k3 := frozen_of HB.out.a 3; have f1 := frozen_of HB.out.b 0; have f2 := frozen_of HB.out.b 1; have f3 := frozen_of HB.out.b 2; have f4 := frozen_of HB.out.b 3; obtain ⟨h0, h1, h2, h3⟩ := cells4 HB.out.b) | (go_at_call 25; refine (rConf_any ⟨_, _, _, _⟩ _).mono ?_; rintro e wq ⟨rfl, hb⟩; (first | rw [hr]); have HB := Lib.hid (HB.out.on hb); clear hb; obtain ⟨d0, d1, d2, d3⟩ := cells4 HB.out.a; have k0 := frozen_of HB.out.a 0; have k1 := frozen_of HB.out.a 1; have k2 := frozen_of HB.out.a 2; have k3 := frozen_of HB.out.a 3; have f1 := frozen_of HB.out.b 0; have f2 := frozen_of HB.out.b 1; have f3 := frozen_of HB.out.b 2; have f4 := frozen_of HB.out.b 3; obtain ⟨h0, h1, h2, h3⟩ := cells4 HB.out.b))
  (try simp only [Exit.inBlock, Exit.then])
  refine bodyPost_ret (v := .tuple #[.agg #[.int .i64 (f + p), .int .i64 wt, .int .i64 (l - p), .int .i64 x], .int .i64 0]) ?_ rfl ⟨ret_val (rfl : _ = _).symm, by repeat' (with_reducible first | refine Below.setCell ?_ (by dsimp only; omega) _ | exact HB.out.beh.below)⟩
  rw [results_cell_tmp rfl]
  go_simp
set_option maxHeartbeats 1600000 in
theorem rPromote_k4 (c : C) (i : Int) (w : World) (hr : c.right = true) (hi : isN i = true) (hk : c.kd i.toNat = 4) :
    Calls Try.prog 12 #[c.val, .int .i64 i] w fun e w' => e = .returned (pairV (stepM c i promN)) ∧ Below w.heap.size w w' := by
  obtain ⟨i1, i2⟩ := isN_iff.1 hi
  have hok := right_iff.1 hr
  have hkn : kname (c.kind i) = ⟨#[108, 101, 97, 114, 110, 119, 105, 116]⟩ := by unfold C.kind; rw [if_pos ⟨i1, i2⟩, hk]; rfl
  have hS := wrap_pw i1 i2
  obtain ⟨p1, p2⟩ := In7.pw (i := i.toNat) (by omega)
  obtain ⟨⟨f1, f2⟩, ⟨w1, w2⟩, ⟨l1, l2⟩, ⟨x1, x2⟩, _, _⟩ := id hok
  have HS : pairV (stepM c i promN) = .tuple #[.agg #[.int .i64 c.f, .int .i64 (c.w + pw i.toNat), .int .i64 c.l, .int .i64 (c.x - pw i.toNat)], .int .i64 0] := by
    rw [step_is hok i1 i2 (by rw [hk]; rfl) (by rw [hk]; exact wth_ok hok (by omega) _ (stays_f hok (by omega) (by omega) _)), hk]
    show pairV (wth c i.toNat 2, 0) = _
    rw [val42 hok (by omega) hk]
    rfl
  generalize pw i.toNat = p at *
  obtain ⟨f, wt, l, x⟩ := c
  simp only at *
  rw [HS]
  clear HS hok hk
  have HB := Lib.hid (Two.start w (.cells #[.int .i64 f, .int .i64 wt, .int .i64 l, .int .i64 x] 23) (.cells #[.int .i64 0, .int .i64 0, .int .i64 0, .int .i64 0] 23))
  go_enter Try.func12, Try.ntmps12
  go_wp2_with (first | (go_at_call 26; refine (rNode_any _ _).mono ?_; rintro e wq ⟨rfl, rfl⟩; rw [hi]) | (go_at_call 27; refine (rKind_any ⟨_, _, _, _⟩ _ _).mono ?_; rintro e wq ⟨rfl, hb⟩; rw [hkn]; have HB := Lib.hid (HB.out.on hb); clear hb; obtain ⟨d0, d1, d2, d3⟩ := cells4 HB.out.a; have k0 := frozen_of HB.out.a 0; have k1 := frozen_of HB.out.a 1; have k2 := frozen_of HB.out.a 2; have k3 := frozen_of HB.out.a 3; have f1 := frozen_of HB.out.b 0; have f2 := frozen_of HB.out.b 1; have f3 := frozen_of HB.out.b 2; have f4 := frozen_of HB.out.b 3; obtain ⟨h0, h1, h2, h3⟩ := cells4 HB.out.b) | (go_at_call 25; refine (rConf_any ⟨_, _, _, _⟩ _).mono ?_; rintro e wq ⟨rfl, hb⟩; (first | rw [hr]); have HB := Lib.hid (HB.out.on hb); clear hb; obtain ⟨d0, d1, d2, d3⟩ := cells4 HB.out.a; have k0 := frozen_of HB.out.a 0; have k1 := frozen_of HB.out.a 1; have k2 := frozen_of HB.out.a 2; have k3 := frozen_of HB.out.a 3; have f1 := frozen_of HB.out.b 0; have f2 := frozen_of HB.out.b 1; have f3 := frozen_of HB.out.b 2; have f4 := frozen_of HB.out.b 3; obtain ⟨h0, h1, h2, h3⟩ := cells4 HB.out.b))
  (try simp only [Exit.inBlock, Exit.then])
  refine bodyPost_ret (v := .tuple #[.agg #[.int .i64 f, .int .i64 (wt + p), .int .i64 l, .int .i64 (x - p)], .int .i64 0]) ?_ rfl ⟨ret_val (rfl : _ = _).symm, by repeat' (with_reducible first | refine Below.setCell ?_ (by dsimp only; omega) _ | exact HB.out.beh.below)⟩
  rw [results_cell_tmp rfl]
  go_simp
theorem rPromote_any (c : C) (i : Int) (w : World) :
    Calls Try.prog 12 #[c.val, .int .i64 i] w fun e w' => e = .returned (pairV (stepM c i promN)) ∧ Below w.heap.size w w' := by
  cases hr : c.right
  · exact rPromote_not c i w hr
  · cases hi : isN i
    · exact rPromote_node c i w hr hi
    · have hk := kd_lt c i.toNat
      obtain e | e | e | e | e : c.kd i.toNat = 0 ∨ c.kd i.toNat = 1 ∨ c.kd i.toNat = 2 ∨ c.kd i.toNat = 3 ∨ c.kd i.toNat = 4 := by omega
      · exact rPromote_k0 c i w hr hi e
      · exact rPromote_k1 c i w hr hi e
      · exact rPromote_k2 c i w hr hi e
      · exact rPromote_k3 c i w hr hi e
      · exact rPromote_k4 c i w hr hi e

set_option maxHeartbeats 800000 in
theorem rRemove_not (c : C) (i : Int) (w : World) (hr : c.right = false) :
    Calls Try.prog 14 #[c.val, .int .i64 i] w fun e w' => e = .returned (pairV (stepM c i remN)) ∧ Below w.heap.size w w' := by
  have HS : pairV (stepM c i remN) = .tuple #[.agg #[.int .i64 0, .int .i64 0, .int .i64 0, .int .i64 0], .int .i64 14] := by unfold stepM; rw [hr]; rfl
  rw [HS]
  clear HS
  obtain ⟨f, wt, l, x⟩ := c
  have HB := Lib.hid (Two.start w (.cells #[.int .i64 f, .int .i64 wt, .int .i64 l, .int .i64 x] 23) (.cells #[.int .i64 0, .int .i64 0, .int .i64 0, .int .i64 0] 23))
  go_enter Try.func14, Try.ntmps14
  go_wp2_with (first | (go_at_call 25; refine (rConf_any ⟨_, _, _, _⟩ _).mono ?_; rintro e wq ⟨rfl, hb⟩; (first | rw [hr]); have HB := Lib.hid (HB.out.on hb); clear hb; obtain ⟨d0, d1, d2, d3⟩ := cells4 HB.out.a; have k0 := frozen_of HB.out.a 0; have k1 := frozen_of HB.out.a 1; have k2 := frozen_of HB.out.a 2; have k3 := frozen_of HB.out.a 3; have f1 := frozen_of HB.out.b 0; have f2 := frozen_of HB.out.b 1; have f3 := frozen_of HB.out.b 2; have f4 := frozen_of HB.out.b 3; obtain ⟨h0, h1, h2, h3⟩ := cells4 HB.out.b))
  (try simp only [Exit.inBlock, Exit.then])
  refine bodyPost_ret (v := .tuple #[.agg #[.int .i64 0, .int .i64 0, .int .i64 0, .int .i64 0], .int .i64 14]) ?_ rfl ⟨ret_val (rfl : _ = _).symm, by repeat' (with_reducible first | refine Below.setCell ?_ (by dsimp only; omega) _ | exact HB.out.beh.below)⟩
  rw [results_cell_tmp rfl]
  go_simp
set_option maxHeartbeats 800000 in
theorem rRemove_node (c : C) (i : Int) (w : World) (hr : c.right = true) (hi : isN i = false) :
    Calls Try.prog 14 #[c.val, .int .i64 i] w fun e w' => e = .returned (pairV (stepM c i remN)) ∧ Below w.heap.size w w' := by
  have HS : pairV (stepM c i remN) = .tuple #[.agg #[.int .i64 0, .int .i64 0, .int .i64 0, .int .i64 0], .int .i64 1] := by unfold stepM; rw [hr, hi]; rfl
  rw [HS]
  clear HS
  obtain ⟨f, wt, l, x⟩ := c
  have HB := Lib.hid (Two.start w (.cells #[.int .i64 f, .int .i64 wt, .int .i64 l, .int .i64 x] 23) (.cells #[.int .i64 0, .int .i64 0, .int .i64 0, .int .i64 0] 23))
  go_enter Try.func14, Try.ntmps14
  go_wp2_with (first | (go_at_call 26; refine (rNode_any _ _).mono ?_; rintro e wq ⟨rfl, rfl⟩; rw [hi]) | (go_at_call 25; refine (rConf_any ⟨_, _, _, _⟩ _).mono ?_; rintro e wq ⟨rfl, hb⟩; (first | rw [hr]); have HB := Lib.hid (HB.out.on hb); clear hb; obtain ⟨d0, d1, d2, d3⟩ := cells4 HB.out.a; have k0 := frozen_of HB.out.a 0; have k1 := frozen_of HB.out.a 1; have k2 := frozen_of HB.out.a 2; have k3 := frozen_of HB.out.a 3; have f1 := frozen_of HB.out.b 0; have f2 := frozen_of HB.out.b 1; have f3 := frozen_of HB.out.b 2; have f4 := frozen_of HB.out.b 3; obtain ⟨h0, h1, h2, h3⟩ := cells4 HB.out.b))
  (try simp only [Exit.inBlock, Exit.then])
  refine bodyPost_ret (v := .tuple #[.agg #[.int .i64 0, .int .i64 0, .int .i64 0, .int .i64 0], .int .i64 1]) ?_ rfl ⟨ret_val (rfl : _ = _).symm, by repeat' (with_reducible first | refine Below.setCell ?_ (by dsimp only; omega) _ | exact HB.out.beh.below)⟩
  rw [results_cell_tmp rfl]
  go_simp
set_option maxHeartbeats 800000 in
theorem rRemove_k0 (c : C) (i : Int) (w : World) (hr : c.right = true) (hi : isN i = true) (hk : c.kd i.toNat = 0) :
    Calls Try.prog 14 #[c.val, .int .i64 i] w fun e w' => e = .returned (pairV (stepM c i remN)) ∧ Below w.heap.size w w' := by
  obtain ⟨i1, i2⟩ := isN_iff.1 hi
  have hkn : kname (c.kind i) = ⟨#[]⟩ := by unfold C.kind; rw [if_pos ⟨i1, i2⟩, hk]; rfl
  have HS : pairV (stepM c i remN) = .tuple #[.agg #[.int .i64 0, .int .i64 0, .int .i64 0, .int .i64 0], .int .i64 14] := by unfold stepM; rw [hr, hi, hk]; rfl
  rw [HS]
  clear HS
  obtain ⟨f, wt, l, x⟩ := c
  have HB := Lib.hid (Two.start w (.cells #[.int .i64 f, .int .i64 wt, .int .i64 l, .int .i64 x] 23) (.cells #[.int .i64 0, .int .i64 0, .int .i64 0, .int .i64 0] 23))
  go_enter Try.func14, Try.ntmps14
  go_wp2_with (first | (go_at_call 26; refine (rNode_any _ _).mono ?_; rintro e wq ⟨rfl, rfl⟩; rw [hi]) | (go_at_call 27; refine (rKind_any ⟨_, _, _, _⟩ _ _).mono ?_; rintro e wq ⟨rfl, hb⟩; rw [hkn]; have HB := Lib.hid (HB.out.on hb); clear hb; obtain ⟨d0, d1, d2, d3⟩ := cells4 HB.out.a; have k0 := frozen_of HB.out.a 0; have k1 := frozen_of HB.out.a 1; have k2 := frozen_of HB.out.a 2; have k3 := frozen_of HB.out.a 3; have f1 := frozen_of HB.out.b 0; have f2 := frozen_of HB.out.b 1; have f3 := frozen_of HB.out.b 2; have f4 := frozen_of HB.out.b 3; obtain ⟨h0, h1, h2, h3⟩ := cells4 HB.out.b) | (go_at_call 25; refine (rConf_any ⟨_, _, _, _⟩ _).mono ?_; rintro e wq ⟨rfl, hb⟩; (first | rw [hr]); have HB := Lib.hid (HB.out.on hb); clear hb; obtain ⟨d0, d1, d2, d3⟩ := cells4 HB.out.a; have k0 := frozen_of HB.out.a 0; have k1 := frozen_of HB.out.a 1; have k2 := frozen_of HB.out.a 2; have k3 := frozen_of HB.out.a 3; have f1 := frozen_of HB.out.b 0; have f2 := frozen_of HB.out.b 1; have f3 := frozen_of HB.out.b 2; have f4 := frozen_of HB.out.b 3; obtain ⟨h0, h1, h2, h3⟩ := cells4 HB.out.b))
  (try simp only [Exit.inBlock, Exit.then])
  refine bodyPost_ret (v := .tuple #[.agg #[.int .i64 0, .int .i64 0, .int .i64 0, .int .i64 0], .int .i64 14]) ?_ rfl ⟨ret_val (rfl : _ = _).symm, by repeat' (with_reducible first | refine Below.setCell ?_ (by dsimp only; omega) _ | exact HB.out.beh.below)⟩
  rw [results_cell_tmp rfl]
  go_simp
set_option maxHeartbeats 1600000 in
theorem rRemove_k1 (c : C) (i : Int) (w : World) (hr : c.right = true) (hi : isN i = true) (hk : c.kd i.toNat = 1) :
    Calls Try.prog 14 #[c.val, .int .i64 i] w fun e w' => e = .returned (pairV (stepM c i remN)) ∧ Below w.heap.size w w' := by
  obtain ⟨i1, i2⟩ := isN_iff.1 hi
  have hkn : kname (c.kind i) = ⟨#[102, 117, 108, 108]⟩ := by unfold C.kind; rw [if_pos ⟨i1, i2⟩, hk]; rfl
  have HSS : stepM c i remN = if (wth c i.toNat 0).right then (wth c i.toNat 0, 0) else (C.zero, 14) := by unfold stepM; rw [hr, hi, hk]; rfl
  have hS := wrap_pw i1 i2
  have HW : wth c i.toNat 0 = ⟨bits .andNot .i64 c.f (pw i.toNat), bits .andNot .i64 c.w (pw i.toNat), bits .andNot .i64 c.l (pw i.toNat), bits .andNot .i64 c.x (pw i.toNat)⟩ := rfl
  rw [HSS]
  rw [HW]
  clear HSS HW hk
  generalize pw i.toNat = p at *
  obtain ⟨f, wt, l, x⟩ := c
  simp only at *
  obtain ⟨xf, hxf⟩ : ∃ z, z = bits .andNot .i64 f p := ⟨_, rfl⟩
  obtain ⟨xw, hxw⟩ : ∃ z, z = bits .andNot .i64 wt p := ⟨_, rfl⟩
  obtain ⟨xl, hxl⟩ : ∃ z, z = bits .andNot .i64 l p := ⟨_, rfl⟩
  obtain ⟨xx, hxx⟩ : ∃ z, z = bits .andNot .i64 x p := ⟨_, rfl⟩
  have g1 := hxf.symm
  have g2 := hxw.symm
  have g3 := hxl.symm
  have g4 := hxx.symm
  rw [g1, g2, g3, g4]
  clear hxf hxw hxl hxx
  have HB := Lib.hid (Two.start w (.cells #[.int .i64 f, .int .i64 wt, .int .i64 l, .int .i64 x] 23) (.cells #[.int .i64 0, .int .i64 0, .int .i64 0, .int .i64 0] 23))
  cases hm : (C.mk xf xw xl xx).right
  · go_enter Try.func14, Try.ntmps14
    go_wp2_with (first | (go_at_call 26; refine (rNode_any _ _).mono ?_; rintro e wq ⟨rfl, rfl⟩; rw [hi]) | (go_at_call 27; refine (rKind_any ⟨_, _, _, _⟩ _ _).mono ?_; rintro e wq ⟨rfl, hb⟩; rw [hkn]; have HB := Lib.hid (HB.out.on hb); clear hb; obtain ⟨d0, d1, d2, d3⟩ := cells4 HB.out.a; have k0 := frozen_of HB.out.a 0; have k1 := frozen_of HB.out.a 1; have k2 := frozen_of HB.out.a 2; have k3 := frozen_of HB.out.a 3; have f1 := frozen_of HB.out.b 0; have f2 := frozen_of HB.out.b 1; have f3 := frozen_of HB.out.b 2; have f4 := frozen_of HB.out.b 3; obtain ⟨h0, h1, h2, h3⟩ := cells4 HB.out.b) | (go_at_call 25; refine (rConf_any ⟨_, _, _, _⟩ _).mono ?_; rintro e wq ⟨rfl, hb⟩; rw [hr]; have HB := Lib.hid (HB.out.on hb); clear hb; obtain ⟨d0, d1, d2, d3⟩ := cells4 HB.out.a; have k0 := frozen_of HB.out.a 0; have k1 := frozen_of HB.out.a 1; have k2 := frozen_of HB.out.a 2; have k3 := frozen_of HB.out.a 3; have f1 := frozen_of HB.out.b 0; have f2 := frozen_of HB.out.b 1; have f3 := frozen_of HB.out.b 2; have f4 := frozen_of HB.out.b 3; obtain ⟨h0, h1, h2, h3⟩ := cells4 HB.out.b))
    have HM := Lib.hid (alloc_here (w := wq) (n := wq.heap.size) (.cells #[.int .i64 xf, .int .i64 xw, .int .i64 xl, .int .i64 xx] 23) rfl)
    have HB := Lib.hid (HB.out.alloc (.cells #[.int .i64 xf, .int .i64 xw, .int .i64 xl, .int .i64 xx] 23))
    refine (rConf_any ⟨xf, xw, xl, xx⟩ _).mono ?_
    rintro e wz ⟨rfl, hb⟩
    rw [hm]
    have HM := Lib.hid (box_on HM.out hb)
    obtain ⟨m0, m1, m2, m3⟩ := cells4 HM.out
    have HB := Lib.hid (HB.out.on hb); clear hb; obtain ⟨d0, d1, d2, d3⟩ := cells4 HB.out.a; have k0 := frozen_of HB.out.a 0; have k1 := frozen_of HB.out.a 1; have k2 := frozen_of HB.out.a 2; have k3 := frozen_of HB.out.a 3; have f1 := frozen_of HB.out.b 0; have f2 := frozen_of HB.out.b 1; have f3 := frozen_of HB.out.b 2; have f4 := frozen_of HB.out.b 3; obtain ⟨h0, h1, h2, h3⟩ := cells4 HB.out.b
    go_wp2_with fail
    (try simp only [Exit.inBlock, Exit.then])
    refine bodyPost_ret (v := .tuple #[.agg #[.int .i64 0, .int .i64 0, .int .i64 0, .int .i64 0], .int .i64 14]) ?_ rfl ⟨ret_val (rfl : _ = _).symm, by repeat' (with_reducible first | refine Below.setCell ?_ (by dsimp only; omega) _ | exact HB.out.beh.below)⟩
    rw [results_cell_tmp rfl]
    go_simp
  · go_enter Try.func14, Try.ntmps14
    go_wp2_with (first | (go_at_call 26; refine (rNode_any _ _).mono ?_; rintro e wq ⟨rfl, rfl⟩; rw [hi]) | (go_at_call 27; refine (rKind_any ⟨_, _, _, _⟩ _ _).mono ?_; rintro e wq ⟨rfl, hb⟩; rw [hkn]; have HB := Lib.hid (HB.out.on hb); clear hb; obtain ⟨d0, d1, d2, d3⟩ := cells4 HB.out.a; have k0 := frozen_of HB.out.a 0; have k1 := frozen_of HB.out.a 1; have k2 := frozen_of HB.out.a 2; have k3 := frozen_of HB.out.a 3; have f1 := frozen_of HB.out.b 0; have f2 := frozen_of HB.out.b 1; have f3 := frozen_of HB.out.b 2; have f4 := frozen_of HB.out.b 3; obtain ⟨h0, h1, h2, h3⟩ := cells4 HB.out.b) | (go_at_call 25; refine (rConf_any ⟨_, _, _, _⟩ _).mono ?_; rintro e wq ⟨rfl, hb⟩; rw [hr]; have HB := Lib.hid (HB.out.on hb); clear hb; obtain ⟨d0, d1, d2, d3⟩ := cells4 HB.out.a; have k0 := frozen_of HB.out.a 0; have k1 := frozen_of HB.out.a 1; have k2 := frozen_of HB.out.a 2; have k3 := frozen_of HB.out.a 3; have f1 := frozen_of HB.out.b 0; have f2 := frozen_of HB.out.b 1; have f3 := frozen_of HB.out.b 2; have f4 := frozen_of HB.out.b 3; obtain ⟨h0, h1, h2, h3⟩ := cells4 HB.out.b))
    have HM := Lib.hid (alloc_here (w := wq) (n := wq.heap.size) (.cells #[.int .i64 xf, .int .i64 xw, .int .i64 xl, .int .i64 xx] 23) rfl)
    have HB := Lib.hid (HB.out.alloc (.cells #[.int .i64 xf, .int .i64 xw, .int .i64 xl, .int .i64 xx] 23))
    refine (rConf_any ⟨xf, xw, xl, xx⟩ _).mono ?_
    rintro e wz ⟨rfl, hb⟩
    rw [hm]
    have HM := Lib.hid (box_on HM.out hb)
    obtain ⟨m0, m1, m2, m3⟩ := cells4 HM.out
    have HB := Lib.hid (HB.out.on hb); clear hb; obtain ⟨d0, d1, d2, d3⟩ := cells4 HB.out.a; have k0 := frozen_of HB.out.a 0; have k1 := frozen_of HB.out.a 1; have k2 := frozen_of HB.out.a 2; have k3 := frozen_of HB.out.a 3; have f1 := frozen_of HB.out.b 0; have f2 := frozen_of HB.out.b 1; have f3 := frozen_of HB.out.b 2; have f4 := frozen_of HB.out.b 3; obtain ⟨h0, h1, h2, h3⟩ := cells4 HB.out.b
    go_wp2_with fail
    (try simp only [Exit.inBlock, Exit.then])
    refine bodyPost_ret (v := .tuple #[.agg #[.int .i64 xf, .int .i64 xw, .int .i64 xl, .int .i64 xx], .int .i64 0]) ?_ rfl ⟨ret_val (rfl : _ = _).symm, by repeat' (with_reducible first | refine Below.setCell ?_ (by dsimp only; omega) _ | exact HB.out.beh.below)⟩
    rw [results_cell_tmp rfl]
    go_simp
set_option maxHeartbeats 1600000 in
theorem rRemove_k2 (c : C) (i : Int) (w : World) (hr : c.right = true) (hi : isN i = true) (hk : c.kd i.toNat = 2) :
    Calls Try.prog 14 #[c.val, .int .i64 i] w fun e w' => e = .returned (pairV (stepM c i remN)) ∧ Below w.heap.size w w' := by
  obtain ⟨i1, i2⟩ := isN_iff.1 hi
  have hkn : kname (c.kind i) = ⟨#[119, 105, 116]⟩ := by unfold C.kind; rw [if_pos ⟨i1, i2⟩, hk]; rfl
  have HSS : stepM c i remN = if (wth c i.toNat 0).right then (wth c i.toNat 0, 0) else (C.zero, 14) := by unfold stepM; rw [hr, hi, hk]; rfl
  have hS := wrap_pw i1 i2
  have HW : wth c i.toNat 0 = ⟨bits .andNot .i64 c.f (pw i.toNat), bits .andNot .i64 c.w (pw i.toNat), bits .andNot .i64 c.l (pw i.toNat), bits .andNot .i64 c.x (pw i.toNat)⟩ := rfl
  rw [HSS]
  rw [HW]
  clear HSS HW hk
  generalize pw i.toNat = p at *
  obtain ⟨f, wt, l, x⟩ := c
  simp only at *
  obtain ⟨xf, hxf⟩ : ∃ z, z = bits .andNot .i64 f p := ⟨_, rfl⟩
  obtain ⟨xw, hxw⟩ : ∃ z, z = bits .andNot .i64 wt p := ⟨_, rfl⟩
  obtain ⟨xl, hxl⟩ : ∃ z, z = bits .andNot .i64 l p := ⟨_, rfl⟩
  obtain ⟨xx, hxx⟩ : ∃ z, z = bits .andNot .i64 x p := ⟨_, rfl⟩
  have g1 := hxf.symm
  have g2 := hxw.symm
  have g3 := hxl.symm
  have g4 := hxx.symm
  rw [g1, g2, g3, g4]
  clear hxf hxw hxl hxx
  have HB := Lib.hid (Two.start w (.cells #[.int .i64 f, .int .i64 wt, .int .i64 l, .int .i64 x] 23) (.cells #[.int .i64 0, .int .i64 0, .int .i64 0, .int .i64 0] 23))
  cases hm : (C.mk xf xw xl xx).right
  · go_enter Try.func14, Try.ntmps14
    go_wp2_with (first | (go_at_call 26; refine (rNode_any _ _).mono ?_; rintro e wq ⟨rfl, rfl⟩; rw [hi]) | (go_at_call 27; refine (rKind_any ⟨_, _, _, _⟩ _ _).mono ?_; rintro e wq ⟨rfl, hb⟩; rw [hkn]; have HB := Lib.hid (HB.out.on hb); clear hb; obtain ⟨d0, d1, d2, d3⟩ := cells4 HB.out.a; have k0 := frozen_of HB.out.a 0; have k1 := frozen_of HB.out.a 1; have k2 := frozen_of HB.out.a 2; have k3 := frozen_of HB.out.a 3; have f1 := frozen_of HB.out.b 0; have f2 := frozen_of HB.out.b 1; have f3 := frozen_of HB.out.b 2; have f4 := frozen_of HB.out.b 3; obtain ⟨h0, h1, h2, h3⟩ := cells4 HB.out.b) | (go_at_call 25; refine (rConf_any ⟨_, _, _, _⟩ _).mono ?_; rintro e wq ⟨rfl, hb⟩; rw [hr]; have HB := Lib.hid (HB.out.on hb); clear hb; obtain ⟨d0, d1, d2, d3⟩ := cells4 HB.out.a; have k0 := frozen_of HB.out.a 0; have k1 := frozen_of HB.out.a 1; have k2 := frozen_of HB.out.a 2; have k3 := frozen_of HB.out.a 3; have f1 := frozen_of HB.out.b 0; have f2 := frozen_of HB.out.b 1; have f3 := frozen_of HB.out.b 2; have f4 := frozen_of HB.out.b 3; obtain ⟨h0, h1, h2, h3⟩ := cells4 HB.out.b))
    have HM := Lib.hid (alloc_here (w := wq) (n := wq.heap.size) (.cells #[.int .i64 xf, .int .i64 xw, .int .i64 xl, .int .i64 xx] 23) rfl)
    have HB := Lib.hid (HB.out.alloc (.cells #[.int .i64 xf, .int .i64 xw, .int .i64 xl, .int .i64 xx] 23))
    refine (rConf_any ⟨xf, xw, xl, xx⟩ _).mono ?_
    rintro e wz ⟨rfl, hb⟩
    rw [hm]
    have HM := Lib.hid (box_on HM.out hb)
    obtain ⟨m0, m1, m2, m3⟩ := cells4 HM.out
    have HB := Lib.hid (HB.out.on hb); clear hb; obtain ⟨d0, d1, d2, d3⟩ := cells4 HB.out.a; have k0 := frozen_of HB.out.a 0; have k1 := frozen_of HB.out.a 1; have k2 := frozen_of HB.out.a 2; have k3 := frozen_of HB.out.a 3; have f1 := frozen_of HB.out.b 0; have f2 := frozen_of HB.out.b 1; have f3 := frozen_of HB.out.b 2; have f4 := frozen_of HB.out.b 3; obtain ⟨h0, h1, h2, h3⟩ := cells4 HB.out.b
    go_wp2_with fail
    (try simp only [Exit.inBlock, Exit.then])
    refine bodyPost_ret (v := .tuple #[.agg #[.int .i64 0, .int .i64 0, .int .i64 0, .int .i64 0], .int .i64 14]) ?_ rfl ⟨ret_val (rfl : _ = _).symm, by repeat' (with_reducible first | refine Below.setCell ?_ (by dsimp only; omega) _ | exact HB.out.beh.below)⟩
    rw [results_cell_tmp rfl]
    go_simp
  · go_enter Try.func14, Try.ntmps14
    go_wp2_with (first | (go_at_call 26; refine (rNode_any _ _).mono ?_; rintro e wq ⟨rfl, rfl⟩; rw [hi]) | (go_at_call 27; refine (rKind_any ⟨_, _, _, _⟩ _ _).mono ?_; rintro e wq ⟨rfl, hb⟩; rw [hkn]; have HB := Lib.hid (HB.out.on hb); clear hb; obtain ⟨d0, d1, d2, d3⟩ := cells4 HB.out.a; have k0 := frozen_of HB.out.a 0; have k1 := frozen_of HB.out.a 1; have k2 := frozen_of HB.out.a 2; have k3 := frozen_of HB.out.a 3; have f1 := frozen_of HB.out.b 0; have f2 := frozen_of HB.out.b 1; have f3 := frozen_of HB.out.b 2; have f4 := frozen_of HB.out.b 3; obtain ⟨h0, h1, h2, h3⟩ := cells4 HB.out.b) | (go_at_call 25; refine (rConf_any ⟨_, _, _, _⟩ _).mono ?_; rintro e wq ⟨rfl, hb⟩; rw [hr]; have HB := Lib.hid (HB.out.on hb); clear hb; obtain ⟨d0, d1, d2, d3⟩ := cells4 HB.out.a; have k0 := frozen_of HB.out.a 0; have k1 := frozen_of HB.out.a 1; have k2 := frozen_of HB.out.a 2; have k3 := frozen_of HB.out.a 3; have f1 := frozen_of HB.out.b 0; have f2 := frozen_of HB.out.b 1; have f3 := frozen_of HB.out.b 2; have f4 := frozen_of HB.out.b 3; obtain ⟨h0, h1, h2, h3⟩ := cells4 HB.out.b))
    have HM := Lib.hid (alloc_here (w := wq) (n := wq.heap.size) (.cells #[.int .i64 xf, .int .i64 xw, .int .i64 xl, .int .i64 xx] 23) rfl)
    have HB := Lib.hid (HB.out.alloc (.cells #[.int .i64 xf, .int .i64 xw, .int .i64 xl, .int .i64 xx] 23))
    refine (rConf_any ⟨xf, xw, xl, xx⟩ _).mono ?_
    rintro e wz ⟨rfl, hb⟩
    rw [hm]
    have HM := Lib.hid (box_on HM.out hb)
    obtain ⟨m0, m1, m2, m3⟩ := cells4 HM.out
    have HB := Lib.hid (HB.out.on hb); clear hb; obtain ⟨d0, d1, d2, d3⟩ := cells4 HB.out.a; have k0 := frozen_of HB.out.a 0; have k1 := frozen_of HB.out.a 1; have k2 := frozen_of HB.out.a 2; have k3 := frozen_of HB.out.a 3; have f1 := frozen_of HB.out.b 0; have f2 := frozen_of HB.out.b 1; have f3 := frozen_of HB.out.b 2; have f4 := frozen_of HB.out.b 3; obtain ⟨h0, h1, h2, h3⟩ := cells4 HB.out.b
    go_wp2_with fail
    (try simp only [Exit.inBlock, Exit.then])
    refine bodyPost_ret (v := .tuple #[.agg #[.int .i64 xf, .int .i64 xw, .int .i64 xl, .int .i64 xx], .int .i64 0]) ?_ rfl ⟨ret_val (rfl : _ = _).symm, by repeat' (with_reducible first | refine Below.setCell ?_ (by dsimp only; omega) _ | exact HB.out.beh.below)⟩
    rw [results_cell_tmp rfl]
    go_simp
set_option maxHeartbeats 1600000 in
theorem rRemove_k3 (c : C) (i : Int) (w : World) (hr : c.right = true) (hi : isN i = true) (hk : c.kd i.toNat = 3) :
    Calls Try.prog 14 #[c.val, .int .i64 i] w fun e w' => e = .returned (pairV (stepM c i remN)) ∧ Below w.heap.size w w' := by
  obtain ⟨i1, i2⟩ := isN_iff.1 hi
  have hkn : kname (c.kind i) = ⟨#[108, 101, 97, 114, 110]⟩ := by unfold C.kind; rw [if_pos ⟨i1, i2⟩, hk]; rfl
  have HSS : stepM c i remN = if (wth c i.toNat 0).right then (wth c i.toNat 0, 0) else (C.zero, 14) := by unfold stepM; rw [hr, hi, hk]; rfl
  have hS := wrap_pw i1 i2
  have HW : wth c i.toNat 0 = ⟨bits .andNot .i64 c.f (pw i.toNat), bits .andNot .i64 c.w (pw i.toNat), bits .andNot .i64 c.l (pw i.toNat), bits .andNot .i64 c.x (pw i.toNat)⟩ := rfl
  rw [HSS]
  rw [HW]
  clear HSS HW hk
  generalize pw i.toNat = p at *
  obtain ⟨f, wt, l, x⟩ := c
  simp only at *
  obtain ⟨xf, hxf⟩ : ∃ z, z = bits .andNot .i64 f p := ⟨_, rfl⟩
  obtain ⟨xw, hxw⟩ : ∃ z, z = bits .andNot .i64 wt p := ⟨_, rfl⟩
  obtain ⟨xl, hxl⟩ : ∃ z, z = bits .andNot .i64 l p := ⟨_, rfl⟩
  obtain ⟨xx, hxx⟩ : ∃ z, z = bits .andNot .i64 x p := ⟨_, rfl⟩
  have g1 := hxf.symm
  have g2 := hxw.symm
  have g3 := hxl.symm
  have g4 := hxx.symm
  rw [g1, g2, g3, g4]
  clear hxf hxw hxl hxx
  have HB := Lib.hid (Two.start w (.cells #[.int .i64 f, .int .i64 wt, .int .i64 l, .int .i64 x] 23) (.cells #[.int .i64 0, .int .i64 0, .int .i64 0, .int .i64 0] 23))
  cases hm : (C.mk xf xw xl xx).right
  · go_enter Try.func14, Try.ntmps14
    go_wp2_with (first | (go_at_call 26; refine (rNode_any _ _).mono ?_; rintro e wq ⟨rfl, rfl⟩; rw [hi]) | (go_at_call 27; refine (rKind_any ⟨_, _, _, _⟩ _ _).mono ?_; rintro e wq ⟨rfl, hb⟩; rw [hkn]; have HB := Lib.hid (HB.out.on hb); clear hb; obtain ⟨d0, d1, d2, d3⟩ := cells4 HB.out.a; have k0 := frozen_of HB.out.a 0; have k1 := frozen_of HB.out.a 1; have k2 := frozen_of HB.out.a 2; have k3 := frozen_of HB.out.a 3; have f1 := frozen_of HB.out.b 0; have f2 := frozen_of HB.out.b 1; have f3 := frozen_of HB.out.b 2; have f4 := frozen_of HB.out.b 3; obtain ⟨h0, h1, h2, h3⟩ := cells4 HB.out.b) | (go_at_call 25; refine (rConf_any ⟨_, _, _, _⟩ _).mono ?_; rintro e wq ⟨rfl, hb⟩; rw [hr]; have HB := Lib.hid (HB.out.on hb); clear hb; obtain ⟨d0, d1, d2, d3⟩ := cells4 HB.out.a; have k0 := frozen_of HB.out.a 0; have k1 := frozen_of HB.out.a 1; have k2 := frozen_of HB.out.a 2; have k3 := frozen_of HB.out.a 3; have f1 := frozen_of HB.out.b 0; have f2 := frozen_of HB.out.b 1; have f3 := frozen_of HB.out.b 2; have f4 := frozen_of HB.out.b 3; obtain ⟨h0, h1, h2, h3⟩ := cells4 HB.out.b))
    have HM := Lib.hid (alloc_here (w := wq) (n := wq.heap.size) (.cells #[.int .i64 xf, .int .i64 xw, .int .i64 xl, .int .i64 xx] 23) rfl)
    have HB := Lib.hid (HB.out.alloc (.cells #[.int .i64 xf, .int .i64 xw, .int .i64 xl, .int .i64 xx] 23))
    refine (rConf_any ⟨xf, xw, xl, xx⟩ _).mono ?_
    rintro e wz ⟨rfl, hb⟩
    rw [hm]
    have HM := Lib.hid (box_on HM.out hb)
    obtain ⟨m0, m1, m2, m3⟩ := cells4 HM.out
    have HB := Lib.hid (HB.out.on hb); clear hb; obtain ⟨d0, d1, d2, d3⟩ := cells4 HB.out.a; have k0 := frozen_of HB.out.a 0; have k1 := frozen_of HB.out.a 1; have k2 := frozen_of HB.out.a 2; have k3 := frozen_of HB.out.a 3; have f1 := frozen_of HB.out.b 0; have f2 := frozen_of HB.out.b 1; have f3 := frozen_of HB.out.b 2; have f4 := frozen_of HB.out.b 3; obtain ⟨h0, h1, h2, h3⟩ := cells4 HB.out.b
    go_wp2_with fail
    (try simp only [Exit.inBlock, Exit.then])
    refine bodyPost_ret (v := .tuple #[.agg #[.int .i64 0, .int .i64 0, .int .i64 0, .int .i64 0], .int .i64 14]) ?_ rfl ⟨ret_val (rfl : _ = _).symm, by repeat' (with_reducible first | refine Below.setCell ?_ (by dsimp only; omega) _ | exact HB.out.beh.below)⟩
    rw [results_cell_tmp rfl]
    go_simp
  · go_enter Try.func14, Try.ntmps14
    go_wp2_with (first | (go_at_call 26; refine (rNode_any _ _).mono ?_; rintro e wq ⟨rfl, rfl⟩; rw [hi]) | (go_at_call 27; refine (rKind_any ⟨_, _, _, _⟩ _ _).mono ?_; rintro e wq ⟨rfl, hb⟩; rw [hkn]; have HB := Lib.hid (HB.out.on hb); clear hb; obtain ⟨d0, d1, d2, d3⟩ := cells4 HB.out.a; have k0 := frozen_of HB.out.a 0; have k1 := frozen_of HB.out.a 1; have k2 := frozen_of HB.out.a 2; have k3 := frozen_of HB.out.a 3; have f1 := frozen_of HB.out.b 0; have f2 := frozen_of HB.out.b 1; have f3 := frozen_of HB.out.b 2; have f4 := frozen_of HB.out.b 3; obtain ⟨h0, h1, h2, h3⟩ := cells4 HB.out.b) | (go_at_call 25; refine (rConf_any ⟨_, _, _, _⟩ _).mono ?_; rintro e wq ⟨rfl, hb⟩; rw [hr]; have HB := Lib.hid (HB.out.on hb); clear hb; obtain ⟨d0, d1, d2, d3⟩ := cells4 HB.out.a; have k0 := frozen_of HB.out.a 0; have k1 := frozen_of HB.out.a 1; have k2 := frozen_of HB.out.a 2; have k3 := frozen_of HB.out.a 3; have f1 := frozen_of HB.out.b 0; have f2 := frozen_of HB.out.b 1; have f3 := frozen_of HB.out.b 2; have f4 := frozen_of HB.out.b 3; obtain ⟨h0, h1, h2, h3⟩ := cells4 HB.out.b))
    have HM := Lib.hid (alloc_here (w := wq) (n := wq.heap.size) (.cells #[.int .i64 xf, .int .i64 xw, .int .i64 xl, .int .i64 xx] 23) rfl)
    have HB := Lib.hid (HB.out.alloc (.cells #[.int .i64 xf, .int .i64 xw, .int .i64 xl, .int .i64 xx] 23))
    refine (rConf_any ⟨xf, xw, xl, xx⟩ _).mono ?_
    rintro e wz ⟨rfl, hb⟩
    rw [hm]
    have HM := Lib.hid (box_on HM.out hb)
    obtain ⟨m0, m1, m2, m3⟩ := cells4 HM.out
    have HB := Lib.hid (HB.out.on hb); clear hb; obtain ⟨d0, d1, d2, d3⟩ := cells4 HB.out.a; have k0 := frozen_of HB.out.a 0; have k1 := frozen_of HB.out.a 1; have k2 := frozen_of HB.out.a 2; have k3 := frozen_of HB.out.a 3; have f1 := frozen_of HB.out.b 0; have f2 := frozen_of HB.out.b 1; have f3 := frozen_of HB.out.b 2; have f4 := frozen_of HB.out.b 3; obtain ⟨h0, h1, h2, h3⟩ := cells4 HB.out.b
    go_wp2_with fail
    (try simp only [Exit.inBlock, Exit.then])
    refine bodyPost_ret (v := .tuple #[.agg #[.int .i64 xf, .int .i64 xw, .int .i64 xl, .int .i64 xx], .int .i64 0]) ?_ rfl ⟨ret_val (rfl : _ = _).symm, by repeat' (with_reducible first | refine Below.setCell ?_ (by dsimp only; omega) _ | exact HB.out.beh.below)⟩
    rw [results_cell_tmp rfl]
    go_simp
set_option maxHeartbeats 1600000 in
theorem rRemove_k4 (c : C) (i : Int) (w : World) (hr : c.right = true) (hi : isN i = true) (hk : c.kd i.toNat = 4) :
    Calls Try.prog 14 #[c.val, .int .i64 i] w fun e w' => e = .returned (pairV (stepM c i remN)) ∧ Below w.heap.size w w' := by
  obtain ⟨i1, i2⟩ := isN_iff.1 hi
  have hkn : kname (c.kind i) = ⟨#[108, 101, 97, 114, 110, 119, 105, 116]⟩ := by unfold C.kind; rw [if_pos ⟨i1, i2⟩, hk]; rfl
  have HSS : stepM c i remN = if (wth c i.toNat 0).right then (wth c i.toNat 0, 0) else (C.zero, 14) := by unfold stepM; rw [hr, hi, hk]; rfl
  have hS := wrap_pw i1 i2
  have HW : wth c i.toNat 0 = ⟨bits .andNot .i64 c.f (pw i.toNat), bits .andNot .i64 c.w (pw i.toNat), bits .andNot .i64 c.l (pw i.toNat), bits .andNot .i64 c.x (pw i.toNat)⟩ := rfl
  rw [HSS]
  rw [HW]
  clear HSS HW hk
  generalize pw i.toNat = p at *
  obtain ⟨f, wt, l, x⟩ := c
  simp only at *
  obtain ⟨xf, hxf⟩ : ∃ z, z = bits .andNot .i64 f p := ⟨_, rfl⟩
  obtain ⟨xw, hxw⟩ : ∃ z, z = bits .andNot .i64 wt p := ⟨_, rfl⟩
  obtain ⟨xl, hxl⟩ : ∃ z, z = bits .andNot .i64 l p := ⟨_, rfl⟩
  obtain ⟨xx, hxx⟩ : ∃ z, z = bits .andNot .i64 x p := ⟨_, rfl⟩
  have g1 := hxf.symm
  have g2 := hxw.symm
  have g3 := hxl.symm
  have g4 := hxx.symm
  rw [g1, g2, g3, g4]
  clear hxf hxw hxl hxx
  have HB := Lib.hid (Two.start w (.cells #[.int .i64 f, .int .i64 wt, .int .i64 l, .int .i64 x] 23) (.cells #[.int .i64 0, .int .i64 0, .int .i64 0, .int .i64 0] 23))
  cases hm : (C.mk xf xw xl xx).right
  · go_enter Try.func14, Try.ntmps14
    go_wp2_with (first | (go_at_call 26; refine (rNode_any _ _).mono ?_; rintro e wq ⟨rfl, rfl⟩; rw [hi]) | (go_at_call 27; refine (rKind_any ⟨_, _, _, _⟩ _ _).mono ?_; rintro e wq ⟨rfl, hb⟩; rw [hkn]; have HB := Lib.hid (HB.out.on hb); clear hb; obtain ⟨d0, d1, d2, d3⟩ := cells4 HB.out.a; have k0 := frozen_of HB.out.a 0; have k1 := frozen_of HB.out.a 1; have k2 := frozen_of HB.out.a 2; have k3 := frozen_of HB.out.a 3; have f1 := frozen_of HB.out.b 0; have f2 := frozen_of HB.out.b 1; have f3 := frozen_of HB.out.b 2; have f4 := frozen_of HB.out.b 3; obtain ⟨h0, h1, h2, h3⟩ := cells4 HB.out.b) | (go_at_call 25; refine (rConf_any ⟨_, _, _, _⟩ _).mono ?_; rintro e wq ⟨rfl, hb⟩; rw [hr]; have HB := Lib.hid (HB.out.on hb); clear hb; obtain ⟨d0, d1, d2, d3⟩ := cells4 HB.out.a; have k0 := frozen_of HB.out.a 0; have k1 := frozen_of HB.out.a 1; have k2 := frozen_of HB.out.a 2; have k3 := frozen_of HB.out.a 3; have f1 := frozen_of HB.out.b 0; have f2 := frozen_of HB.out.b 1; have f3 := frozen_of HB.out.b 2; have f4 := frozen_of HB.out.b 3; obtain ⟨h0, h1, h2, h3⟩ := cells4 HB.out.b))
    have HM := Lib.hid (alloc_here (w := wq) (n := wq.heap.size) (.cells #[.int .i64 xf, .int .i64 xw, .int .i64 xl, .int .i64 xx] 23) rfl)
    have HB := Lib.hid (HB.out.alloc (.cells #[.int .i64 xf, .int .i64 xw, .int .i64 xl, .int .i64 xx] 23))
    refine (rConf_any ⟨xf, xw, xl, xx⟩ _).mono ?_
    rintro e wz ⟨rfl, hb⟩
    rw [hm]
    have HM := Lib.hid (box_on HM.out hb)
    obtain ⟨m0, m1, m2, m3⟩ := cells4 HM.out
    have HB := Lib.hid (HB.out.on hb); clear hb; obtain ⟨d0, d1, d2, d3⟩ := cells4 HB.out.a; have k0 := frozen_of HB.out.a 0; have k1 := frozen_of HB.out.a 1; have k2 := frozen_of HB.out.a 2; have k3 := frozen_of HB.out.a 3; have f1 := frozen_of HB.out.b 0; have f2 := frozen_of HB.out.b 1; have f3 := frozen_of HB.out.b 2; have f4 := frozen_of HB.out.b 3; obtain ⟨h0, h1, h2, h3⟩ := cells4 HB.out.b
    go_wp2_with fail
    (try simp only [Exit.inBlock, Exit.then])
    refine bodyPost_ret (v := .tuple #[.agg #[.int .i64 0, .int .i64 0, .int .i64 0, .int .i64 0], .int .i64 14]) ?_ rfl ⟨ret_val (rfl : _ = _).symm, by repeat' (with_reducible first | refine Below.setCell ?_ (by dsimp only; omega) _ | exact HB.out.beh.below)⟩
    rw [results_cell_tmp rfl]
    go_simp
  · go_enter Try.func14, Try.ntmps14
    go_wp2_with (first | (go_at_call 26; refine (rNode_any _ _).mono ?_; rintro e wq ⟨rfl, rfl⟩; rw [hi]) | (go_at_call 27; refine (rKind_any ⟨_, _, _, _⟩ _ _).mono ?_; rintro e wq ⟨rfl, hb⟩; rw [hkn]; have HB := Lib.hid (HB.out.on hb); clear hb; obtain ⟨d0, d1, d2, d3⟩ := cells4 HB.out.a; have k0 := frozen_of HB.out.a 0; have k1 := frozen_of HB.out.a 1; have k2 := frozen_of HB.out.a 2; have k3 := frozen_of HB.out.a 3; have f1 := frozen_of HB.out.b 0; have f2 := frozen_of HB.out.b 1; have f3 := frozen_of HB.out.b 2; have f4 := frozen_of HB.out.b 3; obtain ⟨h0, h1, h2, h3⟩ := cells4 HB.out.b) | (go_at_call 25; refine (rConf_any ⟨_, _, _, _⟩ _).mono ?_; rintro e wq ⟨rfl, hb⟩; rw [hr]; have HB := Lib.hid (HB.out.on hb); clear hb; obtain ⟨d0, d1, d2, d3⟩ := cells4 HB.out.a; have k0 := frozen_of HB.out.a 0; have k1 := frozen_of HB.out.a 1; have k2 := frozen_of HB.out.a 2; have k3 := frozen_of HB.out.a 3; have f1 := frozen_of HB.out.b 0; have f2 := frozen_of HB.out.b 1; have f3 := frozen_of HB.out.b 2; have f4 := frozen_of HB.out.b 3; obtain ⟨h0, h1, h2, h3⟩ := cells4 HB.out.b))
    have HM := Lib.hid (alloc_here (w := wq) (n := wq.heap.size) (.cells #[.int .i64 xf, .int .i64 xw, .int .i64 xl, .int .i64 xx] 23) rfl)
    have HB := Lib.hid (HB.out.alloc (.cells #[.int .i64 xf, .int .i64 xw, .int .i64 xl, .int .i64 xx] 23))
    refine (rConf_any ⟨xf, xw, xl, xx⟩ _).mono ?_
    rintro e wz ⟨rfl, hb⟩
    rw [hm]
    have HM := Lib.hid (box_on HM.out hb)
    obtain ⟨m0, m1, m2, m3⟩ := cells4 HM.out
    have HB := Lib.hid (HB.out.on hb); clear hb; obtain ⟨d0, d1, d2, d3⟩ := cells4 HB.out.a; have k0 := frozen_of HB.out.a 0; have k1 := frozen_of HB.out.a 1; have k2 := frozen_of HB.out.a 2; have k3 := frozen_of HB.out.a 3; have f1 := frozen_of HB.out.b 0; have f2 := frozen_of HB.out.b 1; have f3 := frozen_of HB.out.b 2; have f4 := frozen_of HB.out.b 3; obtain ⟨h0, h1, h2, h3⟩ := cells4 HB.out.b
    go_wp2_with fail
    (try simp only [Exit.inBlock, Exit.then])
    refine bodyPost_ret (v := .tuple #[.agg #[.int .i64 xf, .int .i64 xw, .int .i64 xl, .int .i64 xx], .int .i64 0]) ?_ rfl ⟨ret_val (rfl : _ = _).symm, by repeat' (with_reducible first | refine Below.setCell ?_ (by dsimp only; omega) _ | exact HB.out.beh.below)⟩
    rw [results_cell_tmp rfl]
    go_simp
theorem rRemove_any (c : C) (i : Int) (w : World) :
    Calls Try.prog 14 #[c.val, .int .i64 i] w fun e w' => e = .returned (pairV (stepM c i remN)) ∧ Below w.heap.size w w' := by
  cases hr : c.right
  · exact rRemove_not c i w hr
  · cases hi : isN i
    · exact rRemove_node c i w hr hi
    · have hk := kd_lt c i.toNat
      obtain e | e | e | e | e : c.kd i.toNat = 0 ∨ c.kd i.toNat = 1 ∨ c.kd i.toNat = 2 ∨ c.kd i.toNat = 3 ∨ c.kd i.toNat = 4 := by omega
      · exact rRemove_k0 c i w hr hi e
      · exact rRemove_k1 c i w hr hi e
      · exact rRemove_k2 c i w hr hi e
      · exact rRemove_k3 c i w hr hi e
      · exact rRemove_k4 c i w hr hi e
end Go.Proofs.Ytakaflbfhpalhaa.Cn
