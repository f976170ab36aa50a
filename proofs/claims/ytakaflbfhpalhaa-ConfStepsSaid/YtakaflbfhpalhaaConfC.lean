/- Walks of the landed package conf: the closures, step. -/
import Derived.Test.YtakaflbfhpalhaaConfB
namespace Go.Proofs.Ytakaflbfhpalhaa.Cn
open Go Go.RowKit Bh
attribute [local irreducible] wpQuiet

def promN (k : Nat) : Nat × Bool := if k = 3 then (1, true) else (2, decide (k = 4))
def remN (k : Nat) : Nat × Bool := (0, decide (k ≠ 0))
def lrnN (wit : Bool) (k : Nat) : Nat × Bool := (if wit then 4 else 3, decide (k = 0))
theorem kd_lt (c : C) (i : Nat) : c.kd i < 5 := by unfold C.kd; repeat' split
                                                   all_goals omega
theorem prom_any (k : Nat) (hk : k < 5) (w : World) :
    Calls Try.prog 28 #[.string (kname k)] w fun e w' => e = .returned (.tuple #[.string (kname (promN k).1), .bool (promN k).2]) ∧ w = w' := by
  obtain rfl | rfl | rfl | rfl | rfl : k = 0 ∨ k = 1 ∨ k = 2 ∨ k = 3 ∨ k = 4 := by omega
  · rw [show kname 0 = ⟨#[]⟩ from rfl]
    go_enter Try.func28, Try.ntmps28
    go_wp2_with fail
    go_ret2
    exact ⟨rfl, rfl⟩
  · rw [show kname 1 = ⟨#[102, 117, 108, 108]⟩ from rfl]
    go_enter Try.func28, Try.ntmps28
    go_wp2_with fail
    go_ret2
    exact ⟨rfl, rfl⟩
  · rw [show kname 2 = ⟨#[119, 105, 116]⟩ from rfl]
    go_enter Try.func28, Try.ntmps28
    go_wp2_with fail
    go_ret2
    exact ⟨rfl, rfl⟩
  · rw [show kname 3 = ⟨#[108, 101, 97, 114, 110]⟩ from rfl]
    go_enter Try.func28, Try.ntmps28
    go_wp2_with fail
    go_ret2
    exact ⟨rfl, rfl⟩
  · rw [show kname 4 = ⟨#[108, 101, 97, 114, 110, 119, 105, 116]⟩ from rfl]
    go_enter Try.func28, Try.ntmps28
    go_wp2_with fail
    go_ret2
    exact ⟨rfl, rfl⟩
theorem rem_any (k : Nat) (hk : k < 5) (w : World) :
    Calls Try.prog 29 #[.string (kname k)] w fun e w' => e = .returned (.tuple #[.string (kname (remN k).1), .bool (remN k).2]) ∧ w = w' := by
  obtain rfl | rfl | rfl | rfl | rfl : k = 0 ∨ k = 1 ∨ k = 2 ∨ k = 3 ∨ k = 4 := by omega
  · rw [show kname 0 = ⟨#[]⟩ from rfl]
    go_enter Try.func29, Try.ntmps29
    go_wp2_with fail
    go_ret2
    exact ⟨rfl, rfl⟩
  · rw [show kname 1 = ⟨#[102, 117, 108, 108]⟩ from rfl]
    go_enter Try.func29, Try.ntmps29
    go_wp2_with fail
    go_ret2
    exact ⟨rfl, rfl⟩
  · rw [show kname 2 = ⟨#[119, 105, 116]⟩ from rfl]
    go_enter Try.func29, Try.ntmps29
    go_wp2_with fail
    go_ret2
    exact ⟨rfl, rfl⟩
  · rw [show kname 3 = ⟨#[108, 101, 97, 114, 110]⟩ from rfl]
    go_enter Try.func29, Try.ntmps29
    go_wp2_with fail
    go_ret2
    exact ⟨rfl, rfl⟩
  · rw [show kname 4 = ⟨#[108, 101, 97, 114, 110, 119, 105, 116]⟩ from rfl]
    go_enter Try.func29, Try.ntmps29
    go_wp2_with fail
    go_ret2
    exact ⟨rfl, rfl⟩
theorem lrn_any (wit : Bool) (k : Nat) (hk : k < 5) (b : Nat) (w : World) (hb : w.heap[b]? = some (.cells #[.string (kname (if wit then 4 else 3))] 9)) :
    Calls Try.prog 24 #[.string (kname k), .pointer (some ⟨b, 0, none⟩)] w fun e w' => e = .returned (.tuple #[.string (kname (lrnN wit k).1), .bool (lrnN wit k).2]) ∧ w = w' := by
  have hc := cells1 hb
  have HE : Hid ((lrnN wit k).1 = if wit then 4 else 3) := rfl
  generalize (lrnN wit k).1 = t at *
  rw [← HE.out] at hc
  clear hb
  obtain rfl | rfl | rfl | rfl | rfl : k = 0 ∨ k = 1 ∨ k = 2 ∨ k = 3 ∨ k = 4 := by omega
  · rw [show kname 0 = ⟨#[]⟩ from rfl]
    go_enter Try.func24, Try.ntmps24
    go_wp2_with fail
    go_ret2
    exact ⟨rfl, rfl⟩
  · rw [show kname 1 = ⟨#[102, 117, 108, 108]⟩ from rfl]
    go_enter Try.func24, Try.ntmps24
    go_wp2_with fail
    go_ret2
    exact ⟨rfl, rfl⟩
  · rw [show kname 2 = ⟨#[119, 105, 116]⟩ from rfl]
    go_enter Try.func24, Try.ntmps24
    go_wp2_with fail
    go_ret2
    exact ⟨rfl, rfl⟩
  · rw [show kname 3 = ⟨#[108, 101, 97, 114, 110]⟩ from rfl]
    go_enter Try.func24, Try.ntmps24
    go_wp2_with fail
    go_ret2
    exact ⟨rfl, rfl⟩
  · rw [show kname 4 = ⟨#[108, 101, 97, 114, 110, 119, 105, 116]⟩ from rfl]
    go_enter Try.func24, Try.ntmps24
    go_wp2_with fail
    go_ret2
    exact ⟨rfl, rfl⟩
/-- what a step tells -/
def stepM (c : C) (i : Int) (nx : Nat → Nat × Bool) : C × Int :=
  if c.right then if isN i then if (nx (c.kd i.toNat)).2 && (wth c i.toNat (nx (c.kd i.toNat)).1).right then (wth c i.toNat (nx (c.kd i.toNat)).1, 0) else (C.zero, 14) else (C.zero, 1) else (C.zero, 14)
def pairV (p : C × Int) : Value := .tuple #[p.1.val, .int .i64 p.2]
theorem isN_iff {i : Int} : isN i = true ↔ 0 ≤ i ∧ i ≤ 6 := by unfold isN; simp
theorem isN_not {i : Int} : isN i = false ↔ ¬ (0 ≤ i ∧ i ≤ 6) := by unfold isN; simp
theorem promN_lt (k : Nat) : (promN k).1 < 5 := by unfold promN; split <;> simp
theorem remN_lt (k : Nat) : (remN k).1 < 5 := by unfold remN; simp
theorem lrnN_lt (wit : Bool) (k : Nat) : (lrnN wit k).1 < 5 := by unfold lrnN; cases wit <;> simp

set_option maxHeartbeats 3200000 in
theorem step_prom (c : C) (i : Int) (w : World) :
    Calls Try.prog 23 #[c.val, .int .i64 i, .func (Fn.func 28) #[] #[]] w fun e w' => e = .returned (pairV (stepM c i promN)) ∧ Below w.heap.size w w' := by
  cases hr : c.right
  · have HS := Lib.hid (show pairV (stepM c i promN) = .tuple #[.agg #[.int .i64 0, .int .i64 0, .int .i64 0, .int .i64 0], .int .i64 14] by unfold stepM; rw [hr]; rfl)
    have hcf : c.check = 14 := by unfold C.check; rw [hr]; rfl
    obtain ⟨f, wt, l, x⟩ := c
    generalize pairV (stepM ⟨f, wt, l, x⟩ i promN) = R at *
    have HB := Lib.hid (Two.start w (.cells #[.int .i64 f, .int .i64 wt, .int .i64 l, .int .i64 x] 23) (.cells #[.int .i64 0, .int .i64 0, .int .i64 0, .int .i64 0] 23))
    go_enter Try.func23, Try.ntmps23
    go_wp2_with (first | (go_at_call 21; refine (Check_any ⟨_, _, _, _⟩ _).mono ?_; rintro e wq ⟨rfl, hb⟩; rw [hcf]; have HB := Lib.hid (HB.out.on hb); clear hb; obtain ⟨d0, d1, d2, d3⟩ := cells4 HB.out.a; have f0 := frozen_of HB.out.a 0; have f1 := frozen_of HB.out.b 0; have f2 := frozen_of HB.out.b 1; have f3 := frozen_of HB.out.b 2; have f4 := frozen_of HB.out.b 3; obtain ⟨h0, h1, h2, h3⟩ := cells4 HB.out.b))
    (try simp only [Exit.inBlock, Exit.then])
    refine bodyPost_ret (v := .tuple #[.agg #[.int .i64 0, .int .i64 0, .int .i64 0, .int .i64 0], .int .i64 14]) ?_ rfl ⟨ret_val HS.out.symm, by repeat' (first | exact HB.out.beh | refine Below.setCell ?_ (show w.heap.size ≤ w.heap.size + 1 by omega) _)⟩
    rw [results_cell_tmp rfl]
    go_simp
  · have hcf : c.check = 0 := by unfold C.check; rw [hr]; rfl
    cases hi : isN i
    · have HS := Lib.hid (show pairV (stepM c i promN) = .tuple #[.agg #[.int .i64 0, .int .i64 0, .int .i64 0, .int .i64 0], .int .i64 1] by unfold stepM; rw [hr, hi]; rfl)
      have HI := Lib.hid hi
      obtain ⟨f, wt, l, x⟩ := c
      generalize pairV (stepM ⟨f, wt, l, x⟩ i promN) = R at *
      clear hi hr
      have HB := Lib.hid (Two.start w (.cells #[.int .i64 f, .int .i64 wt, .int .i64 l, .int .i64 x] 23) (.cells #[.int .i64 0, .int .i64 0, .int .i64 0, .int .i64 0] 23))
      go_enter Try.func23, Try.ntmps23
      go_wp2_with (first | (go_at_call 33; refine (isNode_any _ _).mono ?_; rintro e wq ⟨rfl, rfl⟩; rw [HI.out]) | (go_at_call 21; refine (Check_any ⟨_, _, _, _⟩ _).mono ?_; rintro e wq ⟨rfl, hb⟩; rw [hcf]; have HB := Lib.hid (HB.out.on hb); clear hb; obtain ⟨d0, d1, d2, d3⟩ := cells4 HB.out.a; have f0 := frozen_of HB.out.a 0; have f1 := frozen_of HB.out.b 0; have f2 := frozen_of HB.out.b 1; have f3 := frozen_of HB.out.b 2; have f4 := frozen_of HB.out.b 3; obtain ⟨h0, h1, h2, h3⟩ := cells4 HB.out.b))
      (try simp only [Exit.inBlock, Exit.then])
      refine bodyPost_ret (v := .tuple #[.agg #[.int .i64 0, .int .i64 0, .int .i64 0, .int .i64 0], .int .i64 1]) ?_ rfl ⟨ret_val HS.out.symm, by repeat' (first | exact HB.out.beh | refine Below.setCell ?_ (show w.heap.size ≤ w.heap.size + 1 by omega) _)⟩
      rw [results_cell_tmp rfl]
      go_simp
    · have HI := Lib.hid hi
      obtain ⟨i1, i2⟩ := isN_iff.1 hi
      have HSS := Lib.hid (show stepM c i promN = if (promN (c.kd i.toNat)).2 && (wth c i.toNat (promN (c.kd i.toNat)).1).right then (wth c i.toNat (promN (c.kd i.toNat)).1, 0) else (C.zero, 14) by unfold stepM; rw [hr, hi]; rfl)
      have HKd := Lib.hid (fun w => Kind_any c i w)
      rw [show c.kind i = c.kd i.toNat by unfold C.kind; rw [if_pos ⟨i1, i2⟩]] at HKd
      have hk5 := kd_lt c i.toNat
      generalize c.kd i.toNat = k at *
      have HCl := Lib.hid (fun w => prom_any k hk5 w)
      have ht5 : (promN k).1 < 5 := promN_lt _
      have HWt := Lib.hid (fun w => with_any c i (promN k).1 ht5 i1 i2 w)
      generalize (promN k).1 = t at *
      generalize (promN k).2 = ok at *
      generalize wth c i.toNat t = m at *
      clear i1 i2 hi hk5 ht5
      have HMC := Lib.hid (show m.check = if m.right then 0 else 14 from rfl)
      obtain ⟨f, wt, l, x⟩ := c
      cases ok
      · have HS := Lib.hid (show pairV (stepM ⟨f, wt, l, x⟩ i promN) = .tuple #[.agg #[.int .i64 0, .int .i64 0, .int .i64 0, .int .i64 0], .int .i64 14] by rw [HSS.out]; rfl)
        obtain ⟨mf, mw, ml, mx⟩ := m
        generalize pairV (stepM ⟨f, wt, l, x⟩ i promN) = R at *
        clear HSS HMC
        have HB := Lib.hid (Two.start w (.cells #[.int .i64 f, .int .i64 wt, .int .i64 l, .int .i64 x] 23) (.cells #[.int .i64 0, .int .i64 0, .int .i64 0, .int .i64 0] 23))
        go_enter Try.func23, Try.ntmps23
        go_wp2_with (first | (go_at_call 33; refine (isNode_any _ _).mono ?_; rintro e wq ⟨rfl, rfl⟩; rw [HI.out]) | (go_at_call 22; refine Calls.mono (HKd.out _) ?_; rintro e wq ⟨rfl, hb⟩; have HB := Lib.hid (HB.out.on hb); clear hb; obtain ⟨d0, d1, d2, d3⟩ := cells4 HB.out.a; have f0 := frozen_of HB.out.a 0; have f1 := frozen_of HB.out.b 0; have f2 := frozen_of HB.out.b 1; have f3 := frozen_of HB.out.b 2; have f4 := frozen_of HB.out.b 3; obtain ⟨h0, h1, h2, h3⟩ := cells4 HB.out.b) | (go_at_call 34; refine Calls.mono (HWt.out _) ?_; rintro e wq ⟨rfl, hb⟩; have HB := Lib.hid (HB.out.on hb); clear hb; obtain ⟨d0, d1, d2, d3⟩ := cells4 HB.out.a; have f0 := frozen_of HB.out.a 0; have f1 := frozen_of HB.out.b 0; have f2 := frozen_of HB.out.b 1; have f3 := frozen_of HB.out.b 2; have f4 := frozen_of HB.out.b 3; obtain ⟨h0, h1, h2, h3⟩ := cells4 HB.out.b; have HM := Lib.hid (alloc_here (w := wq) (n := wq.heap.size) (.cells #[.int .i64 mf, .int .i64 mw, .int .i64 ml, .int .i64 mx] 23) rfl); have HB := Lib.hid (HB.out.alloc (.cells #[.int .i64 mf, .int .i64 mw, .int .i64 ml, .int .i64 mx] 23)); obtain ⟨p0, p1, p2, p3⟩ := cells4 HB.out.a; have q0 := frozen_of HB.out.a 0; have q1 := frozen_of HB.out.b 0; have q2 := frozen_of HB.out.b 1; have q3 := frozen_of HB.out.b 2; have q4 := frozen_of HB.out.b 3; obtain ⟨r0, r1, r2, r3⟩ := cells4 HB.out.b) | (go_at_call 21; refine (Check_any ⟨_, _, _, _⟩ _).mono ?_; rintro e wq ⟨rfl, hb⟩; rw [hcf]; have HB := Lib.hid (HB.out.on hb); clear hb; obtain ⟨d0, d1, d2, d3⟩ := cells4 HB.out.a; have f0 := frozen_of HB.out.a 0; have f1 := frozen_of HB.out.b 0; have f2 := frozen_of HB.out.b 1; have f3 := frozen_of HB.out.b 2; have f4 := frozen_of HB.out.b 3; obtain ⟨h0, h1, h2, h3⟩ := cells4 HB.out.b) | (go_at_call 28; refine Calls.mono (HCl.out _) ?_; rintro e wq ⟨rfl, rfl⟩))
        (try simp only [Exit.inBlock, Exit.then])
        refine bodyPost_ret (v := .tuple #[.agg #[.int .i64 0, .int .i64 0, .int .i64 0, .int .i64 0], .int .i64 14]) ?_ rfl ⟨ret_val HS.out.symm, by repeat' (first | exact HB.out.beh | refine Below.setCell ?_ (show w.heap.size ≤ w.heap.size + 1 by omega) _)⟩
        rw [results_cell_tmp rfl]
        go_simp
      · cases hm : m.right
        · have HS := Lib.hid (show pairV (stepM ⟨f, wt, l, x⟩ i promN) = .tuple #[.agg #[.int .i64 0, .int .i64 0, .int .i64 0, .int .i64 0], .int .i64 14] by rw [HSS.out, hm]; rfl)
          have hcm : m.check = 14 := by rw [HMC.out, hm]; rfl
          obtain ⟨mf, mw, ml, mx⟩ := m
          generalize pairV (stepM ⟨f, wt, l, x⟩ i promN) = R at *
          clear HSS HMC hm
          have HB := Lib.hid (Two.start w (.cells #[.int .i64 f, .int .i64 wt, .int .i64 l, .int .i64 x] 23) (.cells #[.int .i64 0, .int .i64 0, .int .i64 0, .int .i64 0] 23))
          go_enter Try.func23, Try.ntmps23
          go_wp2_with (first | (go_at_call 33; refine (isNode_any _ _).mono ?_; rintro e wq ⟨rfl, rfl⟩; rw [HI.out]) | (go_at_call 22; refine Calls.mono (HKd.out _) ?_; rintro e wq ⟨rfl, hb⟩; have HB := Lib.hid (HB.out.on hb); clear hb; obtain ⟨d0, d1, d2, d3⟩ := cells4 HB.out.a; have f0 := frozen_of HB.out.a 0; have f1 := frozen_of HB.out.b 0; have f2 := frozen_of HB.out.b 1; have f3 := frozen_of HB.out.b 2; have f4 := frozen_of HB.out.b 3; obtain ⟨h0, h1, h2, h3⟩ := cells4 HB.out.b) | (go_at_call 34; refine Calls.mono (HWt.out _) ?_; rintro e wq ⟨rfl, hb⟩; have HB := Lib.hid (HB.out.on hb); clear hb; obtain ⟨d0, d1, d2, d3⟩ := cells4 HB.out.a; have f0 := frozen_of HB.out.a 0; have f1 := frozen_of HB.out.b 0; have f2 := frozen_of HB.out.b 1; have f3 := frozen_of HB.out.b 2; have f4 := frozen_of HB.out.b 3; obtain ⟨h0, h1, h2, h3⟩ := cells4 HB.out.b; have HM := Lib.hid (alloc_here (w := wq) (n := wq.heap.size) (.cells #[.int .i64 mf, .int .i64 mw, .int .i64 ml, .int .i64 mx] 23) rfl); have HB := Lib.hid (HB.out.alloc (.cells #[.int .i64 mf, .int .i64 mw, .int .i64 ml, .int .i64 mx] 23)); obtain ⟨p0, p1, p2, p3⟩ := cells4 HB.out.a; have q0 := frozen_of HB.out.a 0; have q1 := frozen_of HB.out.b 0; have q2 := frozen_of HB.out.b 1; have q3 := frozen_of HB.out.b 2; have q4 := frozen_of HB.out.b 3; obtain ⟨r0, r1, r2, r3⟩ := cells4 HB.out.b) | (go_at_call 21; refine (Check_any ⟨_, _, _, _⟩ _).mono ?_; rintro e wz ⟨rfl, hb⟩; first | (rw [hcf]; have HB := Lib.hid (HB.out.on hb); clear hb; obtain ⟨d0, d1, d2, d3⟩ := cells4 HB.out.a; have f0 := frozen_of HB.out.a 0; have f1 := frozen_of HB.out.b 0; have f2 := frozen_of HB.out.b 1; have f3 := frozen_of HB.out.b 2; have f4 := frozen_of HB.out.b 3; obtain ⟨h0, h1, h2, h3⟩ := cells4 HB.out.b) | (rw [hcm]; have HM := Lib.hid (box_on HM.out hb); obtain ⟨m0, m1, m2, m3⟩ := cells4 HM.out; have HB := Lib.hid (HB.out.on hb); clear hb; obtain ⟨d0, d1, d2, d3⟩ := cells4 HB.out.a; have f0 := frozen_of HB.out.a 0; have f1 := frozen_of HB.out.b 0; have f2 := frozen_of HB.out.b 1; have f3 := frozen_of HB.out.b 2; have f4 := frozen_of HB.out.b 3; obtain ⟨h0, h1, h2, h3⟩ := cells4 HB.out.b)) | (go_at_call 28; refine Calls.mono (HCl.out _) ?_; rintro e wq ⟨rfl, rfl⟩))
          (try simp only [Exit.inBlock, Exit.then])
          refine bodyPost_ret (v := .tuple #[.agg #[.int .i64 0, .int .i64 0, .int .i64 0, .int .i64 0], .int .i64 14]) ?_ rfl ⟨ret_val HS.out.symm, by repeat' (first | exact HB.out.beh | refine Below.setCell ?_ (show w.heap.size ≤ w.heap.size + 1 by omega) _)⟩
          rw [results_cell_tmp rfl]
          go_simp
        · have HS := Lib.hid (show pairV (stepM ⟨f, wt, l, x⟩ i promN) = .tuple #[m.val, .int .i64 0] by rw [HSS.out, hm]; rfl)
          have hcm : m.check = 0 := by rw [HMC.out, hm]; rfl
          obtain ⟨mf, mw, ml, mx⟩ := m
          generalize pairV (stepM ⟨f, wt, l, x⟩ i promN) = R at *
          clear HSS HMC hm
          have HB := Lib.hid (Two.start w (.cells #[.int .i64 f, .int .i64 wt, .int .i64 l, .int .i64 x] 23) (.cells #[.int .i64 0, .int .i64 0, .int .i64 0, .int .i64 0] 23))
          go_enter Try.func23, Try.ntmps23
          go_wp2_with (first | (go_at_call 33; refine (isNode_any _ _).mono ?_; rintro e wq ⟨rfl, rfl⟩; rw [HI.out]) | (go_at_call 22; refine Calls.mono (HKd.out _) ?_; rintro e wq ⟨rfl, hb⟩; have HB := Lib.hid (HB.out.on hb); clear hb; obtain ⟨d0, d1, d2, d3⟩ := cells4 HB.out.a; have f0 := frozen_of HB.out.a 0; have f1 := frozen_of HB.out.b 0; have f2 := frozen_of HB.out.b 1; have f3 := frozen_of HB.out.b 2; have f4 := frozen_of HB.out.b 3; obtain ⟨h0, h1, h2, h3⟩ := cells4 HB.out.b) | (go_at_call 34; refine Calls.mono (HWt.out _) ?_; rintro e wq ⟨rfl, hb⟩; have HB := Lib.hid (HB.out.on hb); clear hb; obtain ⟨d0, d1, d2, d3⟩ := cells4 HB.out.a; have f0 := frozen_of HB.out.a 0; have f1 := frozen_of HB.out.b 0; have f2 := frozen_of HB.out.b 1; have f3 := frozen_of HB.out.b 2; have f4 := frozen_of HB.out.b 3; obtain ⟨h0, h1, h2, h3⟩ := cells4 HB.out.b; have HM := Lib.hid (alloc_here (w := wq) (n := wq.heap.size) (.cells #[.int .i64 mf, .int .i64 mw, .int .i64 ml, .int .i64 mx] 23) rfl); have HB := Lib.hid (HB.out.alloc (.cells #[.int .i64 mf, .int .i64 mw, .int .i64 ml, .int .i64 mx] 23)); obtain ⟨p0, p1, p2, p3⟩ := cells4 HB.out.a; have q0 := frozen_of HB.out.a 0; have q1 := frozen_of HB.out.b 0; have q2 := frozen_of HB.out.b 1; have q3 := frozen_of HB.out.b 2; have q4 := frozen_of HB.out.b 3; obtain ⟨r0, r1, r2, r3⟩ := cells4 HB.out.b) | (go_at_call 21; refine (Check_any ⟨_, _, _, _⟩ _).mono ?_; rintro e wz ⟨rfl, hb⟩; first | (rw [hcf]; have HB := Lib.hid (HB.out.on hb); clear hb; obtain ⟨d0, d1, d2, d3⟩ := cells4 HB.out.a; have f0 := frozen_of HB.out.a 0; have f1 := frozen_of HB.out.b 0; have f2 := frozen_of HB.out.b 1; have f3 := frozen_of HB.out.b 2; have f4 := frozen_of HB.out.b 3; obtain ⟨h0, h1, h2, h3⟩ := cells4 HB.out.b) | (rw [hcm]; have HM := Lib.hid (box_on HM.out hb); obtain ⟨m0, m1, m2, m3⟩ := cells4 HM.out; have HB := Lib.hid (HB.out.on hb); clear hb; obtain ⟨d0, d1, d2, d3⟩ := cells4 HB.out.a; have f0 := frozen_of HB.out.a 0; have f1 := frozen_of HB.out.b 0; have f2 := frozen_of HB.out.b 1; have f3 := frozen_of HB.out.b 2; have f4 := frozen_of HB.out.b 3; obtain ⟨h0, h1, h2, h3⟩ := cells4 HB.out.b)) | (go_at_call 28; refine Calls.mono (HCl.out _) ?_; rintro e wq ⟨rfl, rfl⟩))
          (try simp only [Exit.inBlock, Exit.then])
          refine bodyPost_ret (v := .tuple #[.agg #[.int .i64 mf, .int .i64 mw, .int .i64 ml, .int .i64 mx], .int .i64 0]) ?_ rfl ⟨ret_val HS.out.symm, by repeat' (first | exact HB.out.beh | refine Below.setCell ?_ (show w.heap.size ≤ w.heap.size + 1 by omega) _)⟩
          rw [results_cell_tmp rfl]
          go_simp

set_option maxHeartbeats 3200000 in
theorem step_rem (c : C) (i : Int) (w : World) :
    Calls Try.prog 23 #[c.val, .int .i64 i, .func (Fn.func 29) #[] #[]] w fun e w' => e = .returned (pairV (stepM c i remN)) ∧ Below w.heap.size w w' := by
  cases hr : c.right
  · have HS := Lib.hid (show pairV (stepM c i remN) = .tuple #[.agg #[.int .i64 0, .int .i64 0, .int .i64 0, .int .i64 0], .int .i64 14] by unfold stepM; rw [hr]; rfl)
    have hcf : c.check = 14 := by unfold C.check; rw [hr]; rfl
    obtain ⟨f, wt, l, x⟩ := c
    generalize pairV (stepM ⟨f, wt, l, x⟩ i remN) = R at *
    have HB := Lib.hid (Two.start w (.cells #[.int .i64 f, .int .i64 wt, .int .i64 l, .int .i64 x] 23) (.cells #[.int .i64 0, .int .i64 0, .int .i64 0, .int .i64 0] 23))
    go_enter Try.func23, Try.ntmps23
    go_wp2_with (first | (go_at_call 21; refine (Check_any ⟨_, _, _, _⟩ _).mono ?_; rintro e wq ⟨rfl, hb⟩; rw [hcf]; have HB := Lib.hid (HB.out.on hb); clear hb; obtain ⟨d0, d1, d2, d3⟩ := cells4 HB.out.a; have f0 := frozen_of HB.out.a 0; have f1 := frozen_of HB.out.b 0; have f2 := frozen_of HB.out.b 1; have f3 := frozen_of HB.out.b 2; have f4 := frozen_of HB.out.b 3; obtain ⟨h0, h1, h2, h3⟩ := cells4 HB.out.b))
    (try simp only [Exit.inBlock, Exit.then])
    refine bodyPost_ret (v := .tuple #[.agg #[.int .i64 0, .int .i64 0, .int .i64 0, .int .i64 0], .int .i64 14]) ?_ rfl ⟨ret_val HS.out.symm, by repeat' (first | exact HB.out.beh | refine Below.setCell ?_ (show w.heap.size ≤ w.heap.size + 1 by omega) _)⟩
    rw [results_cell_tmp rfl]
    go_simp
  · have hcf : c.check = 0 := by unfold C.check; rw [hr]; rfl
    cases hi : isN i
    · have HS := Lib.hid (show pairV (stepM c i remN) = .tuple #[.agg #[.int .i64 0, .int .i64 0, .int .i64 0, .int .i64 0], .int .i64 1] by unfold stepM; rw [hr, hi]; rfl)
      have HI := Lib.hid hi
      obtain ⟨f, wt, l, x⟩ := c
      generalize pairV (stepM ⟨f, wt, l, x⟩ i remN) = R at *
      clear hi hr
      have HB := Lib.hid (Two.start w (.cells #[.int .i64 f, .int .i64 wt, .int .i64 l, .int .i64 x] 23) (.cells #[.int .i64 0, .int .i64 0, .int .i64 0, .int .i64 0] 23))
      go_enter Try.func23, Try.ntmps23
      go_wp2_with (first | (go_at_call 33; refine (isNode_any _ _).mono ?_; rintro e wq ⟨rfl, rfl⟩; rw [HI.out]) | (go_at_call 21; refine (Check_any ⟨_, _, _, _⟩ _).mono ?_; rintro e wq ⟨rfl, hb⟩; rw [hcf]; have HB := Lib.hid (HB.out.on hb); clear hb; obtain ⟨d0, d1, d2, d3⟩ := cells4 HB.out.a; have f0 := frozen_of HB.out.a 0; have f1 := frozen_of HB.out.b 0; have f2 := frozen_of HB.out.b 1; have f3 := frozen_of HB.out.b 2; have f4 := frozen_of HB.out.b 3; obtain ⟨h0, h1, h2, h3⟩ := cells4 HB.out.b))
      (try simp only [Exit.inBlock, Exit.then])
      refine bodyPost_ret (v := .tuple #[.agg #[.int .i64 0, .int .i64 0, .int .i64 0, .int .i64 0], .int .i64 1]) ?_ rfl ⟨ret_val HS.out.symm, by repeat' (first | exact HB.out.beh | refine Below.setCell ?_ (show w.heap.size ≤ w.heap.size + 1 by omega) _)⟩
      rw [results_cell_tmp rfl]
      go_simp
    · have HI := Lib.hid hi
      obtain ⟨i1, i2⟩ := isN_iff.1 hi
      have HSS := Lib.hid (show stepM c i remN = if (remN (c.kd i.toNat)).2 && (wth c i.toNat (remN (c.kd i.toNat)).1).right then (wth c i.toNat (remN (c.kd i.toNat)).1, 0) else (C.zero, 14) by unfold stepM; rw [hr, hi]; rfl)
      have HKd := Lib.hid (fun w => Kind_any c i w)
      rw [show c.kind i = c.kd i.toNat by unfold C.kind; rw [if_pos ⟨i1, i2⟩]] at HKd
      have hk5 := kd_lt c i.toNat
      generalize c.kd i.toNat = k at *
      have HCl := Lib.hid (fun w => rem_any k hk5 w)
      have ht5 : (remN k).1 < 5 := remN_lt _
      have HWt := Lib.hid (fun w => with_any c i (remN k).1 ht5 i1 i2 w)
      generalize (remN k).1 = t at *
      generalize (remN k).2 = ok at *
      generalize wth c i.toNat t = m at *
      clear i1 i2 hi hk5 ht5
      have HMC := Lib.hid (show m.check = if m.right then 0 else 14 from rfl)
      obtain ⟨f, wt, l, x⟩ := c
      cases ok
      · have HS := Lib.hid (show pairV (stepM ⟨f, wt, l, x⟩ i remN) = .tuple #[.agg #[.int .i64 0, .int .i64 0, .int .i64 0, .int .i64 0], .int .i64 14] by rw [HSS.out]; rfl)
        obtain ⟨mf, mw, ml, mx⟩ := m
        generalize pairV (stepM ⟨f, wt, l, x⟩ i remN) = R at *
        clear HSS HMC
        have HB := Lib.hid (Two.start w (.cells #[.int .i64 f, .int .i64 wt, .int .i64 l, .int .i64 x] 23) (.cells #[.int .i64 0, .int .i64 0, .int .i64 0, .int .i64 0] 23))
        go_enter Try.func23, Try.ntmps23
        go_wp2_with (first | (go_at_call 33; refine (isNode_any _ _).mono ?_; rintro e wq ⟨rfl, rfl⟩; rw [HI.out]) | (go_at_call 22; refine Calls.mono (HKd.out _) ?_; rintro e wq ⟨rfl, hb⟩; have HB := Lib.hid (HB.out.on hb); clear hb; obtain ⟨d0, d1, d2, d3⟩ := cells4 HB.out.a; have f0 := frozen_of HB.out.a 0; have f1 := frozen_of HB.out.b 0; have f2 := frozen_of HB.out.b 1; have f3 := frozen_of HB.out.b 2; have f4 := frozen_of HB.out.b 3; obtain ⟨h0, h1, h2, h3⟩ := cells4 HB.out.b) | (go_at_call 34; refine Calls.mono (HWt.out _) ?_; rintro e wq ⟨rfl, hb⟩; have HB := Lib.hid (HB.out.on hb); clear hb; obtain ⟨d0, d1, d2, d3⟩ := cells4 HB.out.a; have f0 := frozen_of HB.out.a 0; have f1 := frozen_of HB.out.b 0; have f2 := frozen_of HB.out.b 1; have f3 := frozen_of HB.out.b 2; have f4 := frozen_of HB.out.b 3; obtain ⟨h0, h1, h2, h3⟩ := cells4 HB.out.b; have HM := Lib.hid (alloc_here (w := wq) (n := wq.heap.size) (.cells #[.int .i64 mf, .int .i64 mw, .int .i64 ml, .int .i64 mx] 23) rfl); have HB := Lib.hid (HB.out.alloc (.cells #[.int .i64 mf, .int .i64 mw, .int .i64 ml, .int .i64 mx] 23)); obtain ⟨p0, p1, p2, p3⟩ := cells4 HB.out.a; have q0 := frozen_of HB.out.a 0; have q1 := frozen_of HB.out.b 0; have q2 := frozen_of HB.out.b 1; have q3 := frozen_of HB.out.b 2; have q4 := frozen_of HB.out.b 3; obtain ⟨r0, r1, r2, r3⟩ := cells4 HB.out.b) | (go_at_call 21; refine (Check_any ⟨_, _, _, _⟩ _).mono ?_; rintro e wq ⟨rfl, hb⟩; rw [hcf]; have HB := Lib.hid (HB.out.on hb); clear hb; obtain ⟨d0, d1, d2, d3⟩ := cells4 HB.out.a; have f0 := frozen_of HB.out.a 0; have f1 := frozen_of HB.out.b 0; have f2 := frozen_of HB.out.b 1; have f3 := frozen_of HB.out.b 2; have f4 := frozen_of HB.out.b 3; obtain ⟨h0, h1, h2, h3⟩ := cells4 HB.out.b) | (go_at_call 29; refine Calls.mono (HCl.out _) ?_; rintro e wq ⟨rfl, rfl⟩))
        (try simp only [Exit.inBlock, Exit.then])
        refine bodyPost_ret (v := .tuple #[.agg #[.int .i64 0, .int .i64 0, .int .i64 0, .int .i64 0], .int .i64 14]) ?_ rfl ⟨ret_val HS.out.symm, by repeat' (first | exact HB.out.beh | refine Below.setCell ?_ (show w.heap.size ≤ w.heap.size + 1 by omega) _)⟩
        rw [results_cell_tmp rfl]
        go_simp
      · cases hm : m.right
        · have HS := Lib.hid (show pairV (stepM ⟨f, wt, l, x⟩ i remN) = .tuple #[.agg #[.int .i64 0, .int .i64 0, .int .i64 0, .int .i64 0], .int .i64 14] by rw [HSS.out, hm]; rfl)
          have hcm : m.check = 14 := by rw [HMC.out, hm]; rfl
          obtain ⟨mf, mw, ml, mx⟩ := m
          generalize pairV (stepM ⟨f, wt, l, x⟩ i remN) = R at *
          clear HSS HMC hm
          have HB := Lib.hid (Two.start w (.cells #[.int .i64 f, .int .i64 wt, .int .i64 l, .int .i64 x] 23) (.cells #[.int .i64 0, .int .i64 0, .int .i64 0, .int .i64 0] 23))
          go_enter Try.func23, Try.ntmps23
          go_wp2_with (first | (go_at_call 33; refine (isNode_any _ _).mono ?_; rintro e wq ⟨rfl, rfl⟩; rw [HI.out]) | (go_at_call 22; refine Calls.mono (HKd.out _) ?_; rintro e wq ⟨rfl, hb⟩; have HB := Lib.hid (HB.out.on hb); clear hb; obtain ⟨d0, d1, d2, d3⟩ := cells4 HB.out.a; have f0 := frozen_of HB.out.a 0; have f1 := frozen_of HB.out.b 0; have f2 := frozen_of HB.out.b 1; have f3 := frozen_of HB.out.b 2; have f4 := frozen_of HB.out.b 3; obtain ⟨h0, h1, h2, h3⟩ := cells4 HB.out.b) | (go_at_call 34; refine Calls.mono (HWt.out _) ?_; rintro e wq ⟨rfl, hb⟩; have HB := Lib.hid (HB.out.on hb); clear hb; obtain ⟨d0, d1, d2, d3⟩ := cells4 HB.out.a; have f0 := frozen_of HB.out.a 0; have f1 := frozen_of HB.out.b 0; have f2 := frozen_of HB.out.b 1; have f3 := frozen_of HB.out.b 2; have f4 := frozen_of HB.out.b 3; obtain ⟨h0, h1, h2, h3⟩ := cells4 HB.out.b; have HM := Lib.hid (alloc_here (w := wq) (n := wq.heap.size) (.cells #[.int .i64 mf, .int .i64 mw, .int .i64 ml, .int .i64 mx] 23) rfl); have HB := Lib.hid (HB.out.alloc (.cells #[.int .i64 mf, .int .i64 mw, .int .i64 ml, .int .i64 mx] 23)); obtain ⟨p0, p1, p2, p3⟩ := cells4 HB.out.a; have q0 := frozen_of HB.out.a 0; have q1 := frozen_of HB.out.b 0; have q2 := frozen_of HB.out.b 1; have q3 := frozen_of HB.out.b 2; have q4 := frozen_of HB.out.b 3; obtain ⟨r0, r1, r2, r3⟩ := cells4 HB.out.b) | (go_at_call 21; refine (Check_any ⟨_, _, _, _⟩ _).mono ?_; rintro e wz ⟨rfl, hb⟩; first | (rw [hcf]; have HB := Lib.hid (HB.out.on hb); clear hb; obtain ⟨d0, d1, d2, d3⟩ := cells4 HB.out.a; have f0 := frozen_of HB.out.a 0; have f1 := frozen_of HB.out.b 0; have f2 := frozen_of HB.out.b 1; have f3 := frozen_of HB.out.b 2; have f4 := frozen_of HB.out.b 3; obtain ⟨h0, h1, h2, h3⟩ := cells4 HB.out.b) | (rw [hcm]; have HM := Lib.hid (box_on HM.out hb); obtain ⟨m0, m1, m2, m3⟩ := cells4 HM.out; have HB := Lib.hid (HB.out.on hb); clear hb; obtain ⟨d0, d1, d2, d3⟩ := cells4 HB.out.a; have f0 := frozen_of HB.out.a 0; have f1 := frozen_of HB.out.b 0; have f2 := frozen_of HB.out.b 1; have f3 := frozen_of HB.out.b 2; have f4 := frozen_of HB.out.b 3; obtain ⟨h0, h1, h2, h3⟩ := cells4 HB.out.b)) | (go_at_call 29; refine Calls.mono (HCl.out _) ?_; rintro e wq ⟨rfl, rfl⟩))
          (try simp only [Exit.inBlock, Exit.then])
          refine bodyPost_ret (v := .tuple #[.agg #[.int .i64 0, .int .i64 0, .int .i64 0, .int .i64 0], .int .i64 14]) ?_ rfl ⟨ret_val HS.out.symm, by repeat' (first | exact HB.out.beh | refine Below.setCell ?_ (show w.heap.size ≤ w.heap.size + 1 by omega) _)⟩
          rw [results_cell_tmp rfl]
          go_simp
        · have HS := Lib.hid (show pairV (stepM ⟨f, wt, l, x⟩ i remN) = .tuple #[m.val, .int .i64 0] by rw [HSS.out, hm]; rfl)
          have hcm : m.check = 0 := by rw [HMC.out, hm]; rfl
          obtain ⟨mf, mw, ml, mx⟩ := m
          generalize pairV (stepM ⟨f, wt, l, x⟩ i remN) = R at *
          clear HSS HMC hm
          have HB := Lib.hid (Two.start w (.cells #[.int .i64 f, .int .i64 wt, .int .i64 l, .int .i64 x] 23) (.cells #[.int .i64 0, .int .i64 0, .int .i64 0, .int .i64 0] 23))
          go_enter Try.func23, Try.ntmps23
          go_wp2_with (first | (go_at_call 33; refine (isNode_any _ _).mono ?_; rintro e wq ⟨rfl, rfl⟩; rw [HI.out]) | (go_at_call 22; refine Calls.mono (HKd.out _) ?_; rintro e wq ⟨rfl, hb⟩; have HB := Lib.hid (HB.out.on hb); clear hb; obtain ⟨d0, d1, d2, d3⟩ := cells4 HB.out.a; have f0 := frozen_of HB.out.a 0; have f1 := frozen_of HB.out.b 0; have f2 := frozen_of HB.out.b 1; have f3 := frozen_of HB.out.b 2; have f4 := frozen_of HB.out.b 3; obtain ⟨h0, h1, h2, h3⟩ := cells4 HB.out.b) | (go_at_call 34; refine Calls.mono (HWt.out _) ?_; rintro e wq ⟨rfl, hb⟩; have HB := Lib.hid (HB.out.on hb); clear hb; obtain ⟨d0, d1, d2, d3⟩ := cells4 HB.out.a; have f0 := frozen_of HB.out.a 0; have f1 := frozen_of HB.out.b 0; have f2 := frozen_of HB.out.b 1; have f3 := frozen_of HB.out.b 2; have f4 := frozen_of HB.out.b 3; obtain ⟨h0, h1, h2, h3⟩ := cells4 HB.out.b; have HM := Lib.hid (alloc_here (w := wq) (n := wq.heap.size) (.cells #[.int .i64 mf, .int .i64 mw, .int .i64 ml, .int .i64 mx] 23) rfl); have HB := Lib.hid (HB.out.alloc (.cells #[.int .i64 mf, .int .i64 mw, .int .i64 ml, .int .i64 mx] 23)); obtain ⟨p0, p1, p2, p3⟩ := cells4 HB.out.a; have q0 := frozen_of HB.out.a 0; have q1 := frozen_of HB.out.b 0; have q2 := frozen_of HB.out.b 1; have q3 := frozen_of HB.out.b 2; have q4 := frozen_of HB.out.b 3; obtain ⟨r0, r1, r2, r3⟩ := cells4 HB.out.b) | (go_at_call 21; refine (Check_any ⟨_, _, _, _⟩ _).mono ?_; rintro e wz ⟨rfl, hb⟩; first | (rw [hcf]; have HB := Lib.hid (HB.out.on hb); clear hb; obtain ⟨d0, d1, d2, d3⟩ := cells4 HB.out.a; have f0 := frozen_of HB.out.a 0; have f1 := frozen_of HB.out.b 0; have f2 := frozen_of HB.out.b 1; have f3 := frozen_of HB.out.b 2; have f4 := frozen_of HB.out.b 3; obtain ⟨h0, h1, h2, h3⟩ := cells4 HB.out.b) | (rw [hcm]; have HM := Lib.hid (box_on HM.out hb); obtain ⟨m0, m1, m2, m3⟩ := cells4 HM.out; have HB := Lib.hid (HB.out.on hb); clear hb; obtain ⟨d0, d1, d2, d3⟩ := cells4 HB.out.a; have f0 := frozen_of HB.out.a 0; have f1 := frozen_of HB.out.b 0; have f2 := frozen_of HB.out.b 1; have f3 := frozen_of HB.out.b 2; have f4 := frozen_of HB.out.b 3; obtain ⟨h0, h1, h2, h3⟩ := cells4 HB.out.b)) | (go_at_call 29; refine Calls.mono (HCl.out _) ?_; rintro e wq ⟨rfl, rfl⟩))
          (try simp only [Exit.inBlock, Exit.then])
          refine bodyPost_ret (v := .tuple #[.agg #[.int .i64 mf, .int .i64 mw, .int .i64 ml, .int .i64 mx], .int .i64 0]) ?_ rfl ⟨ret_val HS.out.symm, by repeat' (first | exact HB.out.beh | refine Below.setCell ?_ (show w.heap.size ≤ w.heap.size + 1 by omega) _)⟩
          rw [results_cell_tmp rfl]
          go_simp

set_option maxHeartbeats 3200000 in
theorem step_lrn (c : C) (i : Int) (wit : Bool) (b : Nat) (w : World) (hbx : w.heap[b]? = some (.cells #[.string (kname (if wit then 4 else 3))] 9)) :
    Calls Try.prog 23 #[c.val, .int .i64 i, .func (Fn.func 24) #[] #[.pointer (some ⟨b, 0, none⟩)]] w fun e w' => e = .returned (pairV (stepM c i (lrnN wit))) ∧ Below w.heap.size w w' := by
  have hbx := Lib.hid hbx
  cases hr : c.right
  · have HS := Lib.hid (show pairV (stepM c i (lrnN wit)) = .tuple #[.agg #[.int .i64 0, .int .i64 0, .int .i64 0, .int .i64 0], .int .i64 14] by unfold stepM; rw [hr]; rfl)
    have hcf : c.check = 14 := by unfold C.check; rw [hr]; rfl
    obtain ⟨f, wt, l, x⟩ := c
    generalize pairV (stepM ⟨f, wt, l, x⟩ i (lrnN wit)) = R at *
    have HB := Lib.hid (Two.start w (.cells #[.int .i64 f, .int .i64 wt, .int .i64 l, .int .i64 x] 23) (.cells #[.int .i64 0, .int .i64 0, .int .i64 0, .int .i64 0] 23))
    go_enter Try.func23, Try.ntmps23
    go_wp2_with (first | (go_at_call 21; refine (Check_any ⟨_, _, _, _⟩ _).mono ?_; rintro e wq ⟨rfl, hb⟩; rw [hcf]; have HB := Lib.hid (HB.out.on hb); clear hb; obtain ⟨d0, d1, d2, d3⟩ := cells4 HB.out.a; have f0 := frozen_of HB.out.a 0; have f1 := frozen_of HB.out.b 0; have f2 := frozen_of HB.out.b 1; have f3 := frozen_of HB.out.b 2; have f4 := frozen_of HB.out.b 3; obtain ⟨h0, h1, h2, h3⟩ := cells4 HB.out.b))
    (try simp only [Exit.inBlock, Exit.then])
    refine bodyPost_ret (v := .tuple #[.agg #[.int .i64 0, .int .i64 0, .int .i64 0, .int .i64 0], .int .i64 14]) ?_ rfl ⟨ret_val HS.out.symm, by repeat' (first | exact HB.out.beh | refine Below.setCell ?_ (show w.heap.size ≤ w.heap.size + 1 by omega) _)⟩
    rw [results_cell_tmp rfl]
    go_simp
  · have hcf : c.check = 0 := by unfold C.check; rw [hr]; rfl
    cases hi : isN i
    · have HS := Lib.hid (show pairV (stepM c i (lrnN wit)) = .tuple #[.agg #[.int .i64 0, .int .i64 0, .int .i64 0, .int .i64 0], .int .i64 1] by unfold stepM; rw [hr, hi]; rfl)
      have HI := Lib.hid hi
      obtain ⟨f, wt, l, x⟩ := c
      generalize pairV (stepM ⟨f, wt, l, x⟩ i (lrnN wit)) = R at *
      clear hi hr
      have HB := Lib.hid (Two.start w (.cells #[.int .i64 f, .int .i64 wt, .int .i64 l, .int .i64 x] 23) (.cells #[.int .i64 0, .int .i64 0, .int .i64 0, .int .i64 0] 23))
      go_enter Try.func23, Try.ntmps23
      go_wp2_with (first | (go_at_call 33; refine (isNode_any _ _).mono ?_; rintro e wq ⟨rfl, rfl⟩; rw [HI.out]) | (go_at_call 21; refine (Check_any ⟨_, _, _, _⟩ _).mono ?_; rintro e wq ⟨rfl, hb⟩; rw [hcf]; have HB := Lib.hid (HB.out.on hb); clear hb; obtain ⟨d0, d1, d2, d3⟩ := cells4 HB.out.a; have f0 := frozen_of HB.out.a 0; have f1 := frozen_of HB.out.b 0; have f2 := frozen_of HB.out.b 1; have f3 := frozen_of HB.out.b 2; have f4 := frozen_of HB.out.b 3; obtain ⟨h0, h1, h2, h3⟩ := cells4 HB.out.b))
      (try simp only [Exit.inBlock, Exit.then])
      refine bodyPost_ret (v := .tuple #[.agg #[.int .i64 0, .int .i64 0, .int .i64 0, .int .i64 0], .int .i64 1]) ?_ rfl ⟨ret_val HS.out.symm, by repeat' (first | exact HB.out.beh | refine Below.setCell ?_ (show w.heap.size ≤ w.heap.size + 1 by omega) _)⟩
      rw [results_cell_tmp rfl]
      go_simp
    · have HI := Lib.hid hi
      obtain ⟨i1, i2⟩ := isN_iff.1 hi
      have HSS := Lib.hid (show stepM c i (lrnN wit) = if ((lrnN wit) (c.kd i.toNat)).2 && (wth c i.toNat ((lrnN wit) (c.kd i.toNat)).1).right then (wth c i.toNat ((lrnN wit) (c.kd i.toNat)).1, 0) else (C.zero, 14) by unfold stepM; rw [hr, hi]; rfl)
      have HKd := Lib.hid (fun w => Kind_any c i w)
      rw [show c.kind i = c.kd i.toNat by unfold C.kind; rw [if_pos ⟨i1, i2⟩]] at HKd
      have hk5 := kd_lt c i.toNat
      generalize c.kd i.toNat = k at *
      have HCl := Lib.hid (fun (W : World) (h : Beh w W) => lrn_any wit k hk5 b W (h.box hbx.out))
      have ht5 : ((lrnN wit) k).1 < 5 := lrnN_lt _ _
      have HWt := Lib.hid (fun w => with_any c i ((lrnN wit) k).1 ht5 i1 i2 w)
      generalize ((lrnN wit) k).1 = t at *
      generalize ((lrnN wit) k).2 = ok at *
      generalize wth c i.toNat t = m at *
      clear i1 i2 hi hk5 ht5
      have HMC := Lib.hid (show m.check = if m.right then 0 else 14 from rfl)
      obtain ⟨f, wt, l, x⟩ := c
      cases ok
      · have HS := Lib.hid (show pairV (stepM ⟨f, wt, l, x⟩ i (lrnN wit)) = .tuple #[.agg #[.int .i64 0, .int .i64 0, .int .i64 0, .int .i64 0], .int .i64 14] by rw [HSS.out]; rfl)
        obtain ⟨mf, mw, ml, mx⟩ := m
        generalize pairV (stepM ⟨f, wt, l, x⟩ i (lrnN wit)) = R at *
        clear HSS HMC
        have HB := Lib.hid (Two.start w (.cells #[.int .i64 f, .int .i64 wt, .int .i64 l, .int .i64 x] 23) (.cells #[.int .i64 0, .int .i64 0, .int .i64 0, .int .i64 0] 23))
        go_enter Try.func23, Try.ntmps23
        go_wp2_with (first | (go_at_call 33; refine (isNode_any _ _).mono ?_; rintro e wq ⟨rfl, rfl⟩; rw [HI.out]) | (go_at_call 22; refine Calls.mono (HKd.out _) ?_; rintro e wq ⟨rfl, hb⟩; have HB := Lib.hid (HB.out.on hb); clear hb; obtain ⟨d0, d1, d2, d3⟩ := cells4 HB.out.a; have f0 := frozen_of HB.out.a 0; have f1 := frozen_of HB.out.b 0; have f2 := frozen_of HB.out.b 1; have f3 := frozen_of HB.out.b 2; have f4 := frozen_of HB.out.b 3; obtain ⟨h0, h1, h2, h3⟩ := cells4 HB.out.b) | (go_at_call 34; refine Calls.mono (HWt.out _) ?_; rintro e wq ⟨rfl, hb⟩; have HB := Lib.hid (HB.out.on hb); clear hb; obtain ⟨d0, d1, d2, d3⟩ := cells4 HB.out.a; have f0 := frozen_of HB.out.a 0; have f1 := frozen_of HB.out.b 0; have f2 := frozen_of HB.out.b 1; have f3 := frozen_of HB.out.b 2; have f4 := frozen_of HB.out.b 3; obtain ⟨h0, h1, h2, h3⟩ := cells4 HB.out.b; have HM := Lib.hid (alloc_here (w := wq) (n := wq.heap.size) (.cells #[.int .i64 mf, .int .i64 mw, .int .i64 ml, .int .i64 mx] 23) rfl); have HB := Lib.hid (HB.out.alloc (.cells #[.int .i64 mf, .int .i64 mw, .int .i64 ml, .int .i64 mx] 23)); obtain ⟨p0, p1, p2, p3⟩ := cells4 HB.out.a; have q0 := frozen_of HB.out.a 0; have q1 := frozen_of HB.out.b 0; have q2 := frozen_of HB.out.b 1; have q3 := frozen_of HB.out.b 2; have q4 := frozen_of HB.out.b 3; obtain ⟨r0, r1, r2, r3⟩ := cells4 HB.out.b) | (go_at_call 21; refine (Check_any ⟨_, _, _, _⟩ _).mono ?_; rintro e wq ⟨rfl, hb⟩; rw [hcf]; have HB := Lib.hid (HB.out.on hb); clear hb; obtain ⟨d0, d1, d2, d3⟩ := cells4 HB.out.a; have f0 := frozen_of HB.out.a 0; have f1 := frozen_of HB.out.b 0; have f2 := frozen_of HB.out.b 1; have f3 := frozen_of HB.out.b 2; have f4 := frozen_of HB.out.b 3; obtain ⟨h0, h1, h2, h3⟩ := cells4 HB.out.b) | (go_at_call 24; refine Calls.mono (HCl.out _ HB.out.beh) ?_; rintro e wq ⟨rfl, rfl⟩))
        (try simp only [Exit.inBlock, Exit.then])
        refine bodyPost_ret (v := .tuple #[.agg #[.int .i64 0, .int .i64 0, .int .i64 0, .int .i64 0], .int .i64 14]) ?_ rfl ⟨ret_val HS.out.symm, by repeat' (first | exact HB.out.beh | refine Below.setCell ?_ (show w.heap.size ≤ w.heap.size + 1 by omega) _)⟩
        rw [results_cell_tmp rfl]
        go_simp
      · cases hm : m.right
        · have HS := Lib.hid (show pairV (stepM ⟨f, wt, l, x⟩ i (lrnN wit)) = .tuple #[.agg #[.int .i64 0, .int .i64 0, .int .i64 0, .int .i64 0], .int .i64 14] by rw [HSS.out, hm]; rfl)
          have hcm : m.check = 14 := by rw [HMC.out, hm]; rfl
          obtain ⟨mf, mw, ml, mx⟩ := m
          generalize pairV (stepM ⟨f, wt, l, x⟩ i (lrnN wit)) = R at *
          clear HSS HMC hm
          have HB := Lib.hid (Two.start w (.cells #[.int .i64 f, .int .i64 wt, .int .i64 l, .int .i64 x] 23) (.cells #[.int .i64 0, .int .i64 0, .int .i64 0, .int .i64 0] 23))
          go_enter Try.func23, Try.ntmps23
          go_wp2_with (first | (go_at_call 33; refine (isNode_any _ _).mono ?_; rintro e wq ⟨rfl, rfl⟩; rw [HI.out]) | (go_at_call 22; refine Calls.mono (HKd.out _) ?_; rintro e wq ⟨rfl, hb⟩; have HB := Lib.hid (HB.out.on hb); clear hb; obtain ⟨d0, d1, d2, d3⟩ := cells4 HB.out.a; have f0 := frozen_of HB.out.a 0; have f1 := frozen_of HB.out.b 0; have f2 := frozen_of HB.out.b 1; have f3 := frozen_of HB.out.b 2; have f4 := frozen_of HB.out.b 3; obtain ⟨h0, h1, h2, h3⟩ := cells4 HB.out.b) | (go_at_call 34; refine Calls.mono (HWt.out _) ?_; rintro e wq ⟨rfl, hb⟩; have HB := Lib.hid (HB.out.on hb); clear hb; obtain ⟨d0, d1, d2, d3⟩ := cells4 HB.out.a; have f0 := frozen_of HB.out.a 0; have f1 := frozen_of HB.out.b 0; have f2 := frozen_of HB.out.b 1; have f3 := frozen_of HB.out.b 2; have f4 := frozen_of HB.out.b 3; obtain ⟨h0, h1, h2, h3⟩ := cells4 HB.out.b; have HM := Lib.hid (alloc_here (w := wq) (n := wq.heap.size) (.cells #[.int .i64 mf, .int .i64 mw, .int .i64 ml, .int .i64 mx] 23) rfl); have HB := Lib.hid (HB.out.alloc (.cells #[.int .i64 mf, .int .i64 mw, .int .i64 ml, .int .i64 mx] 23)); obtain ⟨p0, p1, p2, p3⟩ := cells4 HB.out.a; have q0 := frozen_of HB.out.a 0; have q1 := frozen_of HB.out.b 0; have q2 := frozen_of HB.out.b 1; have q3 := frozen_of HB.out.b 2; have q4 := frozen_of HB.out.b 3; obtain ⟨r0, r1, r2, r3⟩ := cells4 HB.out.b) | (go_at_call 21; refine (Check_any ⟨_, _, _, _⟩ _).mono ?_; rintro e wz ⟨rfl, hb⟩; first | (rw [hcf]; have HB := Lib.hid (HB.out.on hb); clear hb; obtain ⟨d0, d1, d2, d3⟩ := cells4 HB.out.a; have f0 := frozen_of HB.out.a 0; have f1 := frozen_of HB.out.b 0; have f2 := frozen_of HB.out.b 1; have f3 := frozen_of HB.out.b 2; have f4 := frozen_of HB.out.b 3; obtain ⟨h0, h1, h2, h3⟩ := cells4 HB.out.b) | (rw [hcm]; have HM := Lib.hid (box_on HM.out hb); obtain ⟨m0, m1, m2, m3⟩ := cells4 HM.out; have HB := Lib.hid (HB.out.on hb); clear hb; obtain ⟨d0, d1, d2, d3⟩ := cells4 HB.out.a; have f0 := frozen_of HB.out.a 0; have f1 := frozen_of HB.out.b 0; have f2 := frozen_of HB.out.b 1; have f3 := frozen_of HB.out.b 2; have f4 := frozen_of HB.out.b 3; obtain ⟨h0, h1, h2, h3⟩ := cells4 HB.out.b)) | (go_at_call 24; refine Calls.mono (HCl.out _ HB.out.beh) ?_; rintro e wq ⟨rfl, rfl⟩))
          (try simp only [Exit.inBlock, Exit.then])
          refine bodyPost_ret (v := .tuple #[.agg #[.int .i64 0, .int .i64 0, .int .i64 0, .int .i64 0], .int .i64 14]) ?_ rfl ⟨ret_val HS.out.symm, by repeat' (first | exact HB.out.beh | refine Below.setCell ?_ (show w.heap.size ≤ w.heap.size + 1 by omega) _)⟩
          rw [results_cell_tmp rfl]
          go_simp
        · have HS := Lib.hid (show pairV (stepM ⟨f, wt, l, x⟩ i (lrnN wit)) = .tuple #[m.val, .int .i64 0] by rw [HSS.out, hm]; rfl)
          have hcm : m.check = 0 := by rw [HMC.out, hm]; rfl
          obtain ⟨mf, mw, ml, mx⟩ := m
          generalize pairV (stepM ⟨f, wt, l, x⟩ i (lrnN wit)) = R at *
          clear HSS HMC hm
          have HB := Lib.hid (Two.start w (.cells #[.int .i64 f, .int .i64 wt, .int .i64 l, .int .i64 x] 23) (.cells #[.int .i64 0, .int .i64 0, .int .i64 0, .int .i64 0] 23))
          go_enter Try.func23, Try.ntmps23
          go_wp2_with (first | (go_at_call 33; refine (isNode_any _ _).mono ?_; rintro e wq ⟨rfl, rfl⟩; rw [HI.out]) | (go_at_call 22; refine Calls.mono (HKd.out _) ?_; rintro e wq ⟨rfl, hb⟩; have HB := Lib.hid (HB.out.on hb); clear hb; obtain ⟨d0, d1, d2, d3⟩ := cells4 HB.out.a; have f0 := frozen_of HB.out.a 0; have f1 := frozen_of HB.out.b 0; have f2 := frozen_of HB.out.b 1; have f3 := frozen_of HB.out.b 2; have f4 := frozen_of HB.out.b 3; obtain ⟨h0, h1, h2, h3⟩ := cells4 HB.out.b) | (go_at_call 34; refine Calls.mono (HWt.out _) ?_; rintro e wq ⟨rfl, hb⟩; have HB := Lib.hid (HB.out.on hb); clear hb; obtain ⟨d0, d1, d2, d3⟩ := cells4 HB.out.a; have f0 := frozen_of HB.out.a 0; have f1 := frozen_of HB.out.b 0; have f2 := frozen_of HB.out.b 1; have f3 := frozen_of HB.out.b 2; have f4 := frozen_of HB.out.b 3; obtain ⟨h0, h1, h2, h3⟩ := cells4 HB.out.b; have HM := Lib.hid (alloc_here (w := wq) (n := wq.heap.size) (.cells #[.int .i64 mf, .int .i64 mw, .int .i64 ml, .int .i64 mx] 23) rfl); have HB := Lib.hid (HB.out.alloc (.cells #[.int .i64 mf, .int .i64 mw, .int .i64 ml, .int .i64 mx] 23)); obtain ⟨p0, p1, p2, p3⟩ := cells4 HB.out.a; have q0 := frozen_of HB.out.a 0; have q1 := frozen_of HB.out.b 0; have q2 := frozen_of HB.out.b 1; have q3 := frozen_of HB.out.b 2; have q4 := frozen_of HB.out.b 3; obtain ⟨r0, r1, r2, r3⟩ := cells4 HB.out.b) | (go_at_call 21; refine (Check_any ⟨_, _, _, _⟩ _).mono ?_; rintro e wz ⟨rfl, hb⟩; first | (rw [hcf]; have HB := Lib.hid (HB.out.on hb); clear hb; obtain ⟨d0, d1, d2, d3⟩ := cells4 HB.out.a; have f0 := frozen_of HB.out.a 0; have f1 := frozen_of HB.out.b 0; have f2 := frozen_of HB.out.b 1; have f3 := frozen_of HB.out.b 2; have f4 := frozen_of HB.out.b 3; obtain ⟨h0, h1, h2, h3⟩ := cells4 HB.out.b) | (rw [hcm]; have HM := Lib.hid (box_on HM.out hb); obtain ⟨m0, m1, m2, m3⟩ := cells4 HM.out; have HB := Lib.hid (HB.out.on hb); clear hb; obtain ⟨d0, d1, d2, d3⟩ := cells4 HB.out.a; have f0 := frozen_of HB.out.a 0; have f1 := frozen_of HB.out.b 0; have f2 := frozen_of HB.out.b 1; have f3 := frozen_of HB.out.b 2; have f4 := frozen_of HB.out.b 3; obtain ⟨h0, h1, h2, h3⟩ := cells4 HB.out.b)) | (go_at_call 24; refine Calls.mono (HCl.out _ HB.out.beh) ?_; rintro e wq ⟨rfl, rfl⟩))
          (try simp only [Exit.inBlock, Exit.then])
          refine bodyPost_ret (v := .tuple #[.agg #[.int .i64 mf, .int .i64 mw, .int .i64 ml, .int .i64 mx], .int .i64 0]) ?_ rfl ⟨ret_val HS.out.symm, by repeat' (first | exact HB.out.beh | refine Below.setCell ?_ (show w.heap.size ≤ w.heap.size + 1 by omega) _)⟩
          rw [results_cell_tmp rfl]
          go_simp
end Go.Proofs.Ytakaflbfhpalhaa.Cn
