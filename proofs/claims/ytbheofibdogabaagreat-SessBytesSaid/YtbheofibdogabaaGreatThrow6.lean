import Derived.Test.YtbheofibdogabaaGreatMergeSb11
import Derived.Test.YtbheofibdogabaaGreatCode5b
/- What is thrown: must, joined, work. -/
namespace Go.Proofs.YtbheofibdogabaaGreat.Kv
open Go Go.RowKit Vl Nm Mem
attribute [local go_sem] run_bits run_frombits run_store_float

def thrown (c : Int) (v : V) : List PanicEntry := [{ v := .iface 52 (rep c v), recovered := false }]
set_option maxRecDepth 100000 in
theorem results_cells {fn : Func} {p q : Tmp} {ty tz : TypeId} (h : fn.results = #[.cell p ty, .cell q tz]) (tmps : Array Value) (P : Program) (w : World) :
    (results fn tmps).run P w = ((asAddr (tmps.getD p undef)).run P w).andThen fun a w₁ => ((loadVar ty a).run P w₁).andThen fun x w₂ => ((asAddr (tmps.getD q undef)).run P w₂).andThen fun b w₃ => ((loadVar tz b).run P w₃).andThen fun y w₄ => .ok (.tuple #[x, y]) w₄ := by
  simp only [results, h]
  simp [Sem.run_bind, Result.andThen]
set_option maxRecDepth 100000 in
theorem must_ok (w : World) : Calls Tryz.prog 85 #[.int .i64 0] w fun e w' => e = .returned (.tuple #[]) ∧ w = w' := by
  go_enter Tryz.func85, Tryz.ntmps85
  go_wp2
  go_end0
  exact ⟨rfl, rfl⟩
set_option maxRecDepth 100000 in
theorem must_not (c : Int) (h : c ≠ 0) (w : World) : Calls Tryz.prog 85 #[.int .i64 c] w fun e w' => e = .panicked (thrown c V.zero) ∧ w = w' := by
  have d := int_nbne h
  clear h
  go_enter Tryz.func85, Tryz.ntmps85
  go_wp2
  exact ⟨rfl, rfl, rfl⟩
set_option maxRecDepth 100000 in
theorem joined_ok (v : V) (w : World) : Calls Tryz.prog 103 #[v.val, .int .i64 0] w fun e w' => e = .returned v.val ∧ Below w.heap.size w w' := by
  obtain ⟨k, n, s⟩ := v
  go_enter Tryz.func103, Tryz.ntmps103
  go_wp2_with (first | (go_at_call 85; refine (must_ok _).mono ?_; rintro e w' ⟨rfl, rfl⟩))
  refine bodyPost_ret (v := (V.mk k n s).val) ?_ rfl ⟨rfl, by show Beh w _; repeat' (first | exact Beh.start _ | refine Beh.alloc ?_ _ | refine Beh.set ?_ (by omega) _ _)⟩
  rw [results_cell_one rfl]
  go_simp
set_option maxRecDepth 100000 in
theorem joined_not (v : V) (c : Int) (h : c ≠ 0) (w : World) : Calls Tryz.prog 103 #[v.val, .int .i64 c] w fun e w' => e = .panicked (thrown c V.zero) ∧ Below w.heap.size w w' := by
  obtain ⟨k, n, s⟩ := v
  go_enter Tryz.func103, Tryz.ntmps103
  go_wp2_with (first | (go_at_call 85; refine (must_not _ h _).mono ?_; rintro e w' ⟨rfl, rfl⟩))
  exact ⟨rfl, rfl, below_alloc2 _ _ _⟩
/-- the blocks of a call of work -/
structure Wk (w0 w : World) (v : V) (c : Cm) : Prop where
  b0 : w.heap[w0.heap.size]? = some (Vobj v)
  b1 : w.heap[w0.heap.size + 1]? = some c.obj
  b2 : w.heap[w0.heap.size + 1 + 1]? = some (Vobj V.zero)
  b3 : w.heap[w0.heap.size + 1 + 1 + 1]? = some (Vobj V.zero)
  beh : Beh w0 w
set_option maxRecDepth 100000 in
theorem Wk.start (w : World) (v : V) (c : Cm) : Wk w ((((w.alloc (Vobj v)).alloc c.obj).alloc (Vobj V.zero)).alloc (Vobj V.zero)) v c :=
  ⟨old_alloc _ (old_alloc _ (old_alloc _ (alloc_here _ rfl))), old_alloc _ (old_alloc _ (alloc_here _ (by simp))), old_alloc _ (alloc_here _ (by simp)), alloc_here _ (by simp), (((Beh.start w).alloc _).alloc _).alloc _ |>.alloc _⟩
set_option maxRecDepth 100000 in
theorem Wk.on {w0 w w' : World} {v : V} {c : Cm} (h : Wk w0 w v c) (hb : Below w.heap.size w w') : Wk w0 w' v c :=
  ⟨box_on h.b0 hb, box_on h.b1 hb, box_on h.b2 hb, box_on h.b3 hb, h.beh.on hb⟩
set_option maxHeartbeats 800000 in
set_option maxRecDepth 100000 in
theorem work_put (v : V) (c : Cm) (h : c.kind = 2) (w : World) : Calls Tryz.prog 86 #[v.val, c.agg] w fun e w' => e = .returned (.tuple #[c.val.val, v.val]) ∧ Below w.heap.size w w' := by
  obtain ⟨k, key, ⟨ok, on, os⟩, ⟨vk, vn, vs⟩⟩ := c
  obtain ⟨uk, un, us⟩ := v
  obtain rfl : k = 2 := h
  go_enter Tryz.func86, Tryz.ntmps86
  go_wp2_with fail
  go_region
  go_wp2_with fail
  (try simp only [Exit.inBlock, Exit.then])
  refine bodyPost_ret (v := .tuple #[(V.mk vk vn vs).val, (V.mk uk un us).val]) ?_ rfl ⟨rfl, by show Beh w _; repeat' (first | with_reducible exact HK.out.beh | with_reducible exact Beh.start _ | with_reducible refine Beh.drew ?_ | with_reducible refine Beh.drewN ?_ _ | with_reducible refine Beh.alloc ?_ _ | with_reducible refine Beh.set ?_ (by omega) _ _)⟩
  rw [results_cells rfl]
  go_simp
set_option maxHeartbeats 800000 in
set_option maxRecDepth 100000 in
theorem work_del (v : V) (c : Cm) (h : c.kind = 3) (w : World) : Calls Tryz.prog 86 #[v.val, c.agg] w fun e w' => e = .returned (.tuple #[V.zero.val, v.val]) ∧ Below w.heap.size w w' := by
  obtain ⟨k, key, ⟨ok, on, os⟩, ⟨vk, vn, vs⟩⟩ := c
  obtain ⟨uk, un, us⟩ := v
  obtain rfl : k = 3 := h
  go_enter Tryz.func86, Tryz.ntmps86
  go_wp2_with fail
  go_region
  go_wp2_with fail
  (try simp only [Exit.inBlock, Exit.then])
  refine bodyPost_ret (v := .tuple #[V.zero.val, (V.mk uk un us).val]) ?_ rfl ⟨rfl, by show Beh w _; repeat' (first | with_reducible exact HK.out.beh | with_reducible exact Beh.start _ | with_reducible refine Beh.drew ?_ | with_reducible refine Beh.drewN ?_ _ | with_reducible refine Beh.alloc ?_ _ | with_reducible refine Beh.set ?_ (by omega) _ _)⟩
  rw [results_cells rfl]
  go_simp
set_option maxHeartbeats 800000 in
set_option maxRecDepth 100000 in
theorem work_get (v : V) (c : Cm) (h2 : c.kind ≠ 2) (h3 : c.kind ≠ 3) (h4 : c.kind ≠ 4) (h5 : c.kind ≠ 5) (h6 : c.kind ≠ 6) (w : World) : Calls Tryz.prog 86 #[v.val, c.agg] w fun e w' => e = .returned (.tuple #[v.val, v.val]) ∧ Below w.heap.size w w' := by
  obtain ⟨k, key, ⟨ok, on, os⟩, ⟨vk, vn, vs⟩⟩ := c
  obtain ⟨uk, un, us⟩ := v
  have m2 := int_nbeq h2
  have m3 := int_nbeq h3
  have m4 := int_nbeq h4
  have m5 := int_nbeq h5
  have m6 := int_nbeq h6
  clear h2 h3 h4 h5 h6
  go_enter Tryz.func86, Tryz.ntmps86
  go_wp2_with fail
  go_region
  go_wp2_with fail
  (try simp only [Exit.inBlock, Exit.then])
  refine bodyPost_ret (v := .tuple #[(V.mk uk un us).val, (V.mk uk un us).val]) ?_ rfl ⟨rfl, by show Beh w _; repeat' (first | with_reducible exact HK.out.beh | with_reducible exact Beh.start _ | with_reducible refine Beh.drew ?_ | with_reducible refine Beh.drewN ?_ _ | with_reducible refine Beh.alloc ?_ _ | with_reducible refine Beh.set ?_ (by omega) _ _)⟩
  rw [results_cells rfl]
  go_simp
set_option maxHeartbeats 1600000 in
set_option maxRecDepth 100000 in
theorem work_cas (v : V) (c : Cm) (h : c.kind = 4) (hs : v.same c.old = true) (w : World) : Calls Tryz.prog 86 #[v.val, c.agg] w fun e w' => e = .returned (.tuple #[c.val.val, v.val]) ∧ Below w.heap.size w w' := by
  obtain ⟨k, key, ⟨ok, on, os⟩, ⟨vk, vn, vs⟩⟩ := c
  obtain ⟨uk, un, us⟩ := v
  obtain rfl : k = 4 := h
  have HK := Lib.hid (Wk.start w ⟨uk, un, us⟩ ⟨4, key, ⟨ok, on, os⟩, ⟨vk, vn, vs⟩⟩)
  go_enter Tryz.func86, Tryz.ntmps86
  go_wp2_with (first | (go_at_call 102; refine (Same_v ⟨_, _, _⟩ ⟨_, _, _⟩ _).mono ?_; rintro e w' ⟨rfl, hb⟩; (have HK := Lib.hid (HK.out.on hb)); clear hb; obtain ⟨a0, a1, a2, _⟩ := cells3 HK.out.b0; obtain ⟨c0, c1, c2, c3, c4, c5, c6, c7⟩ := cells8 HK.out.b1; obtain ⟨p0, p1, p2, q0, q1, q2⟩ := cells3 HK.out.b2; obtain ⟨r0, r1, r2, s0, s1, s2⟩ := cells3 HK.out.b3; dsimp only at a0 a1 a2 c0 c1 c2 c3 c4 c5 c6 c7 p0 p1 p2 r0 r1 r2))
  go_region
  go_wp2_with fail
  (try simp only [Exit.inBlock, Exit.then])
  refine bodyPost_ret (v := .tuple #[(V.mk vk vn vs).val, (V.mk uk un us).val]) ?_ rfl ⟨rfl, by show Beh w _; repeat' (first | with_reducible exact HK.out.beh | with_reducible exact Beh.start _ | with_reducible refine Beh.drew ?_ | with_reducible refine Beh.drewN ?_ _ | with_reducible refine Beh.alloc ?_ _ | with_reducible refine Beh.set ?_ (by omega) _ _)⟩
  rw [results_cells rfl]
  go_simp
set_option maxHeartbeats 1600000 in
set_option maxRecDepth 100000 in
theorem work_other (v : V) (c : Cm) (h : c.kind = 4) (hs : v.same c.old = false) (w : World) : Calls Tryz.prog 86 #[v.val, c.agg] w fun e w' => e = .panicked (thrown 9 v) ∧ Below w.heap.size w w' := by
  obtain ⟨k, key, ⟨ok, on, os⟩, ⟨vk, vn, vs⟩⟩ := c
  obtain ⟨uk, un, us⟩ := v
  obtain rfl : k = 4 := h
  have HK := Lib.hid (Wk.start w ⟨uk, un, us⟩ ⟨4, key, ⟨ok, on, os⟩, ⟨vk, vn, vs⟩⟩)
  go_enter Tryz.func86, Tryz.ntmps86
  go_wp2_with (first | (go_at_call 102; refine (Same_v ⟨_, _, _⟩ ⟨_, _, _⟩ _).mono ?_; rintro e w' ⟨rfl, hb⟩; (have HK := Lib.hid (HK.out.on hb)); clear hb; obtain ⟨a0, a1, a2, _⟩ := cells3 HK.out.b0; obtain ⟨c0, c1, c2, c3, c4, c5, c6, c7⟩ := cells8 HK.out.b1; obtain ⟨p0, p1, p2, q0, q1, q2⟩ := cells3 HK.out.b2; obtain ⟨r0, r1, r2, s0, s1, s2⟩ := cells3 HK.out.b3; dsimp only at a0 a1 a2 c0 c1 c2 c3 c4 c5 c6 c7 p0 p1 p2 r0 r1 r2))
  exact ⟨rfl, rfl, HK.out.beh⟩
set_option maxHeartbeats 1600000 in
set_option maxRecDepth 100000 in
theorem work_add (v : V) (c : Cm) (h : c.kind = 5) (hv : v.num < 18446744073709551616) (hc : c.val.num < 18446744073709551616) (hj : (joined sumC v c.val).2 = 0) (w : World) : Calls Tryz.prog 86 #[v.val, c.agg] w fun e w' => e = .returned (.tuple #[(joined sumC v c.val).1.val, (joined sumC v c.val).1.val]) ∧ Below w.heap.size w w' := by
  obtain ⟨k, key, ⟨ok, on, os⟩, ⟨vk, vn, vs⟩⟩ := c
  obtain ⟨uk, un, us⟩ := v
  obtain rfl : k = 5 := h
  have HK := Lib.hid (Wk.start w ⟨uk, un, us⟩ ⟨5, key, ⟨ok, on, os⟩, ⟨vk, vn, vs⟩⟩)
  have HJ := fun w => Lib.hid (Add_v ⟨uk, un, us⟩ ⟨vk, vn, vs⟩ hv hc w)
  dsimp only at hj ⊢
  unfold JoinTold at HJ
  rw [hj] at HJ
  clear hv hc hj
  generalize (joined sumC ⟨uk, un, us⟩ ⟨vk, vn, vs⟩).1 = j at *
  obtain ⟨jk, jn, js⟩ := j
  go_enter Tryz.func86, Tryz.ntmps86
  go_wp2_with (first | (go_at_call 104; refine ((HJ _).out).mono ?_; rintro e w' ⟨rfl, hb⟩; (have HK := Lib.hid (HK.out.on hb)); clear hb; obtain ⟨a0, a1, a2, _⟩ := cells3 HK.out.b0; obtain ⟨c0, c1, c2, c3, c4, c5, c6, c7⟩ := cells8 HK.out.b1; obtain ⟨p0, p1, p2, q0, q1, q2⟩ := cells3 HK.out.b2; obtain ⟨r0, r1, r2, s0, s1, s2⟩ := cells3 HK.out.b3; dsimp only at a0 a1 a2 c0 c1 c2 c3 c4 c5 c6 c7 p0 p1 p2 r0 r1 r2) | (go_at_call 103; refine (joined_ok ⟨_, _, _⟩ _).mono ?_; rintro e w' ⟨rfl, hb⟩; (have HK := Lib.hid (HK.out.on hb)); clear hb; (have n3 : ¬ w'.heap.size = w.heap.size + 1 + 1 + 1 := by have := heap_lt HK.out.b3; omega); (have n2 : ¬ w'.heap.size = w.heap.size + 1 + 1 := by have := heap_lt HK.out.b3; omega); (have m3 : ¬ w.heap.size + 1 + 1 + 1 = w'.heap.size := fun h => n3 h.symm); (have m2 : ¬ w.heap.size + 1 + 1 = w'.heap.size := fun h => n2 h.symm); obtain ⟨a0, a1, a2, _⟩ := cells3_on HK.out.b0; obtain ⟨c0, c1, c2, c3, c4, c5, c6, c7⟩ := cells8 HK.out.b1; obtain ⟨p0, p1, p2, q0, q1, q2⟩ := cells3_on HK.out.b2; obtain ⟨r0, r1, r2, s0, s1, s2⟩ := cells3_on HK.out.b3; dsimp only at a0 a1 a2 c0 c1 c2 c3 c4 c5 c6 c7))
  go_region
  go_wp2_with fail
  (try simp only [Exit.inBlock, Exit.then])
  refine bodyPost_ret (v := .tuple #[(V.mk jk jn js).val, (V.mk jk jn js).val]) ?_ rfl ⟨rfl, by show Beh w _; repeat' (first | with_reducible exact HK.out.beh | with_reducible exact Beh.start _ | with_reducible refine Beh.drew ?_ | with_reducible refine Beh.drewN ?_ _ | with_reducible refine Beh.alloc ?_ _ | with_reducible refine Beh.set ?_ (by omega) _ _)⟩
  rw [results_cells rfl]
  go_simp
set_option maxHeartbeats 1600000 in
set_option maxRecDepth 100000 in
theorem work_add_not (v : V) (c : Cm) (h : c.kind = 5) (hv : v.num < 18446744073709551616) (hc : c.val.num < 18446744073709551616) (hj : (joined sumC v c.val).2 ≠ 0) (w : World) : Calls Tryz.prog 86 #[v.val, c.agg] w fun e w' => e = .panicked (thrown (joined sumC v c.val).2 V.zero) ∧ Below w.heap.size w w' := by
  obtain ⟨k, key, ⟨ok, on, os⟩, ⟨vk, vn, vs⟩⟩ := c
  obtain ⟨uk, un, us⟩ := v
  obtain rfl : k = 5 := h
  have HK := Lib.hid (Wk.start w ⟨uk, un, us⟩ ⟨5, key, ⟨ok, on, os⟩, ⟨vk, vn, vs⟩⟩)
  have HJ := fun w => Lib.hid (Add_v ⟨uk, un, us⟩ ⟨vk, vn, vs⟩ hv hc w)
  dsimp only at hj ⊢
  unfold JoinTold at HJ
  clear hv hc
  generalize (joined sumC ⟨uk, un, us⟩ ⟨vk, vn, vs⟩).2 = jc at *
  generalize (joined sumC ⟨uk, un, us⟩ ⟨vk, vn, vs⟩).1 = j at *
  obtain ⟨jk, jn, js⟩ := j
  have HJN := Lib.hid hj
  clear hj
  go_enter Tryz.func86, Tryz.ntmps86
  go_wp2_with (first | (go_at_call 104; refine ((HJ _).out).mono ?_; rintro e w' ⟨rfl, hb⟩; (have HK := Lib.hid (HK.out.on hb)); clear hb; obtain ⟨a0, a1, a2, _⟩ := cells3 HK.out.b0; obtain ⟨c0, c1, c2, c3, c4, c5, c6, c7⟩ := cells8 HK.out.b1; obtain ⟨p0, p1, p2, q0, q1, q2⟩ := cells3 HK.out.b2; obtain ⟨r0, r1, r2, s0, s1, s2⟩ := cells3 HK.out.b3; dsimp only at a0 a1 a2 c0 c1 c2 c3 c4 c5 c6 c7 p0 p1 p2 r0 r1 r2) | (go_at_call 103; refine (joined_not ⟨_, _, _⟩ _ HJN.out _).mono ?_; rintro e w' ⟨rfl, hb⟩; (have HK := Lib.hid (HK.out.on hb)); clear hb))
  exact ⟨rfl, rfl, HK.out.beh⟩
set_option maxHeartbeats 1600000 in
set_option maxRecDepth 100000 in
theorem work_max (v : V) (c : Cm) (h : c.kind = 6) (hv : v.num < 18446744073709551616) (hc : c.val.num < 18446744073709551616) (hj : (joined maxF v c.val).2 = 0) (w : World) : Calls Tryz.prog 86 #[v.val, c.agg] w fun e w' => e = .returned (.tuple #[(joined maxF v c.val).1.val, (joined maxF v c.val).1.val]) ∧ Below w.heap.size w w' := by
  obtain ⟨k, key, ⟨ok, on, os⟩, ⟨vk, vn, vs⟩⟩ := c
  obtain ⟨uk, un, us⟩ := v
  obtain rfl : k = 6 := h
  have HK := Lib.hid (Wk.start w ⟨uk, un, us⟩ ⟨6, key, ⟨ok, on, os⟩, ⟨vk, vn, vs⟩⟩)
  have HJ := fun w => Lib.hid (Max_v ⟨uk, un, us⟩ ⟨vk, vn, vs⟩ hv hc w)
  dsimp only at hj ⊢
  unfold JoinTold at HJ
  rw [hj] at HJ
  clear hv hc hj
  generalize (joined maxF ⟨uk, un, us⟩ ⟨vk, vn, vs⟩).1 = j at *
  obtain ⟨jk, jn, js⟩ := j
  go_enter Tryz.func86, Tryz.ntmps86
  go_wp2_with (first | (go_at_call 105; refine ((HJ _).out).mono ?_; rintro e w' ⟨rfl, hb⟩; (have HK := Lib.hid (HK.out.on hb)); clear hb; obtain ⟨a0, a1, a2, _⟩ := cells3 HK.out.b0; obtain ⟨c0, c1, c2, c3, c4, c5, c6, c7⟩ := cells8 HK.out.b1; obtain ⟨p0, p1, p2, q0, q1, q2⟩ := cells3 HK.out.b2; obtain ⟨r0, r1, r2, s0, s1, s2⟩ := cells3 HK.out.b3; dsimp only at a0 a1 a2 c0 c1 c2 c3 c4 c5 c6 c7 p0 p1 p2 r0 r1 r2) | (go_at_call 103; refine (joined_ok ⟨_, _, _⟩ _).mono ?_; rintro e w' ⟨rfl, hb⟩; (have HK := Lib.hid (HK.out.on hb)); clear hb; (have n3 : ¬ w'.heap.size = w.heap.size + 1 + 1 + 1 := by have := heap_lt HK.out.b3; omega); (have n2 : ¬ w'.heap.size = w.heap.size + 1 + 1 := by have := heap_lt HK.out.b3; omega); (have m3 : ¬ w.heap.size + 1 + 1 + 1 = w'.heap.size := fun h => n3 h.symm); (have m2 : ¬ w.heap.size + 1 + 1 = w'.heap.size := fun h => n2 h.symm); obtain ⟨a0, a1, a2, _⟩ := cells3_on HK.out.b0; obtain ⟨c0, c1, c2, c3, c4, c5, c6, c7⟩ := cells8 HK.out.b1; obtain ⟨p0, p1, p2, q0, q1, q2⟩ := cells3_on HK.out.b2; obtain ⟨r0, r1, r2, s0, s1, s2⟩ := cells3_on HK.out.b3; dsimp only at a0 a1 a2 c0 c1 c2 c3 c4 c5 c6 c7))
  go_region
  go_wp2_with fail
  (try simp only [Exit.inBlock, Exit.then])
  refine bodyPost_ret (v := .tuple #[(V.mk jk jn js).val, (V.mk jk jn js).val]) ?_ rfl ⟨rfl, by show Beh w _; repeat' (first | with_reducible exact HK.out.beh | with_reducible exact Beh.start _ | with_reducible refine Beh.drew ?_ | with_reducible refine Beh.drewN ?_ _ | with_reducible refine Beh.alloc ?_ _ | with_reducible refine Beh.set ?_ (by omega) _ _)⟩
  rw [results_cells rfl]
  go_simp
set_option maxHeartbeats 1600000 in
set_option maxRecDepth 100000 in
theorem work_max_not (v : V) (c : Cm) (h : c.kind = 6) (hv : v.num < 18446744073709551616) (hc : c.val.num < 18446744073709551616) (hj : (joined maxF v c.val).2 ≠ 0) (w : World) : Calls Tryz.prog 86 #[v.val, c.agg] w fun e w' => e = .panicked (thrown (joined maxF v c.val).2 V.zero) ∧ Below w.heap.size w w' := by
  obtain ⟨k, key, ⟨ok, on, os⟩, ⟨vk, vn, vs⟩⟩ := c
  obtain ⟨uk, un, us⟩ := v
  obtain rfl : k = 6 := h
  have HK := Lib.hid (Wk.start w ⟨uk, un, us⟩ ⟨6, key, ⟨ok, on, os⟩, ⟨vk, vn, vs⟩⟩)
  have HJ := fun w => Lib.hid (Max_v ⟨uk, un, us⟩ ⟨vk, vn, vs⟩ hv hc w)
  dsimp only at hj ⊢
  unfold JoinTold at HJ
  clear hv hc
  generalize (joined maxF ⟨uk, un, us⟩ ⟨vk, vn, vs⟩).2 = jc at *
  generalize (joined maxF ⟨uk, un, us⟩ ⟨vk, vn, vs⟩).1 = j at *
  obtain ⟨jk, jn, js⟩ := j
  have HJN := Lib.hid hj
  clear hj
  go_enter Tryz.func86, Tryz.ntmps86
  go_wp2_with (first | (go_at_call 105; refine ((HJ _).out).mono ?_; rintro e w' ⟨rfl, hb⟩; (have HK := Lib.hid (HK.out.on hb)); clear hb; obtain ⟨a0, a1, a2, _⟩ := cells3 HK.out.b0; obtain ⟨c0, c1, c2, c3, c4, c5, c6, c7⟩ := cells8 HK.out.b1; obtain ⟨p0, p1, p2, q0, q1, q2⟩ := cells3 HK.out.b2; obtain ⟨r0, r1, r2, s0, s1, s2⟩ := cells3 HK.out.b3; dsimp only at a0 a1 a2 c0 c1 c2 c3 c4 c5 c6 c7 p0 p1 p2 r0 r1 r2) | (go_at_call 103; refine (joined_not ⟨_, _, _⟩ _ HJN.out _).mono ?_; rintro e w' ⟨rfl, hb⟩; (have HK := Lib.hid (HK.out.on hb)); clear hb))
  exact ⟨rfl, rfl, HK.out.beh⟩
end Go.Proofs.YtbheofibdogabaaGreat.Kv
