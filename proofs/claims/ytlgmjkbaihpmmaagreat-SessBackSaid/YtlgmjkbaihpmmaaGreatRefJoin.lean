/- Walks of the reference's join, Add, Max. -/
import Derived.Test.YtlgmjkbaihpmmaaGreatRefVal2
import Derived.Laws.ResultCell
namespace Go.Proofs.YtlgmjkbaihpmmaaGreat.Vl
open Go Go.RowKit Go.Proofs.YtlgmjkbaihpmmaaGreat.Nm
attribute [local go_sem] run_bits run_frombits run_store_float

theorem ret_pair {a b : Value} {c d : Int} (h : a = b) (h2 : c = d) : Ending.returned (.tuple #[a, .int .i64 c]) = .returned (.tuple #[b, .int .i64 d]) := by rw [h, h2]
theorem zero_told : V.zero.val = .agg #[.int .i64 0, .float .f64 0, .string ⟨#[]⟩] := rfl

theorem below4 (w : World) (a b c d : Obj) : Below w.heap.size w ((((w.alloc a).alloc b).alloc c).alloc d) := (below_alloc2 w a b).trans ((below_alloc2 _ c d).mono (below_alloc2 w a b).size)
theorem below5 (w : World) (a b c d e : Obj) : Below w.heap.size w (((((w.alloc a).alloc b).alloc c).alloc d).alloc e) := (below4 w a b c d).alloc (below4 w a b c d).size _
theorem int_beq {a b : Int} (h : a = b) : (a == b) = true := beq_iff_eq.2 h
theorem int_bne {a b : Int} (h : a = b) : (a != b) = false := by simp [h]
theorem int_nbeq {a b : Int} (h : a ≠ b) : (a == b) = false := beq_eq_false_iff_ne.2 h
theorem int_nbne {a b : Int} (h : a ≠ b) : (a != b) = true := by simp [h]
set_option maxHeartbeats 1600000 in
theorem join_a (a b : V) (add : Bool) (h : a.check ≠ 0) (w : World) :
    Calls Tryz.prog 96 #[a.val, b.val, .bool add] w fun e w' => e = .returned (.tuple #[V.zero.val, .int .i64 a.check]) ∧ Below w.heap.size w w' := by
  obtain ⟨k, x, s⟩ := a
  obtain ⟨l, y, t⟩ := b
  have h1 := int_nbeq h
  have h2 := int_nbne h
  clear h
  go_enter Tryz.func96, Tryz.ntmps96
  go_wp2_with (first | (go_at_call 25; refine (refCheck_any ⟨_, _, _⟩ _).mono ?_; rintro e w' ⟨rfl, o, rfl⟩))
  (try simp only [Exit.inBlock, Exit.then])
  refine bodyPost_ret (v := .tuple #[V.zero.val, .int .i64 (V.mk k x s).check]) ?_ rfl ⟨rfl, below4 _ _ _ _ _⟩
  rw [results_cell_tmp rfl]
  go_simp
set_option maxHeartbeats 1600000 in
theorem join_b (a b : V) (add : Bool) (ha : a.check = 0) (h : b.check ≠ 0) (w : World) :
    Calls Tryz.prog 96 #[a.val, b.val, .bool add] w fun e w' => e = .returned (.tuple #[V.zero.val, .int .i64 b.check]) ∧ Below w.heap.size w w' := by
  obtain ⟨k, x, s⟩ := a
  obtain ⟨l, y, t⟩ := b
  have h1 := int_nbeq h
  have h2 := int_nbne h
  have a1 := int_beq ha
  clear h ha
  go_enter Tryz.func96, Tryz.ntmps96
  go_wp2_with (first | (go_at_call 25; refine (refCheck_any ⟨_, _, _⟩ _).mono ?_; rintro e w' ⟨rfl, o, rfl⟩))
  (try simp only [Exit.inBlock, Exit.then])
  refine bodyPost_ret (v := .tuple #[V.zero.val, .int .i64 (V.mk l y t).check]) ?_ rfl ⟨rfl, below5 _ _ _ _ _ _⟩
  rw [results_cell_tmp rfl]
  go_simp
set_option maxHeartbeats 1600000 in
theorem join_none (a b : V) (add : Bool) (ha : a.check = 0) (hb : b.check = 0) (hk : a.kind = 0) (w : World) :
    Calls Tryz.prog 96 #[a.val, b.val, .bool add] w fun e w' => e = .returned (.tuple #[b.val, .int .i64 0]) ∧ Below w.heap.size w w' := by
  obtain ⟨k, x, s⟩ := a
  obtain ⟨l, y, t⟩ := b
  obtain rfl : k = 0 := hk
  have a1 := int_beq ha
  have a2 := int_bne ha
  have b1 := int_beq hb
  have b2 := int_bne hb
  clear ha hb
  go_enter Tryz.func96, Tryz.ntmps96
  go_wp2_with (first | (go_at_call 25; refine (refCheck_any ⟨_, _, _⟩ _).mono ?_; rintro e w' ⟨rfl, o, rfl⟩))
  (try simp only [Exit.inBlock, Exit.then])
  refine bodyPost_ret (v := .tuple #[(V.mk l y t).val, .int .i64 0]) ?_ rfl ⟨rfl, below5 _ _ _ _ _ _⟩
  rw [results_cell_tmp rfl]
  go_simp
set_option maxHeartbeats 1600000 in
theorem join_unlike_a (a b : V) (add : Bool) (ha : a.check = 0) (hb : b.check = 0) (hk : a.kind ≠ 0) (h : a.kind ≠ 1) (w : World) :
    Calls Tryz.prog 96 #[a.val, b.val, .bool add] w fun e w' => e = .returned (.tuple #[V.zero.val, .int .i64 8]) ∧ Below w.heap.size w w' := by
  obtain ⟨k, x, s⟩ := a
  obtain ⟨l, y, t⟩ := b
  have k0 : k ≠ 0 := hk
  have k1 : k ≠ 1 := h
  have a1 := int_beq ha
  have a2 := int_bne ha
  have b1 := int_beq hb
  have b2 := int_bne hb
  have e0 := int_nbeq k0
  have e1 := int_nbeq k1
  have e2 := int_nbne k1
  clear ha hb hk h k0 k1
  go_enter Tryz.func96, Tryz.ntmps96
  go_wp2_with (first | (go_at_call 25; refine (refCheck_any ⟨_, _, _⟩ _).mono ?_; rintro e w' ⟨rfl, o, rfl⟩))
  (try simp only [Exit.inBlock, Exit.then])
  refine bodyPost_ret (v := .tuple #[V.zero.val, .int .i64 8]) ?_ rfl ⟨rfl, below5 _ _ _ _ _ _⟩
  rw [results_cell_tmp rfl]
  go_simp
set_option maxHeartbeats 1600000 in
theorem join_unlike_b (a b : V) (add : Bool) (ha : a.check = 0) (hb : b.check = 0) (hk : a.kind = 1) (h : b.kind ≠ 1) (w : World) :
    Calls Tryz.prog 96 #[a.val, b.val, .bool add] w fun e w' => e = .returned (.tuple #[V.zero.val, .int .i64 8]) ∧ Below w.heap.size w w' := by
  obtain ⟨k, x, s⟩ := a
  obtain ⟨l, y, t⟩ := b
  obtain rfl : k = 1 := hk
  have k1 : l ≠ 1 := h
  have a1 := int_beq ha
  have a2 := int_bne ha
  have b1 := int_beq hb
  have b2 := int_bne hb
  have e1 := int_nbeq k1
  have e2 := int_nbne k1
  clear ha hb h k1
  go_enter Tryz.func96, Tryz.ntmps96
  go_wp2_with (first | (go_at_call 25; refine (refCheck_any ⟨_, _, _⟩ _).mono ?_; rintro e w' ⟨rfl, o, rfl⟩))
  (try simp only [Exit.inBlock, Exit.then])
  refine bodyPost_ret (v := .tuple #[V.zero.val, .int .i64 8]) ?_ rfl ⟨rfl, below5 _ _ _ _ _ _⟩
  rw [results_cell_tmp rfl]
  go_simp
set_option maxHeartbeats 1600000 in
theorem join_add (a b : V) (ha : a.check = 0) (hb : b.check = 0) (hk : a.kind = 1) (hl : b.kind = 1) (w : World) :
    Calls Tryz.prog 96 #[a.val, b.val, .bool true] w fun e w' => e = .returned (.tuple #[(V.mk 1 (sumC a.num b.num) (⟨#[]⟩ : ByteArray)).val, .int .i64 0]) ∧ Below w.heap.size w w' := by
  obtain ⟨k, x, s⟩ := a
  obtain ⟨l, y, t⟩ := b
  obtain rfl : k = 1 := hk
  obtain rfl : l = 1 := hl
  have a1 := int_beq ha
  have a2 := int_bne ha
  have b1 := int_beq hb
  have b2 := int_bne hb
  clear ha hb
  go_enter Tryz.func96, Tryz.ntmps96
  go_wp2_with (first | (go_at_call 25; refine (refCheck_any ⟨_, _, _⟩ _).mono ?_; rintro e w' ⟨rfl, o, rfl⟩) | (go_at_call 114; refine (refAdd_any _ _ _).mono ?_; rintro e w' ⟨rfl, n, rfl⟩))
  (try simp only [Exit.inBlock, Exit.then])
  refine bodyPost_ret (v := .tuple #[(V.mk 1 (sumC x y) (⟨#[]⟩ : ByteArray)).val, .int .i64 0]) ?_ rfl ⟨rfl, (by repeat' (first | exact below_drewN (below5 _ _ _ _ _ _) _ | refine Below.setCell ?_ (show w.heap.size ≤ w.heap.size + 1 + 1 by omega) _))⟩
  rw [results_cell_tmp rfl]
  go_simp
set_option maxHeartbeats 1600000 in
theorem join_max (a b : V) (ha : a.check = 0) (hb : b.check = 0) (hk : a.kind = 1) (hl : b.kind = 1) (hx : a.num < 18446744073709551616) (hy : b.num < 18446744073709551616) (w : World) :
    Calls Tryz.prog 96 #[a.val, b.val, .bool false] w fun e w' => e = .returned (.tuple #[(V.mk 1 (maxF a.num b.num) (⟨#[]⟩ : ByteArray)).val, .int .i64 0]) ∧ Below w.heap.size w w' := by
  obtain ⟨k, x, s⟩ := a
  obtain ⟨l, y, t⟩ := b
  obtain rfl : k = 1 := hk
  obtain rfl : l = 1 := hl
  have a1 := int_beq ha
  have a2 := int_bne ha
  have b1 := int_beq hb
  have b2 := int_bne hb
  clear ha hb
  have hx : x < 18446744073709551616 := hx
  have hy : y < 18446744073709551616 := hy
  go_enter Tryz.func96, Tryz.ntmps96
  go_wp2_with (first | (go_at_call 25; refine (refCheck_any ⟨_, _, _⟩ _).mono ?_; rintro e w' ⟨rfl, o, rfl⟩) | (go_at_call 115; refine (refMax_any _ _ (by assumption) (by assumption) _).mono ?_; rintro e w' ⟨rfl, rfl⟩))
  (try simp only [Exit.inBlock, Exit.then])
  refine bodyPost_ret (v := .tuple #[(V.mk 1 (maxF x y) (⟨#[]⟩ : ByteArray)).val, .int .i64 0]) ?_ rfl ⟨rfl, (by repeat' (first | exact below5 _ _ _ _ _ _ | refine Below.setCell ?_ (show w.heap.size ≤ w.heap.size + 1 + 1 by omega) _))⟩
  rw [results_cell_tmp rfl]
  go_simp
end Go.Proofs.YtlgmjkbaihpmmaaGreat.Vl
