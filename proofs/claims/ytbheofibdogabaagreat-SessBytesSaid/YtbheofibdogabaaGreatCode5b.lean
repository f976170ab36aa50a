import Derived.Test.YtbheofibdogabaaGreatMergeSb14
import Derived.Test.YtbheofibdogabaaGreatMergeSb11
/- Walks of the landed package value: join, Add, Max. -/
namespace Go.Proofs.YtbheofibdogabaaGreat.Vl
open Go Go.RowKit Go.Proofs.YtbheofibdogabaaGreat.Nm
attribute [local go_sem] run_bits run_frombits run_store_float

set_option maxHeartbeats 1600000 in
theorem vjoin_a (a b : V) (fv : Value) (h : a.check ≠ 0) (w : World) :
    Calls Tryz.prog 117 #[a.val, b.val, fv] w fun e w' => e = .returned (.tuple #[V.zero.val, .int .i64 a.check]) ∧ Below w.heap.size w w' := by
  obtain ⟨k, x, s⟩ := a
  obtain ⟨l, y, t⟩ := b
  have h1 := int_nbeq h
  have h2 := int_nbne h
  clear h
  go_enter Tryz.func117, Tryz.ntmps117
  go_wp2_with fail
  refine (Check_any ⟨_, _, _⟩ _).mono ?_
  rintro e w1 ⟨rfl, hb⟩
  obtain ⟨A1, B1, C1, hb1, hz1⟩ := three_on hb
  obtain ⟨c0, c1, c2, f0, f1, f2⟩ := cells3 C1
  have HB := Lib.hid hb1
  clear hb A1 B1 C1 hb1
  go_wp2_with fail
  (try simp only [Exit.inBlock, Exit.then])
  refine bodyPost_ret (v := .tuple #[V.zero.val, .int .i64 (V.mk k x s).check]) ?_ rfl ⟨rfl, by repeat' (first | exact HB.out | refine Below.setCell ?_ (show w.heap.size ≤ w.heap.size + 1 + 1 by omega) _)⟩
  rw [results_cell_tmp rfl]
  go_simp
set_option maxHeartbeats 1600000 in
theorem vjoin_b (a b : V) (fv : Value) (ha : a.check = 0) (h : b.check ≠ 0) (w : World) :
    Calls Tryz.prog 117 #[a.val, b.val, fv] w fun e w' => e = .returned (.tuple #[V.zero.val, .int .i64 b.check]) ∧ Below w.heap.size w w' := by
  obtain ⟨k, x, s⟩ := a
  obtain ⟨l, y, t⟩ := b
  have h1 := int_nbeq h
  have h2 := int_nbne h
  have a1 := int_beq ha
  have a2 := int_bne ha
  clear h ha
  go_enter Tryz.func117, Tryz.ntmps117
  go_wp2_with fail
  refine (Check_any ⟨_, _, _⟩ _).mono ?_
  rintro e w1 ⟨rfl, hb⟩
  obtain ⟨A1, B1, C1, hb1, hz1⟩ := three_on hb
  obtain ⟨b0, b1, b2, g0, g1, g2⟩ := cells3 B1
  have HA := Lib.hid A1
  have HBB := Lib.hid B1
  have HCC := Lib.hid C1
  have HB1 := Lib.hid hb1
  clear hb A1 B1 C1 hb1
  go_wp2_with fail
  refine (Check_any ⟨_, _, _⟩ _).mono ?_
  rintro e w2 ⟨rfl, hb⟩
  have A2 := box_on HA.out hb
  have B2 := box_on HBB.out hb
  have C2 := box_on HCC.out hb
  have HB := Lib.hid (below_on HB1.out (by omega) hb)
  clear b0 b1 b2 g0 g1 g2
  obtain ⟨a0, a1, a2, e0, e1, e2⟩ := cells3 A2
  obtain ⟨b0, b1, b2, g0, g1, g2⟩ := cells3 B2
  obtain ⟨c0, c1, c2, f0, f1, f2⟩ := cells3 C2
  clear hb A2 B2 C2
  go_wp2_with fail
  (try simp only [Exit.inBlock, Exit.then])
  refine bodyPost_ret (v := .tuple #[V.zero.val, .int .i64 (V.mk l y t).check]) ?_ rfl ⟨rfl, by repeat' (first | exact HB.out | refine below_drewN ?_ _ | refine Below.setCell ?_ (show w.heap.size ≤ w.heap.size + 1 + 1 by omega) _)⟩
  rw [results_cell_tmp rfl]
  go_simp
set_option maxHeartbeats 1600000 in
theorem vjoin_none (a b : V) (fv : Value) (ha : a.check = 0) (hb : b.check = 0) (hk : a.kind = 0) (w : World) :
    Calls Tryz.prog 117 #[a.val, b.val, fv] w fun e w' => e = .returned (.tuple #[b.val, .int .i64 0]) ∧ Below w.heap.size w w' := by
  obtain ⟨k, x, s⟩ := a
  obtain ⟨l, y, t⟩ := b
  obtain rfl : k = 0 := hk
  have a1 := int_beq ha
  have a2 := int_bne ha
  have b1 := int_beq hb
  have b2 := int_bne hb
  clear ha hb
  go_enter Tryz.func117, Tryz.ntmps117
  go_wp2_with fail
  refine (Check_any ⟨_, _, _⟩ _).mono ?_
  rintro e w1 ⟨rfl, hb⟩
  obtain ⟨A1, B1, C1, hb1, hz1⟩ := three_on hb
  obtain ⟨b0, b1, b2, g0, g1, g2⟩ := cells3 B1
  have HA := Lib.hid A1
  have HBB := Lib.hid B1
  have HCC := Lib.hid C1
  have HB1 := Lib.hid hb1
  clear hb A1 B1 C1 hb1
  go_wp2_with fail
  refine (Check_any ⟨_, _, _⟩ _).mono ?_
  rintro e w2 ⟨rfl, hb⟩
  have A2 := box_on HA.out hb
  have B2 := box_on HBB.out hb
  have C2 := box_on HCC.out hb
  have HB := Lib.hid (below_on HB1.out (by omega) hb)
  clear b0 b1 b2 g0 g1 g2
  obtain ⟨a0, a1, a2, e0, e1, e2⟩ := cells3 A2
  obtain ⟨b0, b1, b2, g0, g1, g2⟩ := cells3 B2
  obtain ⟨c0, c1, c2, f0, f1, f2⟩ := cells3 C2
  clear hb A2 B2 C2
  go_wp2_with fail
  (try simp only [Exit.inBlock, Exit.then])
  refine bodyPost_ret (v := .tuple #[(V.mk l y t).val, .int .i64 0]) ?_ rfl ⟨rfl, by repeat' (first | exact HB.out | refine below_drewN ?_ _ | refine Below.setCell ?_ (show w.heap.size ≤ w.heap.size + 1 + 1 by omega) _)⟩
  rw [results_cell_tmp rfl]
  go_simp
set_option maxHeartbeats 1600000 in
theorem vjoin_unlike_a (a b : V) (fv : Value) (ha : a.check = 0) (hb : b.check = 0) (hk : a.kind ≠ 0) (h : a.kind ≠ 1) (w : World) :
    Calls Tryz.prog 117 #[a.val, b.val, fv] w fun e w' => e = .returned (.tuple #[V.zero.val, .int .i64 8]) ∧ Below w.heap.size w w' := by
  obtain ⟨k, x, s⟩ := a
  obtain ⟨l, y, t⟩ := b
  have k0 : k ≠ 0 := hk
  have k1 : k ≠ 1 := h
  have a1 := int_beq ha
  have a2 := int_bne ha
  have b1 := int_beq hb
  have b2 := int_bne hb
  have e0' := int_nbeq k0
  have e1' := int_nbeq k1
  have e2' := int_nbne k1
  clear ha hb hk h k0 k1
  go_enter Tryz.func117, Tryz.ntmps117
  go_wp2_with fail
  refine (Check_any ⟨_, _, _⟩ _).mono ?_
  rintro e w1 ⟨rfl, hb⟩
  obtain ⟨A1, B1, C1, hb1, hz1⟩ := three_on hb
  obtain ⟨b0, b1, b2, g0, g1, g2⟩ := cells3 B1
  have HA := Lib.hid A1
  have HBB := Lib.hid B1
  have HCC := Lib.hid C1
  have HB1 := Lib.hid hb1
  clear hb A1 B1 C1 hb1
  go_wp2_with fail
  refine (Check_any ⟨_, _, _⟩ _).mono ?_
  rintro e w2 ⟨rfl, hb⟩
  have A2 := box_on HA.out hb
  have B2 := box_on HBB.out hb
  have C2 := box_on HCC.out hb
  have HB := Lib.hid (below_on HB1.out (by omega) hb)
  clear b0 b1 b2 g0 g1 g2
  obtain ⟨a0, a1, a2, e0, e1, e2⟩ := cells3 A2
  obtain ⟨b0, b1, b2, g0, g1, g2⟩ := cells3 B2
  obtain ⟨c0, c1, c2, f0, f1, f2⟩ := cells3 C2
  clear hb A2 B2 C2
  go_wp2_with fail
  (try simp only [Exit.inBlock, Exit.then])
  refine bodyPost_ret (v := .tuple #[V.zero.val, .int .i64 8]) ?_ rfl ⟨rfl, by repeat' (first | exact HB.out | refine below_drewN ?_ _ | refine Below.setCell ?_ (show w.heap.size ≤ w.heap.size + 1 + 1 by omega) _)⟩
  rw [results_cell_tmp rfl]
  go_simp
set_option maxHeartbeats 1600000 in
theorem vjoin_unlike_b (a b : V) (fv : Value) (ha : a.check = 0) (hb : b.check = 0) (hk : a.kind = 1) (h : b.kind ≠ 1) (w : World) :
    Calls Tryz.prog 117 #[a.val, b.val, fv] w fun e w' => e = .returned (.tuple #[V.zero.val, .int .i64 8]) ∧ Below w.heap.size w w' := by
  obtain ⟨k, x, s⟩ := a
  obtain ⟨l, y, t⟩ := b
  obtain rfl : k = 1 := hk
  have k1 : l ≠ 1 := h
  have a1 := int_beq ha
  have a2 := int_bne ha
  have b1 := int_beq hb
  have b2 := int_bne hb
  have e1' := int_nbeq k1
  have e2' := int_nbne k1
  clear ha hb h k1
  go_enter Tryz.func117, Tryz.ntmps117
  go_wp2_with fail
  refine (Check_any ⟨_, _, _⟩ _).mono ?_
  rintro e w1 ⟨rfl, hb⟩
  obtain ⟨A1, B1, C1, hb1, hz1⟩ := three_on hb
  obtain ⟨b0, b1, b2, g0, g1, g2⟩ := cells3 B1
  have HA := Lib.hid A1
  have HBB := Lib.hid B1
  have HCC := Lib.hid C1
  have HB1 := Lib.hid hb1
  clear hb A1 B1 C1 hb1
  go_wp2_with fail
  refine (Check_any ⟨_, _, _⟩ _).mono ?_
  rintro e w2 ⟨rfl, hb⟩
  have A2 := box_on HA.out hb
  have B2 := box_on HBB.out hb
  have C2 := box_on HCC.out hb
  have HB := Lib.hid (below_on HB1.out (by omega) hb)
  clear b0 b1 b2 g0 g1 g2
  obtain ⟨a0, a1, a2, e0, e1, e2⟩ := cells3 A2
  obtain ⟨b0, b1, b2, g0, g1, g2⟩ := cells3 B2
  obtain ⟨c0, c1, c2, f0, f1, f2⟩ := cells3 C2
  clear hb A2 B2 C2
  go_wp2_with fail
  (try simp only [Exit.inBlock, Exit.then])
  refine bodyPost_ret (v := .tuple #[V.zero.val, .int .i64 8]) ?_ rfl ⟨rfl, by repeat' (first | exact HB.out | refine below_drewN ?_ _ | refine Below.setCell ?_ (show w.heap.size ≤ w.heap.size + 1 + 1 by omega) _)⟩
  rw [results_cell_tmp rfl]
  go_simp
set_option maxHeartbeats 1600000 in
theorem vjoin_add (a b : V) (ha : a.check = 0) (hb : b.check = 0) (hk : a.kind = 1) (hl : b.kind = 1) (hx : a.num < 18446744073709551616) (hy : b.num < 18446744073709551616) (w : World) :
    Calls Tryz.prog 117 #[a.val, b.val, .func (.func 118) #[] #[]] w fun e w' => e = .returned (.tuple #[(V.mk 1 (sumC a.num b.num) (⟨#[]⟩ : ByteArray)).val, .int .i64 0]) ∧ Below w.heap.size w w' := by
  obtain ⟨k, x, s⟩ := a
  obtain ⟨l, y, t⟩ := b
  obtain rfl : k = 1 := hk
  obtain rfl : l = 1 := hl
  have a1 := int_beq ha
  have a2 := int_bne ha
  have b1 := int_beq hb
  have b2 := int_bne hb
  clear ha hb
  have hx : x < 18446744073709551616 := hx
  have hy : y < 18446744073709551616 := hy
  go_enter Tryz.func117, Tryz.ntmps117
  go_wp2_with fail
  refine (Check_any ⟨_, _, _⟩ _).mono ?_
  rintro e w1 ⟨rfl, hb⟩
  obtain ⟨A1, B1, C1, hb1, hz1⟩ := three_on hb
  obtain ⟨b0, b1, b2, g0, g1, g2⟩ := cells3 B1
  have HA := Lib.hid A1
  have HBB := Lib.hid B1
  have HCC := Lib.hid C1
  have HB1 := Lib.hid hb1
  clear hb A1 B1 C1 hb1
  go_wp2_with fail
  refine (Check_any ⟨_, _, _⟩ _).mono ?_
  rintro e w2 ⟨rfl, hb⟩
  have A2 := box_on HA.out hb
  have B2 := box_on HBB.out hb
  have C2 := box_on HCC.out hb
  have HB := Lib.hid (below_on HB1.out (by omega) hb)
  clear b0 b1 b2 g0 g1 g2
  obtain ⟨a0, a1, a2, e0, e1, e2⟩ := cells3 A2
  obtain ⟨b0, b1, b2, g0, g1, g2⟩ := cells3 B2
  obtain ⟨c0, c1, c2, f0, f1, f2⟩ := cells3 C2
  clear hb A2 B2 C2
  go_wp2_with (first | (go_at_call 118; refine (Add_any _ _ _).mono ?_; rintro e w' ⟨rfl, n, rfl⟩))
  (try simp only [Exit.inBlock, Exit.then])
  refine bodyPost_ret (v := .tuple #[(V.mk 1 (sumC x y) (⟨#[]⟩ : ByteArray)).val, .int .i64 0]) ?_ rfl ⟨rfl, by repeat' (first | exact HB.out | refine below_drewN ?_ _ | refine Below.setCell ?_ (show w.heap.size ≤ w.heap.size + 1 + 1 by omega) _)⟩
  rw [results_cell_tmp rfl]
  go_simp
set_option maxHeartbeats 1600000 in
theorem vjoin_max (a b : V) (ha : a.check = 0) (hb : b.check = 0) (hk : a.kind = 1) (hl : b.kind = 1) (hx : a.num < 18446744073709551616) (hy : b.num < 18446744073709551616) (w : World) :
    Calls Tryz.prog 117 #[a.val, b.val, .func (.func 119) #[] #[]] w fun e w' => e = .returned (.tuple #[(V.mk 1 (maxF a.num b.num) (⟨#[]⟩ : ByteArray)).val, .int .i64 0]) ∧ Below w.heap.size w w' := by
  obtain ⟨k, x, s⟩ := a
  obtain ⟨l, y, t⟩ := b
  obtain rfl : k = 1 := hk
  obtain rfl : l = 1 := hl
  have a1 := int_beq ha
  have a2 := int_bne ha
  have b1 := int_beq hb
  have b2 := int_bne hb
  clear ha hb
  have hx : x < 18446744073709551616 := hx
  have hy : y < 18446744073709551616 := hy
  go_enter Tryz.func117, Tryz.ntmps117
  go_wp2_with fail
  refine (Check_any ⟨_, _, _⟩ _).mono ?_
  rintro e w1 ⟨rfl, hb⟩
  obtain ⟨A1, B1, C1, hb1, hz1⟩ := three_on hb
  obtain ⟨b0, b1, b2, g0, g1, g2⟩ := cells3 B1
  have HA := Lib.hid A1
  have HBB := Lib.hid B1
  have HCC := Lib.hid C1
  have HB1 := Lib.hid hb1
  clear hb A1 B1 C1 hb1
  go_wp2_with fail
  refine (Check_any ⟨_, _, _⟩ _).mono ?_
  rintro e w2 ⟨rfl, hb⟩
  have A2 := box_on HA.out hb
  have B2 := box_on HBB.out hb
  have C2 := box_on HCC.out hb
  have HB := Lib.hid (below_on HB1.out (by omega) hb)
  clear b0 b1 b2 g0 g1 g2
  obtain ⟨a0, a1, a2, e0, e1, e2⟩ := cells3 A2
  obtain ⟨b0, b1, b2, g0, g1, g2⟩ := cells3 B2
  obtain ⟨c0, c1, c2, f0, f1, f2⟩ := cells3 C2
  clear hb A2 B2 C2
  go_wp2_with (first | (go_at_call 119; refine (Max_any _ _ (by assumption) (by assumption) _).mono ?_; rintro e w' ⟨rfl, rfl⟩))
  (try simp only [Exit.inBlock, Exit.then])
  refine bodyPost_ret (v := .tuple #[(V.mk 1 (maxF x y) (⟨#[]⟩ : ByteArray)).val, .int .i64 0]) ?_ rfl ⟨rfl, by repeat' (first | exact HB.out | refine below_drewN ?_ _ | refine Below.setCell ?_ (show w.heap.size ≤ w.heap.size + 1 + 1 by omega) _)⟩
  rw [results_cell_tmp rfl]
  go_simp
theorem vjoin_sum (a b : V) (ha : a.num < 18446744073709551616) (hb : b.num < 18446744073709551616) (w : World) :
    Calls Tryz.prog 117 #[a.val, b.val, .func (.func 118) #[] #[]] w (JoinTold sumC a b w) := by
  unfold JoinTold joined
  by_cases h1 : a.check = 0
  · by_cases h2 : b.check = 0
    · rw [if_neg (by omega), if_neg (by omega)]
      by_cases k0 : a.kind = 0
      · rw [if_pos k0]; exact vjoin_none a b _ h1 h2 k0 w
      · rw [if_neg k0]
        by_cases k1 : a.kind = 1
        · by_cases k2 : b.kind = 1
          · rw [if_neg (by omega)]
            exact vjoin_add a b h1 h2 k1 k2 ha hb w
          · rw [if_pos (.inr k2)]; exact vjoin_unlike_b a b _ h1 h2 k1 k2 w
        · rw [if_pos (.inl k1)]; exact vjoin_unlike_a a b _ h1 h2 k0 k1 w
    · rw [if_neg (by omega), if_pos h2]; exact vjoin_b a b _ h1 h2 w
  · rw [if_pos h1]; exact vjoin_a a b _ h1 w
theorem vjoin_great (a b : V) (ha : a.num < 18446744073709551616) (hb : b.num < 18446744073709551616) (w : World) :
    Calls Tryz.prog 117 #[a.val, b.val, .func (.func 119) #[] #[]] w (JoinTold maxF a b w) := by
  unfold JoinTold joined
  by_cases h1 : a.check = 0
  · by_cases h2 : b.check = 0
    · rw [if_neg (by omega), if_neg (by omega)]
      by_cases k0 : a.kind = 0
      · rw [if_pos k0]; exact vjoin_none a b _ h1 h2 k0 w
      · rw [if_neg k0]
        by_cases k1 : a.kind = 1
        · by_cases k2 : b.kind = 1
          · rw [if_neg (by omega)]
            exact vjoin_max a b h1 h2 k1 k2 ha hb w
          · rw [if_pos (.inr k2)]; exact vjoin_unlike_b a b _ h1 h2 k1 k2 w
        · rw [if_pos (.inl k1)]; exact vjoin_unlike_a a b _ h1 h2 k0 k1 w
    · rw [if_neg (by omega), if_pos h2]; exact vjoin_b a b _ h1 h2 w
  · rw [if_pos h1]; exact vjoin_a a b _ h1 w
set_option maxHeartbeats 400000 in
theorem Add_v (a b : V) (ha : a.num < 18446744073709551616) (hb : b.num < 18446744073709551616) (w : World) :
    Calls Tryz.prog 104 #[a.val, b.val] w (JoinTold sumC a b w) := by
  have HJ := fun w => Lib.hid (vjoin_sum a b ha hb w)
  clear ha hb
  unfold JoinTold
  go_enter Tryz.func104, Tryz.ntmps104
  go_wp2_with fail
  refine (HJ _).out.mono ?_
  rintro e w' ⟨rfl, hb⟩
  obtain ⟨_, _, C1, hb1, _⟩ := three_on hb
  obtain ⟨c0, c1, c2, f0, f1, f2⟩ := cells3 C1
  have HB := Lib.hid hb1
  clear hb hb1 C1
  go_wp2_with fail
  (try simp only [Exit.inBlock, Exit.then])
  refine bodyPost_ret (v := .tuple #[(joined sumC a b).1.val, .int .i64 (joined sumC a b).2]) ?_ rfl ⟨rfl, by repeat' (first | exact HB.out | refine below_drewN ?_ _ | refine Below.setCell ?_ (show w.heap.size ≤ w.heap.size + 1 + 1 by omega) _)⟩
  rw [results_cell_tmp rfl]
  go_simp
set_option maxHeartbeats 400000 in
theorem Max_v (a b : V) (ha : a.num < 18446744073709551616) (hb : b.num < 18446744073709551616) (w : World) :
    Calls Tryz.prog 105 #[a.val, b.val] w (JoinTold maxF a b w) := by
  have HJ := fun w => Lib.hid (vjoin_great a b ha hb w)
  clear ha hb
  unfold JoinTold
  go_enter Tryz.func105, Tryz.ntmps105
  go_wp2_with fail
  refine (HJ _).out.mono ?_
  rintro e w' ⟨rfl, hb⟩
  obtain ⟨_, _, C1, hb1, _⟩ := three_on hb
  obtain ⟨c0, c1, c2, f0, f1, f2⟩ := cells3 C1
  have HB := Lib.hid hb1
  clear hb hb1 C1
  go_wp2_with fail
  (try simp only [Exit.inBlock, Exit.then])
  refine bodyPost_ret (v := .tuple #[(joined maxF a b).1.val, .int .i64 (joined maxF a b).2]) ?_ rfl ⟨rfl, by repeat' (first | exact HB.out | refine below_drewN ?_ _ | refine Below.setCell ?_ (show w.heap.size ≤ w.heap.size + 1 + 1 by omega) _)⟩
  rw [results_cell_tmp rfl]
  go_simp
end Go.Proofs.YtbheofibdogabaaGreat.Vl
