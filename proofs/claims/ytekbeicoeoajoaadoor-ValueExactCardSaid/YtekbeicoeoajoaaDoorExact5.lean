/- ValueExact's walk. -/
import Derived.Test.YtekbeicoeoajoaaDoorFour5
import Derived.Test.YtekbeicoeoajoaaDoorCode5b
import Derived.Test.YtekbeicoeoajoaaDoorBack5
import Derived.Test.YtekbeicoeoajoaaDoorRefText5
import Derived.Test.YtekbeicoeoajoaaDoorRows
import Derived.Deep.Quiet
import Derived.Deep.QuietTactic
import Derived.BigQuiet
namespace Go.Proofs.YtekbeicoeoajoaaDoor.Vl
open Go Go.RowKit Go.Proofs.YtekbeicoeoajoaaDoor.Nm
attribute [local go_sem] run_bits run_frombits run_store_float

theorem Two.drew1 {w w1 : World} {A B : Obj} (h : Two w A B w1) : Two w A B { w1 with drawn := w1.drawn + 1 } := h.on (below_drewN (Below.refl _ _) 1)
set_option maxRecDepth 20000 in
set_option maxHeartbeats 8000000 in
theorem ValueExact_any (a b : V) (ha : a.Came) (hb : b.Came) (w : World) (h0 : Tab16 w) :
    Calls Tryd.prog 3 #[a.val, b.val] w fun e w' => e = .returned (.bool true) ∧ Below w.heap.size w w' := by
  obtain ⟨k, x, s⟩ := a
  obtain ⟨l, y, t⟩ := b
  have hx : x < 18446744073709551616 := ha.num
  have hy : y < 18446744073709551616 := hb.num
  have HT0 := Lib.hid (Two.start w (.cells #[.int .i64 k, .float .f64 x, .string s] 24) (.cells #[.int .i64 l, .float .f64 y, .string t] 24))
  cases h1 : decide (2000 < s.size)
  case true =>
    go_enter Tryd.func3, Tryd.ntmps3
    go_wp2_with (first | (go_at_call 8; refine (heavy_any ⟨_, _, _⟩ true (by assumption) _).mono ?_; rintro e w' ⟨rfl, o, rfl⟩))
    go_ret
    exact ⟨rfl, (HT0.out.alloc _).below⟩
  case false =>
    cases h2 : decide (2000 < t.size)
    case true =>
      go_enter Tryd.func3, Tryd.ntmps3
      go_wp2_with (first | (go_at_call 8; refine (heavy_any ⟨_, _, _⟩ _ (by assumption) _).mono ?_; rintro e w' ⟨rfl, o, rfl⟩))
      go_ret
      exact ⟨rfl, ((HT0.out.alloc _).alloc _).below⟩
    case false =>
      have hs : s.size ≤ 1000000 := by have := of_decide_eq_false h1; omega
      obtain ⟨⟨⟨x0k, x0n, x0s⟩, x0e⟩, hj0⟩ : ∃ j, joined sumC ⟨k, x, s⟩ ⟨l, y, t⟩ = j := ⟨_, rfl⟩
      obtain ⟨⟨⟨x1k, x1n, x1s⟩, x1e⟩, hj1⟩ : ∃ j, joined maxF ⟨k, x, s⟩ ⟨l, y, t⟩ = j := ⟨_, rfl⟩
      have G0 : Hid (Gives 15 ⟨k, x, s⟩ ⟨l, y, t⟩ ⟨x0k, x0n, x0s⟩ x0e) := fun W => by have := Add_v ⟨k, x, s⟩ ⟨l, y, t⟩ hx hy W; unfold JoinTold at this; rwa [hj0] at this
      have G1 : Hid (Gives 16 ⟨k, x, s⟩ ⟨l, y, t⟩ ⟨x0k, x0n, x0s⟩ x0e) := fun W => by have := refAdd_v ⟨k, x, s⟩ ⟨l, y, t⟩ hx hy W; unfold JoinTold at this; rwa [hj0] at this
      have G2 : Hid (Gives 17 ⟨k, x, s⟩ ⟨l, y, t⟩ ⟨x1k, x1n, x1s⟩ x1e) := fun W => by have := Max_v ⟨k, x, s⟩ ⟨l, y, t⟩ hx hy W; unfold JoinTold at this; rwa [hj1] at this
      have G3 : Hid (Gives 18 ⟨k, x, s⟩ ⟨l, y, t⟩ ⟨x1k, x1n, x1s⟩ x1e) := fun W => by have := refMax_v ⟨k, x, s⟩ ⟨l, y, t⟩ hx hy W; unfold JoinTold at this; rwa [hj1] at this
      have S0 := V.same_refl ⟨x0k, x0n, x0s⟩
      have S1 := V.same_refl ⟨x1k, x1n, x1s⟩
      clear hj0 hj1
      go_enter Tryd.func3, Tryd.ntmps3
      go_wp2_with (first | (go_at_call 8; refine (heavy_any ⟨_, _, _⟩ _ (by assumption) _).mono ?_; rintro e w' ⟨rfl, o, rfl⟩))
      refine wp_region_quiet (C := Two w (.cells #[.int .i64 k, .float .f64 x, .string s] 24) (.cells #[.int .i64 l, .float .f64 y, .string t] 24)) (by kernel_rfl) (by kernel_rfl) ((HT0.out.alloc _).alloc _).drew1 ?_
      repeat (first
        | (refine BigFrame.wpQuiet_skip (by rfl) ?_
           simp only [Act.put, List.setIfInBounds_toArray, List.set_cons_zero, List.set_cons_succ])
        | (refine BigFrame.wpQuiet_want (by rfl) (fun K hK => ?_)
           first
           | (refine BigFrame.quiet_move _ rfl ?_; refine hK _ ?_)
           | (apply Exists.intro
              refine ⟨fun wq hq => ?_, hK _ ?_⟩
              · (obtain ⟨c0, c1, c2, d0, d1, d2⟩ := cells3 hq.a
                 obtain ⟨b0, b1, b2, e0, e1, e2⟩ := cells3 hq.b
                 have HQ := Lib.hid hq
                 clear hq
                 unfold Oper.quietAt
                 go_simp
                 first
                 | rfl
                 | (go_at_call 9; exact (Check_any ⟨_, _, _⟩ _).mono (fun e w' ⟨he, hb⟩ => ⟨he, HQ.out.on hb⟩))
                 | (go_at_call 10; exact (refCheck_any ⟨_, _, _⟩ _).mono (fun e w' ⟨he, hb⟩ => ⟨he, HQ.out.on (by obtain ⟨o, rfl⟩ := hb; exact below_alloc _ _)⟩))
                 | (go_at_call 11; exact (Same_v ⟨_, _, _⟩ ⟨_, _, _⟩ _).mono (fun e w' ⟨he, hb⟩ => ⟨he, HQ.out.on hb⟩))
                 | (go_at_call 12; exact (keepValue_any ⟨_, _, _⟩ ⟨_, _, _⟩ _).mono (fun e w' ⟨he, hb⟩ => ⟨he, HQ.out.on hb⟩))
                 | (go_at_call 13; exact (Less_v ⟨_, _, _⟩ ⟨_, _, _⟩ (by assumption) (by assumption) _).mono (fun e w' ⟨he, hb⟩ => ⟨he, HQ.out.on hb⟩))
                 | (go_at_call 14; exact (refLess_v ⟨_, _, _⟩ ⟨_, _, _⟩ (by assumption) (by assumption) _).mono (fun e w' ⟨he, hb⟩ => ⟨he, HQ.out.on hb⟩))))
           clear hK K
           simp only [Act.put, List.setIfInBounds_toArray, List.set_cons_zero, List.set_cons_succ]))
      refine wpQuiet_nil ?_
      intro wq hq
      have HQ := Lib.hid hq
      obtain ⟨a0, a1, a2, d0, d1, d2⟩ := cells3 hq.a
      obtain ⟨b0, b1, b2, e0, e1, e2⟩ := cells3 hq.b
      clear hq
      go_wp2_with fail
      refine (G0.out _).mono ?_
      rintro e w1 ⟨rfl, hb1⟩
      have HR1 := Lib.hid (HQ.out.on hb1)
      clear hb1 a0 a1 a2 d0 d1 d2 b0 b1 b2 e0 e1 e2
      obtain ⟨a0, a1, a2, d0, d1, d2⟩ := cells3_on HR1.out.a
      obtain ⟨b0, b1, b2, e0, e1, e2⟩ := cells3_on HR1.out.b
      go_wp2_with fail
      refine (G1.out _).mono ?_
      rintro e w2 ⟨rfl, hb2⟩
      have HF := Lib.hid (Four.mk ((HR1.out.alloc _).on hb2 |>.alloc (.cells #[.int .i64 x0k, .float .f64 x0n, .string x0s] 24)) (old_alloc _ (box_on (alloc_here (w := w1) (.cells #[.int .i64 x0k, .float .f64 x0n, .string x0s] 24) rfl) hb2)) (alloc_here (w := w2) _ rfl) HR1.out.size (by have := hb2.size; simp at this; omega))
      clear hb2 a0 a1 a2 d0 d1 d2 b0 b1 b2 e0 e1 e2
      obtain ⟨a0, a1, a2, d0, d1, d2⟩ := cells3 HF.out.two.a; obtain ⟨b0, b1, b2, e0, e1, e2⟩ := cells3 HF.out.two.b; obtain ⟨p0, p1, p2, f0, f1, f2⟩ := cells3 HF.out.x; obtain ⟨q0, q1, q2, g0, g1, g2⟩ := cells3 HF.out.y
      go_wp2_with (first | (go_at_call 12; refine (keepValue_any ⟨_, _, _⟩ ⟨_, _, _⟩ _).mono ?_; rintro e wq ⟨rfl, hb⟩; have HF := Lib.hid (HF.out.on hb); clear hb; clear a0 a1 a2 d0 d1 d2 b0 b1 b2 e0 e1 e2 p0 p1 p2 f0 f1 f2 q0 q1 q2 g0 g1 g2; obtain ⟨a0, a1, a2, d0, d1, d2⟩ := cells3 HF.out.two.a; obtain ⟨b0, b1, b2, e0, e1, e2⟩ := cells3 HF.out.two.b; obtain ⟨p0, p1, p2, f0, f1, f2⟩ := cells3 HF.out.x; obtain ⟨q0, q1, q2, g0, g1, g2⟩ := cells3 HF.out.y))
      refine (G2.out _).mono ?_
      rintro e w3 ⟨rfl, hb⟩
      have HF3 := Lib.hid (HF.out.on hb)
      clear hb
      clear a0 a1 a2 d0 d1 d2 b0 b1 b2 e0 e1 e2 p0 p1 p2 f0 f1 f2 q0 q1 q2 g0 g1 g2
      obtain ⟨p0, p1, p2, f0, f1, f2⟩ := cells3 HF3.out.x
      have HF := Lib.hid (HF3.out.setX (.int .i64 x1k) (.float .f64 x1n) (.string x1s))
      obtain ⟨a0, a1, a2, d0, d1, d2⟩ := cells3 HF.out.two.a
      obtain ⟨b0, b1, b2, e0, e1, e2⟩ := cells3 HF.out.two.b
      go_wp2_with fail
      refine (G3.out _).mono ?_
      rintro e w4 ⟨rfl, hb⟩
      have HF4 := Lib.hid (HF.out.on hb)
      clear hb p0 p1 p2 f0 f1 f2 a0 a1 a2 d0 d1 d2 b0 b1 b2 e0 e1 e2
      obtain ⟨r0, r1, r2, i0, i1, i2⟩ := cells3 HF4.out.y
      have HF := Lib.hid (HF4.out.setY (.int .i64 x1k) (.float .f64 x1n) (.string x1s))
      obtain ⟨a0, a1, a2, d0, d1, d2⟩ := cells3 HF.out.two.a; obtain ⟨b0, b1, b2, e0, e1, e2⟩ := cells3 HF.out.two.b; obtain ⟨p0, p1, p2, f0, f1, f2⟩ := cells3 HF.out.x; obtain ⟨q0, q1, q2, g0, g1, g2⟩ := cells3 HF.out.y
      go_wp2_with (first | (go_at_call 12; refine (keepValue_any ⟨_, _, _⟩ ⟨_, _, _⟩ _).mono ?_; rintro e wq ⟨rfl, hb⟩; have HF := Lib.hid (HF.out.on hb); clear hb; clear a0 a1 a2 d0 d1 d2 b0 b1 b2 e0 e1 e2 p0 p1 p2 f0 f1 f2 q0 q1 q2 g0 g1 g2; obtain ⟨a0, a1, a2, d0, d1, d2⟩ := cells3 HF.out.two.a; obtain ⟨b0, b1, b2, e0, e1, e2⟩ := cells3 HF.out.two.b; obtain ⟨p0, p1, p2, f0, f1, f2⟩ := cells3 HF.out.x; obtain ⟨q0, q1, q2, g0, g1, g2⟩ := cells3 HF.out.y))
      refine (Text_v ⟨k, x, s⟩ hx _ (h0.below HF.out.two.below)).mono ?_
      rintro e w7 ⟨rfl, hb⟩
      have HF := Lib.hid (HF.out.on hb)
      clear hb
      clear a0 a1 a2 d0 d1 d2 b0 b1 b2 e0 e1 e2 p0 p1 p2 f0 f1 f2 q0 q1 q2 g0 g1 g2
      obtain ⟨a0, a1, a2, d0, d1, d2⟩ := cells3 HF.out.two.a; obtain ⟨b0, b1, b2, e0, e1, e2⟩ := cells3 HF.out.two.b; obtain ⟨p0, p1, p2, f0, f1, f2⟩ := cells3 HF.out.x; obtain ⟨q0, q1, q2, g0, g1, g2⟩ := cells3 HF.out.y
      by_cases hc : (V.mk k x s).check = 0
      · have t1 := int_bne hc
        have t2 := int_beq hc
        have t3 : (V.mk k x s).told = ⟨(V.mk k x s).textL.toArray⟩ := told_right hc
        clear hc
        rw [t3]
        go_wp2_with (first | (go_at_call 10; refine (refCheck_any ⟨_, _, _⟩ _).mono ?_; rintro e wq ⟨rfl, o, rfl⟩; have HF := Lib.hid (HF.out.on (below_alloc _ o)); clear a0 a1 a2 d0 d1 d2 b0 b1 b2 e0 e1 e2 p0 p1 p2 f0 f1 f2 q0 q1 q2 g0 g1 g2; obtain ⟨a0, a1, a2, d0, d1, d2⟩ := cells3 HF.out.two.a; obtain ⟨b0, b1, b2, e0, e1, e2⟩ := cells3 HF.out.two.b; obtain ⟨p0, p1, p2, f0, f1, f2⟩ := cells3 HF.out.x; obtain ⟨q0, q1, q2, g0, g1, g2⟩ := cells3 HF.out.y))
        refine (refText_v ⟨k, x, s⟩ hx hs _ (h0.below HF.out.two.below)).mono ?_
        rintro e w8 ⟨rfl, hb⟩
        have HF := Lib.hid (HF.out.on hb)
        clear hb
        go_wp2_with fail
        refine (wakes5 _ (h0.below HF.out.two.below)).mono ?_
        rintro e w9 ⟨rfl, hb⟩
        have HF := Lib.hid (HF.out.on hb)
        clear hb
        go_wp2_with fail
        go_ret
        exact ⟨rfl, HF.out.two.below⟩
      · have t1 := int_nbne hc
        have t3 : (V.mk k x s).told = (⟨#[]⟩ : ByteArray) := by unfold V.told; rw [if_neg hc]
        clear hc
        rw [t3]
        go_wp2_with (first | (go_at_call 10; refine (refCheck_any ⟨_, _, _⟩ _).mono ?_; rintro e wq ⟨rfl, o, rfl⟩; have HF := Lib.hid (HF.out.on (below_alloc _ o)); clear a0 a1 a2 d0 d1 d2 b0 b1 b2 e0 e1 e2 p0 p1 p2 f0 f1 f2 q0 q1 q2 g0 g1 g2; obtain ⟨a0, a1, a2, d0, d1, d2⟩ := cells3 HF.out.two.a; obtain ⟨b0, b1, b2, e0, e1, e2⟩ := cells3 HF.out.two.b; obtain ⟨p0, p1, p2, f0, f1, f2⟩ := cells3 HF.out.x; obtain ⟨q0, q1, q2, g0, g1, g2⟩ := cells3 HF.out.y))
        refine (wakes5 _ (h0.below HF.out.two.below)).mono ?_
        rintro e w9 ⟨rfl, hb⟩
        have HF := Lib.hid (HF.out.on hb)
        clear hb
        go_wp2_with fail
        go_ret
        exact ⟨rfl, HF.out.two.below⟩
theorem ValueExact_law (a b : V) (W : World) (ha : a.Came) (hb : b.Came) (hL : laidMetH Tryd.prog Rows.valueExactRow.laid W) :
    Calls Tryd.prog 3 #[a.val, b.val] W fun e w' => e = .returned (.bool true) ∧ Below W.heap.size W w' := by
  have hL2 : laidMet Tryd.prog Rows.valueExactRow.laid W := hL
  exact ValueExact_any a b ha hb W (tab16_of hL2)
end Go.Proofs.YtekbeicoeoajoaaDoor.Vl
