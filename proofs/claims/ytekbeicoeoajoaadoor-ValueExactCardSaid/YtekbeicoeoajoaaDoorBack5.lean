/- ValueBack's walk. -/
import Derived.Test.YtekbeicoeoajoaaDoorTwo5
import Derived.Test.YtekbeicoeoajoaaDoorCode5f
import Derived.Test.YtekbeicoeoajoaaDoorRefParse5
import Derived.Test.YtekbeicoeoajoaaDoorRows
namespace Go.Proofs.YtekbeicoeoajoaaDoor.Vl
open Go Go.RowKit Go.Proofs.YtekbeicoeoajoaaDoor.Nm
attribute [local go_sem] run_bits run_frombits run_store_float

theorem told_right {v : V} (h : v.check = 0) : v.told = ⟨v.textL.toArray⟩ := by unfold V.told; rw [if_pos h]
theorem told_list {v : V} (h : v.check = 0) : v.told.data.toList = v.textL := by rw [told_right h]
theorem told_size {v : V} (h : v.check = 0) : v.told.size ≤ 1000000 := by
  rw [← size_list, told_list h]
  unfold V.textL
  split
  · have := textF_size v.num
    rw [← size_list] at this
    have h2 : (textF v.num).length = 16 := this
    rw [List.length_cons, h2]; omega
  · split
    · rw [List.length_cons, hexOf_length, size_list]
      have := (check_zero h).2.1 (by assumption)
      omega
    · simp
/-- a right value's text is read as that value -/
theorem told_back {v u : V} {ok : Bool} (hi : v.In) (h : v.check = 0) (k : Read v.told.data.toList u ok) : v = u ∧ true = ok :=
  Read.one (.inl ⟨rfl, h, hi, told_list h⟩) k
set_option maxHeartbeats 4000000 in
theorem ValueBack_any (a b : V) (ha : a.Came) (hb : b.Came) (w : World) (h0 : Tab16 w) (hv : ErrVars w) :
    Calls Tryd.prog 5 #[a.val, b.val] w fun e w' => e = .returned (.bool true) ∧ Below w.heap.size w w' := by
  obtain ⟨k, x, s⟩ := a
  obtain ⟨l, y, t⟩ := b
  have hx : x < 18446744073709551616 := ha.num
  have hy : y < 18446744073709551616 := hb.num
  have HT0 := Lib.hid (Two.start w (.cells #[.int .i64 k, .float .f64 x, .string s] 24) (.cells #[.int .i64 l, .float .f64 y, .string t] 24))
  cases h1 : decide (2000 < s.size)
  case true =>
    go_enter Tryd.func5, Tryd.ntmps5
    go_wp2_with (first | (go_at_call 8; refine (heavy_any ⟨_, _, _⟩ true (by assumption) _).mono ?_; rintro e w' ⟨rfl, o, rfl⟩))
    go_ret
    exact ⟨rfl, (HT0.out.alloc _).below⟩
  case false =>
    cases h2 : decide (2000 < t.size)
    case true =>
      go_enter Tryd.func5, Tryd.ntmps5
      go_wp2_with (first | (go_at_call 8; refine (heavy_any ⟨_, _, _⟩ _ (by assumption) _).mono ?_; rintro e w' ⟨rfl, o, rfl⟩))
      go_ret
      exact ⟨rfl, ((HT0.out.alloc _).alloc _).below⟩
    case false =>
      have HIA : Hid (V.In ⟨k, x, s⟩) := ha.small (show s.size ≤ 2000 by simpa using h1)
      by_cases hc : (V.mk k x s).check = 0
      · have c1 := int_bne hc
        have c2 := int_beq hc
        have HSM := Lib.hid (V.same_refl (V.mk k x s))
        have HTS := Lib.hid (told_size hc)
        have HBK := Lib.hid (fun u ok => told_back (v := ⟨k, x, s⟩) (u := u) (ok := ok) HIA.out hc)
        have HCA := Lib.hid hc
        clear hc
        go_enter Tryd.func5, Tryd.ntmps5
        go_wp2_with (first | (go_at_call 8; refine (heavy_any ⟨_, _, _⟩ _ (by assumption) _).mono ?_; rintro e w' ⟨rfl, o, rfl⟩) | (go_at_call 9; refine (Check_any ⟨_, _, _⟩ _).mono ?_; rw [HCA.out]; rintro e w1 ⟨rfl, hb1⟩; have HT1 := Lib.hid (((HT0.out.alloc _).alloc _).on hb1); obtain ⟨a0, a1, a2, d0, d1, d2⟩ := cells3 HT1.out.a; obtain ⟨b0, b1, b2, e0, e1, e2⟩ := cells3 HT1.out.b; clear hb1))
        refine (Text_v ⟨k, x, s⟩ hx _ (h0.below HT1.out.below)).mono ?_
        rw [HCA.out]
        rintro e w2 ⟨rfl, hb2⟩
        have HT2 := Lib.hid (HT1.out.on hb2)
        clear hb2 a0 a1 a2 d0 d1 d2 b0 b1 b2 e0 e1 e2
        go_wp2_with fail
        refine (Parse_v _ HTS.out _ (h0.below HT2.out.below) (hv.below HT2.out.below)).mono ?_
        rintro e w3 ⟨u, ok, rfl, hr, hb3⟩
        obtain ⟨rfl, rfl⟩ := HBK.out _ _ hr
        have HT3 := Lib.hid (HT2.out.on hb3)
        obtain ⟨a0, a1, a2, d0, d1, d2⟩ := cells3_on HT3.out.a
        clear hb3 hr
        go_wp2_with (first | (go_at_call 11; refine (Same_v ⟨_, _, _⟩ ⟨_, _, _⟩ _).mono ?_; rw [HSM.out]; rintro e w4 ⟨rfl, hb4⟩; have HT4 := Lib.hid ((HT3.out.alloc _).on hb4); obtain ⟨p0, p1, p2, q0, q1, q2⟩ := cells3 HT4.out.b; clear hb4))
        refine (Text_v ⟨l, y, t⟩ hy _ (h0.below HT4.out.below)).mono ?_
        rintro e w5 ⟨rfl, hb5⟩
        have HT5 := Lib.hid (HT4.out.on hb5)
        clear hb5 p0 p1 p2 q0 q1 q2 a0 a1 a2 d0 d1 d2
        obtain ⟨a0, a1, a2, d0, d1, d2⟩ := cells3 HT5.out.a
        obtain ⟨b0, b1, b2, e0, e1, e2⟩ := cells3 HT5.out.b
        by_cases hd : (V.mk l y t).check = 0
        · have g1 := int_bne hd
          have HCB := Lib.hid hd
          obtain ⟨q, hq⟩ : ∃ q, q = (V.mk k x s).same ⟨l, y, t⟩ := ⟨_, rfl⟩
          have HQ : ((V.mk k x s).told.toList == (V.mk l y t).told.toList) = q := by
            rw [hq, Bool.eq_iff_iff, same_right HCA.out hd, beq_iff_eq, toList_data, toList_data, told_list HCA.out, told_list hd]
            exact ⟨fun e => text_inj hx hy HCA.out hd e, fun e => by rw [e]⟩
          have HQS := Lib.hid hq
          clear hd hq
          go_wp2_with (first | (go_at_call 11; refine (Same_v ⟨_, _, _⟩ ⟨_, _, _⟩ _).mono ?_; rw [← HQS.out]; rintro e w6 ⟨rfl, hb6⟩; have HT6 := Lib.hid (HT5.out.on hb6); clear hb6))
          refine (wakes5 _ (h0.below HT6.out.below)).mono ?_
          rintro e w7 ⟨rfl, hb7⟩
          have HT7 := Lib.hid (HT6.out.on hb7)
          clear hb7
          go_wp2_with fail
          go_ret
          exact ⟨rfl, HT7.out.below⟩
        · have g1 := int_nbne hd
          clear hd
          go_wp2_with fail
          refine (wakes5 _ (h0.below HT5.out.below)).mono ?_
          rintro e w7 ⟨rfl, hb7⟩
          have HT7 := Lib.hid (HT5.out.on hb7)
          clear hb7
          go_wp2_with fail
          go_ret
          exact ⟨rfl, HT7.out.below⟩
      · have c1 := int_nbne hc
        clear hc
        go_enter Tryd.func5, Tryd.ntmps5
        go_wp2_with (first | (go_at_call 8; refine (heavy_any ⟨_, _, _⟩ _ (by assumption) _).mono ?_; rintro e w' ⟨rfl, o, rfl⟩) | (go_at_call 9; refine (Check_any ⟨_, _, _⟩ _).mono ?_; rintro e w' ⟨rfl, hb1⟩))
        go_ret
        exact ⟨rfl, (((HT0.out.alloc _).alloc _).on hb1).below⟩
theorem ValueBack_law (a b : V) (W : World) (ha : a.Came) (hb : b.Came) (hL : laidMetH Tryd.prog Rows.valueBackRow.laid W) :
    Calls Tryd.prog 5 #[a.val, b.val] W fun e w' => e = .returned (.bool true) ∧ Below W.heap.size W w' := by
  have hL2 : laidMet Tryd.prog Rows.valueBackRow.laid W := hL
  have h3 := hL2.tail.tail.tail
  exact ValueBack_any a b ha hb W (tab16_of hL2) ⟨one_err h3.tail (by kernel_rfl) (by kernel_rfl), one_err h3 (by kernel_rfl) (by kernel_rfl)⟩
end Go.Proofs.YtekbeicoeoajoaaDoor.Vl
