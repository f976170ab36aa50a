/- ValueReads' walk. -/
import Derived.Test.YtekbeicoeoajoaaDoorOpenV
import Derived.Test.YtekbeicoeoajoaaDoorCode5f
import Derived.Test.YtekbeicoeoajoaaDoorRefParse5
import Derived.Test.YtekbeicoeoajoaaDoorRows
namespace Go.Proofs.YtekbeicoeoajoaaDoor.Vl
open Go Go.RowKit Go.Proofs.YtekbeicoeoajoaaDoor.Nm
attribute [local go_sem] run_bits run_frombits run_store_float

set_option maxHeartbeats 4000000 in
theorem ValueReads_any (s : ByteArray) (w : World) (h0 : Tab16 w) (hv : ErrVars w) :
    Calls Tryd.prog 4 #[.string s] w fun e w' => e = .returned (.bool true) ∧ Below w.heap.size w w' := by
  by_cases hbig : 2000 < s.size
  · go_enter Tryd.func4, Tryd.ntmps4
    go_wp2_with fail
    go_ret
    exact ⟨rfl, Below.refl _ _⟩
  · have hs : s.size ≤ 1000000 := by omega
    go_enter Tryd.func4, Tryd.ntmps4
    go_wp2_with fail
    refine (Parse_v s hs _ h0 hv).mono ?_
    rintro e w1 ⟨⟨k, x, t⟩, ok, rfl, hr, B1⟩
    have T1 := h0.below B1
    have HR := Lib.hid hr
    have HB1 := Lib.hid B1
    have HSM := Lib.hid (V.same_refl (V.mk k x t))
    clear hr B1
    cases ok
    · go_wp2_with fail
      refine (refParse_v s hs _ (T1.alloc _)).mono ?_
      rintro e w2 ⟨v2, ok2, rfl, hr2, b2⟩
      obtain ⟨rfl, rfl⟩ := HR.out.one hr2
      obtain ⟨A2, B2', hz2⟩ := one_on b2
      have HB2 := Lib.hid (HB1.out.trans (B2'.mono HB1.out.size))
      have T2 := h0.below HB2.out
      obtain ⟨a0, a1, a2, e0, e1, e2⟩ := cells3_on A2
      clear hr2 b2 B2' A2
      go_wp2_with (first | (go_at_call 12; refine (keepValue_any ⟨_, _, _⟩ ⟨_, _, _⟩ _).mono ?_; rw [HSM.out]; rintro e w3 ⟨rfl, hb3⟩))
      refine (wakes5 _ ((T2.alloc _).below hb3)).mono ?_
      rintro e w4 ⟨rfl, hb4⟩
      have HB4 := Lib.hid (blw (blw (blw HB2.out (below_alloc _ _)) hb3) hb4)
      clear hb3 hb4
      go_wp2_with fail
      go_ret
      exact ⟨rfl, HB4.out⟩
    · obtain ⟨_, hck, hin, htx⟩ : true = true ∧ (V.mk k x t).check = 0 ∧ (V.mk k x t).In ∧ s.data.toList = (V.mk k x t).textL := by
        rcases HR.out with h | ⟨h, _⟩
        · exact h
        · cases h
      have hx : x < 18446744073709551616 := hin.num
      have HTO := Lib.hid (show (V.mk k x t).told = s by unfold V.told; rw [if_pos hck, ← htx])
      have HCK := Lib.hid hck
      clear hck hin htx
      go_wp2_with fail
      refine (refParse_v s hs _ (T1.alloc _)).mono ?_
      rintro e w2 ⟨v2, ok2, rfl, hr2, b2⟩
      obtain ⟨rfl, rfl⟩ := HR.out.one hr2
      obtain ⟨A2, B2', hz2⟩ := one_on b2
      have HA2 := Lib.hid A2
      have HB2 := Lib.hid (HB1.out.trans (B2'.mono HB1.out.size))
      have T2 := h0.below HB2.out
      obtain ⟨a0, a1, a2, e0, e1, e2⟩ := cells3_on A2
      clear hr2 b2 B2' A2
      go_wp2_with (first | (go_at_call 12; refine (keepValue_any ⟨_, _, _⟩ ⟨_, _, _⟩ _).mono ?_; rw [HSM.out]; rintro e w3 ⟨rfl, hb3⟩; obtain ⟨A3, B3', hz3⟩ := one_on hb3; have A4 := box_on (old_alloc _ HA2.out) hb3; obtain ⟨p0, p1, p2, q0, q1, q2⟩ := cells3 A4))
      refine (Text_v ⟨k, x, t⟩ hx _ ((T2.alloc _).below hb3)).mono ?_
      rw [HTO.out, HCK.out]
      rintro e w4 ⟨rfl, hb4⟩
      have T4 := ((T2.alloc _).below hb3).below hb4
      have A5 := box_on A4 hb4
      obtain ⟨p0, p1, p2, q0, q1, q2⟩ := cells3 A5
      have HB4 := Lib.hid (blw (blw (blw HB2.out (below_alloc _ _)) hb3) hb4)
      clear hb3 hb4 A3 A4 A5 B3'
      go_wp2_with (first | (go_at_call 9; refine (Check_any ⟨_, _, _⟩ _).mono ?_; rw [HCK.out]; rintro e w5 ⟨rfl, hb5⟩))
      refine (wakes5 _ (T4.below hb5)).mono ?_
      rintro e w6 ⟨rfl, hb6⟩
      have HB6 := Lib.hid (blw (blw HB4.out hb5) hb6)
      clear hb5 hb6
      go_wp2_with fail
      go_ret
      exact ⟨rfl, HB6.out⟩
theorem ValueReads_law (s : ByteArray) (W : World) (_ : s.size ≤ maxLen) (hL : laidMetH Tryd.prog Rows.valueReadsRow.laid W) :
    Calls Tryd.prog 4 #[.string s] W fun e w' => e = .returned (.bool true) ∧ Below W.heap.size W w' := by
  have hL2 : laidMet Tryd.prog Rows.valueReadsRow.laid W := hL
  have h3 := hL2.tail.tail.tail
  exact ValueReads_any s W (tab16_of hL2) ⟨one_err h3.tail (by kernel_rfl) (by kernel_rfl), one_err h3 (by kernel_rfl) (by kernel_rfl)⟩
end Go.Proofs.YtekbeicoeoajoaaDoor.Vl
