/- NumTexts' walk. -/
import Derived.Test.YtagofgadijeglaaDoorParse
namespace Go.Proofs.YtagofgadijeglaaDoor.Nm
open Go Go.RowKit
attribute [local go_sem] run_bits run_frombits

set_option maxHeartbeats 400000 in
theorem Float_same (a : Nat) (w : World) : Calls Tryd.prog 33 #[.float .f64 a, .float .f64 a] w fun e w' => e = .returned (.bool true) ∧ w = w' := by
  cases h : isNaN a
  all_goals
    have h2 : (FloatKind.f64.format.order a a != some .eq) = _ := h
    go_enter Tryd.func33, Tryd.ntmps33
    go_wp2
    go_ret
    exact ⟨rfl, rfl⟩

theorem Parsed.back {x y : Nat} {ok : Bool} (hx : x < 18446744073709551616) (h : Parsed (textF x) y ok) : ok = true ∧ same x y = true := by
  rcases h with ⟨rfl, hy, hl, cy⟩ | ⟨rfl, rfl, hn⟩
  · refine ⟨rfl, ?_⟩
    unfold same
    rw [decide_eq_true_eq]
    exact hexs_inj 16 _ _ (canon_lt hx) (canon_lt hy) hl
  · exact absurd rfl (hn x hx)
theorem textF_size (x : Nat) : (⟨(textF x).toArray⟩ : ByteArray).size = 16 := by
  show (textF x).toArray.size = 16
  rw [List.size_toArray]; exact hexs_length 16 _

set_option maxHeartbeats 2000000 in
theorem NumTexts_any (x : Nat) (s : ByteArray) (w : World) (hx : x < 18446744073709551616) (h0 : Tab16 w) (hv : ErrVars w) :
    Calls Tryd.prog 6 #[.float .f64 x, .string s] w fun e w' => e = .returned (.bool true) ∧ Below w.heap.size w w' := by
  by_cases hbig : 1000 < s.size
  · go_enter Tryd.func6, Tryd.ntmps6
    go_wp2
    go_ret
    exact ⟨rfl, Below.refl _ _⟩
  · have hsmall : s.size ≤ 1000 := by omega
    go_enter Tryd.func6, Tryd.ntmps6
    go_wp2_with fail
    refine (Text_any x hx _ h0).mono ?_
    rintro e w1 ⟨rfl, B1⟩
    have T1 := h0.below B1
    have V1 := hv.below B1
    have hsz := Lib.hid (textF_size x)
    go_wp2_with fail
    refine (Parse_any _ (by rw [hsz.out]; omega) _ T1 V1).mono ?_
    rintro e w2 ⟨y, ok, rfl, hp, b2⟩
    have hp2 : Parsed (textF x) y ok := hp
    obtain ⟨rfl, hsame⟩ := hp2.back hx
    have B2 : Below w.heap.size w w2 := B1.trans (b2.mono B1.size)
    have T2 := h0.below B2
    have V2 := hv.below B2
    clear hp hp2 b2 B1 T1 V1
    go_wp2_with fail
    refine (refText_any x hx _ T2).mono ?_
    rintro e w3 ⟨rfl, b3⟩
    have B3 : Below w.heap.size w w3 := B2.trans (b3.mono B2.size)
    have T3 := h0.below B3
    have V3 := hv.below B3
    clear b3 B2 T2 V2
    go_wp2_with (first | (go_at_call 14; refine (Same_any _ _ _).mono ?_; rintro e w' ⟨rfl, rfl⟩))
    refine (Parse_any s (by omega) _ T3 V3).mono ?_
    rintro e w4 ⟨z, okz, rfl, hz, b4⟩
    have B4 : Below w.heap.size w w4 := B3.trans (b4.mono B3.size)
    have T4 := h0.below B4
    clear b4 B3 T3 V3
    cases okz
    · have HZ := Lib.hid hz
      clear hz
      go_wp2_with fail
      refine (refParse_any s _ T4).mono ?_
      rintro e w5 ⟨z2, ok2, rfl, hz2, b5⟩
      obtain ⟨rfl, rfl⟩ := HZ.out.one hz2
      have B5 : Below w.heap.size w w5 := B4.trans (b5.mono B4.size)
      have T5 := h0.below B5
      have HB := Lib.hid B5
      clear b5 B4 T4 hz2 B5
      rcases HZ.out with ⟨h, _⟩ | ⟨_, rfl, _⟩
      · cases h
      go_wp2_with (first | (go_at_call 33; refine (Float_same _ _).mono ?_; rintro e w' ⟨rfl, rfl⟩) | (go_at_call 24; refine (wakes_any _ T5).mono ?_; rintro e w' ⟨rfl, hbel⟩))
      go_ret
      exact ⟨rfl, HB.out.trans (hbel.mono HB.out.size)⟩
    · have HZ := Lib.hid hz
      clear hz
      go_wp2_with fail
      refine (refParse_any s _ T4).mono ?_
      rintro e w5 ⟨z2, ok2, rfl, hz2, b5⟩
      obtain ⟨rfl, rfl⟩ := HZ.out.one hz2
      have B5 : Below w.heap.size w w5 := B4.trans (b5.mono B4.size)
      have T5 := h0.below B5
      have HB := Lib.hid B5
      clear b5 B4 T4 hz2 B5
      rcases HZ.out with ⟨_, hzl, hzt, _⟩ | ⟨h, _⟩
      · have hq : (textF z == s.toList) = true := by rw [toList_data, beq_iff_eq]; exact hzt.symm
        clear hzt
        go_wp2_with (first | (go_at_call 33; refine (Float_same _ _).mono ?_; rintro e w' ⟨rfl, rfl⟩))
        refine (Text_any z hzl _ T5).mono ?_
        rintro e w6 ⟨rfl, b6⟩
        have B6 : Below w.heap.size w w6 := HB.out.trans (b6.mono HB.out.size)
        have T6 := h0.below B6
        clear b6
        go_wp2_with (first | (go_at_call 24; refine (wakes_any _ T6).mono ?_; rintro e w' ⟨rfl, hbel⟩))
        go_ret
        exact ⟨rfl, B6.trans (hbel.mono B6.size)⟩
      · cases h

/-- what the row's list gives of an error's variable -/
theorem one_err {n nm : String} {text : List UInt8} {r : List (String × DataW Unit)} {W : World} {g : Nat}
    (h : laidMet Tryd.prog ((n, .iface nm (.ptr (.agg [.lit (.string text)]))) :: r) W) (hg : Tryd.prog.globalNamed n = some g) (ht : (Tryd.prog.globals[g]?).map (·.type) = some 51) : OneErr W g := by
  obtain ⟨ps, ⟨g0, t0, cs0, f0, p0, q0, hg0, ht0, hv0, hd0, _, e0⟩, _, _⟩ := h
  obtain rfl := Option.some.inj (hg.symm.trans hg0)
  obtain rfl := Option.some.inj (ht.symm.trans ht0)
  obtain ⟨l0⟩ := cs0
  have hu : Tryd.prog.underlying 51 = _ := Tryd.underlying51
  cases f0 with
  | zero => simp [DataW.trod] at hd0
  | succ f0 =>
    have hc : ∃ v, l0 = [v] ∧ (v = .nilIface ∨ ∃ te pe, v = .iface te pe) := by
      cases l0 with
      | nil => simp [DataW.trod, hu] at hd0
      | cons v r =>
        cases r with
        | nil => cases v <;> first | exact ⟨_, rfl, .inl rfl⟩ | exact ⟨_, rfl, .inr ⟨_, _, rfl⟩⟩ | (simp [DataW.trod, hu] at hd0; done)
        | cons _ _ => cases v <;> (simp [DataW.trod, hu] at hd0; done)
    obtain ⟨v, rfl, hv⟩ := hc
    exact ⟨v, by simpa using World.var?_cell hg0 hv0 0, hv⟩
theorem NumTexts_law (x : Nat) (s : ByteArray) (W : World) (wx : (Lit.float .f64 x).wf = true) (_ : s.size ≤ maxLen) (hL : laidMetH Tryd.prog Rows.numTextsRow.laid W) :
    Calls Tryd.prog 6 #[.float .f64 x, .string s] W fun e w' => e = .returned (.bool true) ∧ Below W.heap.size W w' := by
  have hL2 : laidMet Tryd.prog Rows.numTextsRow.laid W := hL
  have h3 := hL2.tail.tail.tail
  exact NumTexts_any x s W (float_lt wx) (tab16_of hL2) ⟨one_err h3.tail (by kernel_rfl) (by kernel_rfl), one_err h3 (by kernel_rfl) (by kernel_rfl)⟩
end Go.Proofs.YtagofgadijeglaaDoor.Nm
