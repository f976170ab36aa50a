import Derived.Test.YtaengjgmchpabaaGreatMergeWr18
/- The landed writer: value. -/
namespace Go.Proofs.YtaengjgmchpabaaGreat.Wr
open Go Go.RowKit Vl Kv Ss Cn Mem Lg Nm
attribute [local go_sem] Nm.run_bits Nm.run_frombits run_store_float
variable {w0 wr : World} {bw : Nat} {o : Option (List Nat)} {F : List (Nat × Obj)}
theorem upTo_yes (h : Yw w0 wr bw o F) {n : Int} (most : Int) (h1 : 0 ≤ n) (h2 : n ≤ most) (hm : n ≤ 9223372036854775807) (hl : lenO o ≤ 10000000000) :
    Calls Tryz.prog 40 #[.pointer (some ⟨bw, 0, none⟩), .int .i64 n, .int .i64 most] wr fun x w' => x = .returned (.tuple #[]) ∧ Yw w0 w' bw (app o (Pk.intB n)) F := by
  have := upTo_any h most ⟨by omega, hm⟩ hl
  rw [upR_yes h1 h2] at this
  exact this
theorem upTo_no (h : Yw w0 wr bw o F) {n : Int} (most : Int) (hn : In64 n) (h2 : ¬ (0 ≤ n ∧ n ≤ most)) (hl : lenO o ≤ 10000000000) :
    Calls Tryz.prog 40 #[.pointer (some ⟨bw, 0, none⟩), .int .i64 n, .int .i64 most] wr fun x w' => x = .panicked thr ∧ ∃ o, Yw w0 w' bw o F := by
  have := upTo_any h most hn hl
  rw [upR_no h2] at this
  exact this
theorem Wrote.of {r r' : Option (Option (List Nat))} {x : Ending} {w' : World} (h : Wrote w0 bw F r x w') (hr : r' = r) : Wrote w0 bw F r' x w' := by subst hr; exact h
theorem Wrote.no2 {r : Option (Option (List Nat))} {w' : World} (h : ∃ o2, Yw w0 w' bw o2 F) (hr : r = none) : Wrote w0 bw F r (.panicked thr) w' := by subst hr; exact ⟨rfl, h⟩
theorem tail_ex {y : Nat × Obj} {w' : World} (h : ∃ o2, Yw w0 w' bw o2 (y :: F)) : ∃ o2, Yw w0 w' bw o2 F := h.imp fun _ h => h.tail
/-- what value leaves -/
def vR (o : Option (List Nat)) (v : V) : Option (Option (List Nat)) := if okV v = true then some (app o (valB v)) else none
theorem text_nil (s : ByteArray) : (s.toList == (⟨#[]⟩ : ByteArray).toList) = decide (s = ⟨#[]⟩) := text_eq s _
theorem text_emp (s : ByteArray) : s.toList.isEmpty = decide (s = ⟨#[]⟩) := by
  rw [Nm.toList_data, Bool.eq_iff_iff, decide_eq_true_eq]
  obtain ⟨⟨l⟩⟩ := s
  constructor
  · intro h
    have : l = [] := by simpa using h
    rw [this]
  · intro h
    injection h with h
    injection h with h
    simp [h]
set_option maxHeartbeats 3200000 in
set_option maxRecDepth 100000 in
theorem value_any (h : Yw w0 wr bw o F) {v : V} (hv : FitV v) (hl : lenO o ≤ 9000000000) :
    Calls Tryz.prog 92 #[.pointer (some ⟨bw, 0, none⟩), v.val] wr (Wrote w0 bw F (vR o v)) := by
  have HX := Lib.hid (h.more (Vobj v))
  have HO : Hid (∀ b, okV v = b → vR o v = if b = true then some (app o (valB v)) else none) := fun b hb => by subst hb; rfl
  have HK := Lib.hid (show okV v = (decide (0 ≤ v.kind) && decide (v.kind ≤ 2) && (decide (v.kind = 2) || decide (v.text = ⟨#[]⟩)) && (if v.kind = 1 then Nm.canon v.num == v.num else v.num == 0)) from rfl)
  have HB := Lib.hid (show valB v = Pk.intB v.kind ++ (if v.kind = 1 then Pk.fltB v.num else if v.kind = 2 then Pk.textB (bl v.text) else []) from rfl)
  have HV := Lib.hid hv
  clear h hv
  obtain ⟨k, n, t⟩ := v
  have ht := text_nil t
  have hte := text_emp t
  unfold Vobj at HX
  dsimp only at HX HK HB
  have hl2 := lenO_int o k
  obtain ⟨c0, c1, c2, _⟩ := cells3 HX.out.head
  obtain ⟨q1, hq1⟩ : ∃ q, decide (t = ⟨#[]⟩) = q := ⟨_, rfl⟩
  rw [hq1] at ht hte HK
  clear hq1
  by_cases k1 : k = 1
  · subst k1
    obtain ⟨q2, hq2⟩ : ∃ q, (Nm.canon n == n) = q := ⟨_, rfl⟩
    rw [hq2] at HK
    cases q1
    · go_enter Tryz.func92, Tryz.ntmps92
      go_wp2_with (first | (go_at_call 48; refine (must_ok _).mono ?_; rintro e w' ⟨rfl, rfl⟩) | (go_at_call 48; refine (must_not _).mono ?_; rintro e w' ⟨rfl, rfl⟩))
      exact ⟨rfl, Wrote.no HX.out.tail (HO.out false (by rw [HK.out]; simp))⟩
    · cases q2
      · go_enter Tryz.func92, Tryz.ntmps92
        go_wp2_with (first | (go_at_call 48; refine (must_ok _).mono ?_; rintro e w' ⟨rfl, rfl⟩) | (go_at_call 48; refine (must_not _).mono ?_; rintro e w' ⟨rfl, rfl⟩) | (go_at_call 40; refine (upTo_yes HX.out 2 (by decide) (by decide) (by decide) (by omega)).mono ?_; rintro e w' ⟨rfl, hx⟩; (have HX := Lib.hid hx); clear hx c0 c1 c2; obtain ⟨c0, c1, c2, _⟩ := cells3 HX.out.head) | (go_at_call 101; refine (isCanon_any _ _).mono ?_; rintro e w' ⟨rfl, rfl⟩))
        exact ⟨rfl, Wrote.no HX.out.tail (HO.out false (by rw [HK.out]; simp))⟩
      · go_enter Tryz.func92, Tryz.ntmps92
        go_wp2_with (first | (go_at_call 48; refine (must_ok _).mono ?_; rintro e w' ⟨rfl, rfl⟩) | (go_at_call 48; refine (must_not _).mono ?_; rintro e w' ⟨rfl, rfl⟩) | (go_at_call 40; refine (upTo_yes HX.out 2 (by decide) (by decide) (by decide) (by omega)).mono ?_; rintro e w' ⟨rfl, hx⟩; (have HX := Lib.hid hx); clear hx c0 c1 c2; obtain ⟨c0, c1, c2, _⟩ := cells3 HX.out.head) | (go_at_call 101; refine (isCanon_any _ _).mono ?_; rintro e w' ⟨rfl, rfl⟩))
        go_region_with (go_at_call 102; refine Calls.mono (yFlt (n := n) (HX.out.on ((Beh.start _).drewN 1)) (by omega)) ?_; rintro e w' ⟨rfl, hx⟩; (have HX := Lib.hid hx); clear hx c0 c1 c2)
        go_wp2_with fail
        go_end0
        have hx := HX.out.tail
        rw [app_app] at hx
        exact Wrote.ok hx ((HO.out true (by rw [HK.out]; simp)).trans (by rw [HB.out]; simp))
  · have b1 := int_nbeq k1
    obtain ⟨q2, hq2⟩ : ∃ q, (n == 0) = q := ⟨_, rfl⟩
    rw [hq2] at HK
    cases q2
    · have HR := Lib.hid (HO.out false (by rw [HK.out, if_neg k1]; simp))
      clear k1
      go_enter Tryz.func92, Tryz.ntmps92
      go_wp2_with (first | (go_at_call 48; refine (must_ok _).mono ?_; rintro e w' ⟨rfl, rfl⟩) | (go_at_call 48; refine (must_not _).mono ?_; rintro e w' ⟨rfl, rfl⟩) | (go_at_call 91; refine (isNought_any _ _).mono ?_; rintro e w' ⟨rfl, rfl⟩))
      exact ⟨rfl, Wrote.no HX.out.tail HR.out⟩
    · by_cases k2 : k = 2
      · subst k2
        have HR := Lib.hid (HO.out true (by rw [HK.out]; simp))
        have kc := fun (w : World) (s : ByteArray) => run_bl w s
        go_enter Tryz.func92, Tryz.ntmps92
        go_wp2_with (first | (go_at_call 48; refine (must_ok _).mono ?_; rintro e w' ⟨rfl, rfl⟩) | (go_at_call 40; refine (upTo_yes HX.out 2 (by decide) (by decide) (by decide) (by omega)).mono ?_; rintro e w' ⟨rfl, hx⟩; (have HX := Lib.hid hx); clear hx c0 c1 c2; obtain ⟨c0, c1, c2, _⟩ := cells3 HX.out.head) | (go_at_call 91; refine (isNought_any _ _).mono ?_; rintro e w' ⟨rfl, rfl⟩))
        go_region_with (go_at_call 39; refine Calls.mono (yStr (HX.out.on ((Beh.start _).drewN 1)) t HV.out.text (by omega) (by rfl) (by rfl) (by rfl)) ?_; rintro e w' ⟨rfl, hx⟩; (have HX := Lib.hid hx); clear hx c0 c1 c2)
        go_wp2_with fail
        go_end0
        have hx := HX.out.tail
        rw [app_app] at hx
        exact Wrote.ok hx (HR.out.trans (by rw [HB.out]; simp))
      · have b2 := int_nbeq k2
        cases q1
        · have HR := Lib.hid (HO.out false (by rw [HK.out]; simp [k2]))
          clear k1 k2
          go_enter Tryz.func92, Tryz.ntmps92
          go_wp2_with (first | (go_at_call 48; refine (must_ok _).mono ?_; rintro e w' ⟨rfl, rfl⟩) | (go_at_call 48; refine (must_not _).mono ?_; rintro e w' ⟨rfl, rfl⟩) | (go_at_call 91; refine (isNought_any _ _).mono ?_; rintro e w' ⟨rfl, rfl⟩))
          exact ⟨rfl, Wrote.no HX.out.tail HR.out⟩
        · by_cases k0 : k = 0
          · subst k0
            have HR := Lib.hid (HO.out true (by rw [HK.out]; simp))
            clear k1 k2
            go_enter Tryz.func92, Tryz.ntmps92
            go_wp2_with (first | (go_at_call 48; refine (must_ok _).mono ?_; rintro e w' ⟨rfl, rfl⟩) | (go_at_call 40; refine (upTo_yes HX.out 2 (by decide) (by decide) (by decide) (by omega)).mono ?_; rintro e w' ⟨rfl, hx⟩; (have HX := Lib.hid hx); clear hx c0 c1 c2; obtain ⟨c0, c1, c2, _⟩ := cells3 HX.out.head) | (go_at_call 91; refine (isNought_any _ _).mono ?_; rintro e w' ⟨rfl, rfl⟩))
            go_end0
            exact Wrote.ok HX.out.tail (HR.out.trans (by rw [HB.out]; simp))
          · have HN : Hid (¬ (0 ≤ k ∧ k ≤ 2)) := fun h => by omega
            have HR := Lib.hid (HO.out false (by
              rw [HK.out]
              by_cases h1 : 0 ≤ k
              · rw [decide_eq_false (fun h2 => HN.out ⟨h1, h2⟩)]; simp
              · rw [decide_eq_false h1]; simp))
            clear k0 k1 k2
            go_enter Tryz.func92, Tryz.ntmps92
            go_wp2_with (first | (go_at_call 48; refine (must_ok _).mono ?_; rintro e w' ⟨rfl, rfl⟩) | (go_at_call 91; refine (isNought_any _ _).mono ?_; rintro e w' ⟨rfl, rfl⟩) | (go_at_call 40; refine (upTo_no HX.out 2 HV.out.kind HN.out (by omega)).mono ?_; rintro e w' ⟨rfl, hx⟩; (have HE := Lib.hid hx); clear hx))
            exact ⟨rfl, Wrote.no2 (tail_ex HE.out) HR.out⟩
end Go.Proofs.YtaengjgmchpabaaGreat.Wr
