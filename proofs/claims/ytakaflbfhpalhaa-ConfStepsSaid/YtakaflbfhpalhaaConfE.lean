/- Walks of the landed package conf: Near; the law's wakes; the keeper's Conf. -/
import Derived.Test.YtakaflbfhpalhaaConfD
namespace Go.Proofs.Ytakaflbfhpalhaa.Cn
open Go Go.RowKit Bh
attribute [local irreducible] wpQuiet

def nearM (a b : C) : Bool := a.right && b.right && (decide (a = b) || (List.range 7).any (fun i => leadsM a b (i : Nat)))
theorem near_hit {a b : C} (ha : a.right = true) (hb : b.right = true) {k : Nat} (hk : k < 7) (h : leadsM a b k = true) : nearM a b = true := by
  unfold nearM
  rw [ha, hb, Bool.true_and, Bool.true_and, Bool.or_eq_true]
  exact .inr (List.any_eq_true.2 ⟨k, List.mem_range.2 hk, h⟩)
theorem near_miss {a b : C} (hne : decide (a = b) = false) (h : ∀ j, j < 7 → leadsM a b (j : Nat) = false) : nearM a b = false := by
  unfold nearM
  rw [hne, Bool.false_or, show (List.range 7).any (fun i => leadsM a b (i : Nat)) = false by
    rw [List.any_eq_false]
    intro j hj
    rw [h j (List.mem_range.1 hj)]
    decide, Bool.and_false]
set_option maxHeartbeats 1600000 in
theorem Near_any (a b : C) (w : World) :
    Calls Try.prog 15 #[a.val, b.val] w fun e w' => e = .returned (.bool (nearM a b)) ∧ Below w.heap.size w w' := by
  cases ha : a.right
  · have HN := Lib.hid (show nearM a b = false by unfold nearM; rw [ha]; rfl)
    have hc : a.check = 14 := by unfold C.check; rw [ha]; rfl
    generalize nearM a b = N at *
    obtain ⟨f, wt, l, x⟩ := a
    obtain ⟨f', wt', l', x'⟩ := b
    go_enter Try.func15, Try.ntmps15
    go_wp2_with (first | (go_at_call 21; refine (Check_any ⟨_, _, _, _⟩ _).mono ?_; rintro e wq ⟨rfl, hb⟩; rw [hc]; have HB := Lib.hid ((Two.start w _ _).on hb); clear hb))
    go_ret
    exact ⟨ret_bool HN.out.symm, HB.out.beh⟩
  · have hc : a.check = 0 := by unfold C.check; rw [ha]; rfl
    cases hb : b.right
    · have HN := Lib.hid (show nearM a b = false by unfold nearM; rw [ha, hb]; rfl)
      have hd : b.check = 14 := by unfold C.check; rw [hb]; rfl
      generalize nearM a b = N at *
      obtain ⟨f, wt, l, x⟩ := a
      obtain ⟨f', wt', l', x'⟩ := b
      have HB := Lib.hid (Two.start w (.cells #[.int .i64 f, .int .i64 wt, .int .i64 l, .int .i64 x] 23) (.cells #[.int .i64 f', .int .i64 wt', .int .i64 l', .int .i64 x'] 23))
      go_enter Try.func15, Try.ntmps15
      go_wp2_with (first | (go_at_call 21; refine (Check_any ⟨_, _, _, _⟩ _).mono ?_; rintro e wq ⟨rfl, hb⟩; (first | rw [hc] | rw [hd]); have HB := Lib.hid (HB.out.on hb); clear hb; obtain ⟨c0, c1, c2, c3⟩ := cells4 HB.out.a; obtain ⟨d0, d1, d2, d3⟩ := cells4 HB.out.b))
      go_ret
      exact ⟨ret_bool HN.out.symm, HB.out.beh⟩
    · have hd : b.check = 0 := by unfold C.check; rw [hb]; rfl
      have HH : Hid (∀ k, k < 7 → leadsM a b (k : Nat) = true → nearM a b = true) := fun k hk h => near_hit ha hb hk h
      have HM : Hid (decide (a = b) = false → (∀ j, j < 7 → leadsM a b (j : Nat) = false) → nearM a b = false) := fun h h2 => near_miss h h2
      have HE : Hid (decide (a = b) = true → nearM a b = true) := fun h => by unfold nearM; rw [ha, hb, h]; rfl
      have HLd := Lib.hid (fun i W => leads_any a b i W)
      have hQ := conf_eq a.f a.w a.l a.x b.f b.w b.l b.x
      have HA : Hid (C.mk a.f a.w a.l a.x = a) := rfl
      have HBb : Hid (C.mk b.f b.w b.l b.x = b) := rfl
      rw [HA.out, HBb.out] at hQ
      generalize nearM a b = N at *
      generalize leadsM a b = LD at *
      generalize decide (a = b) = q at *
      clear ha hb
      obtain ⟨f, wt, l, x⟩ := a
      obtain ⟨f', wt', l', x'⟩ := b
      simp only at hQ
      have HB := Lib.hid (Two.start w (.cells #[.int .i64 f, .int .i64 wt, .int .i64 l, .int .i64 x] 23) (.cells #[.int .i64 f', .int .i64 wt', .int .i64 l', .int .i64 x'] 23))
      cases q
      · go_enter Try.func15, Try.ntmps15
        go_wp2_with (first | (go_at_call 21; refine (Check_any ⟨_, _, _, _⟩ _).mono ?_; rintro e wq ⟨rfl, hb⟩; (first | rw [hc] | rw [hd]); have HB := Lib.hid (HB.out.on hb); clear hb; obtain ⟨c0, c1, c2, c3⟩ := cells4 HB.out.a; obtain ⟨d0, d1, d2, d3⟩ := cells4 HB.out.b))
        go_loopw [17] (fun i wr => ∃ k : Nat, k ≤ 7 ∧ i = .int .i64 k ∧ Hid (∀ j, j < k → LD (j : Nat) = false) ∧ Hid (Two w (.cells #[.int .i64 f, .int .i64 wt, .int .i64 l, .int .i64 x] 23) (.cells #[.int .i64 f', .int .i64 wt', .int .i64 l', .int .i64 x'] 23) wr)) (fun i _ => 7 - (intOf i).toNat)
        case atStart => exact ⟨0, by omega, rfl, fun j hj => absurd hj (by omega), HB.out⟩
        case round =>
          obtain ⟨k, hk, rfl, hl, HW⟩ := hrel
          obtain ⟨c0, c1, c2, c3⟩ := cells4 HW.out.a
          obtain ⟨d0, d1, d2, d3⟩ := cells4 HW.out.b
          by_cases hlt : k < 7
          · have HX := Lib.hid (HLd.out (k : Nat))
            cases hv : LD (k : Nat)
            · rw [hv] at HX
              have HLk := Lib.hid hv
              clear hv
              go_wp2_with (first | (go_at_call 30; refine Calls.mono (HX.out _) ?_; rintro e wq ⟨rfl, hb⟩; have HB2 := Lib.hid (HW.out.on hb); clear hb))
              go_roundw
              case rel => exact ⟨k + 1, by omega, by go_num, fun j hj => if h : j = k then h ▸ HLk.out else hl.out j (by omega), HB2.out⟩
              case measure => simp [intOf]; omega
            · rw [hv] at HX
              have HN := Lib.hid (HH.out k hlt hv)
              clear hv
              go_wp2_with (first | (go_at_call 30; refine Calls.mono (HX.out _) ?_; rintro e wq ⟨rfl, hb⟩; have HB2 := Lib.hid (HW.out.on hb); clear hb))
              go_ret
              exact ⟨ret_bool HN.out.symm, HB2.out.beh⟩
          · obtain rfl : k = 7 := by omega
            have HN := Lib.hid (HM.out (by first | rfl | trivial) hl.out)
            go_wp2_with fail
            go_ret
            exact ⟨ret_bool HN.out.symm, HW.out.beh⟩
      · have HN := Lib.hid (HE.out (by first | rfl | trivial))
        go_enter Try.func15, Try.ntmps15
        go_wp2_with (first | (go_at_call 21; refine (Check_any ⟨_, _, _, _⟩ _).mono ?_; rintro e wq ⟨rfl, hb⟩; (first | rw [hc] | rw [hd]); have HB := Lib.hid (HB.out.on hb); clear hb; obtain ⟨c0, c1, c2, c3⟩ := cells4 HB.out.a; obtain ⟨d0, d1, d2, d3⟩ := cells4 HB.out.b))
        go_ret
        exact ⟨ret_bool HN.out.symm, HB.out.beh⟩

theorem C.dec (f wt l x f' wt' l' x' : Int) : decide (C.mk f wt l x = C.mk f' wt' l' x') = ((f == f') && (wt == wt') && (l == l') && (x == x')) := by
  rw [Bool.eq_iff_iff]
  simp [C.eq_iff, and_assoc]
set_option maxHeartbeats 800000 in
theorem keepConf_any (a b : C) (w : World) :
    Calls Try.prog 10 #[a.val, b.val] w fun e w' => e = .returned (.bool (decide (a = b))) ∧ Below w.heap.size w w' := by
  obtain ⟨f, wt, l, x⟩ := a
  obtain ⟨f', wt', l', x'⟩ := b
  have HD := Lib.hid (C.dec f wt l x f' wt' l' x')
  generalize decide (C.mk f wt l x = C.mk f' wt' l' x') = Q at *
  cases h1 : f == f'
  · go_enter Try.func10, Try.ntmps10
    go_wp2_with fail
    go_ret
    exact ⟨ret_bool (by rw [HD.out, h1]; simp), below_alloc2 _ _ _⟩
  · cases h2 : wt == wt'
    · go_enter Try.func10, Try.ntmps10
      go_wp2_with fail
      go_ret
      exact ⟨ret_bool (by rw [HD.out, h1, h2]; simp), below_alloc2 _ _ _⟩
    · cases h3 : l == l'
      · go_enter Try.func10, Try.ntmps10
        go_wp2_with fail
        go_ret
        exact ⟨ret_bool (by rw [HD.out, h1, h2, h3]; simp), below_alloc2 _ _ _⟩
      · go_enter Try.func10, Try.ntmps10
        go_wp2_with fail
        go_ret
        exact ⟨ret_bool (by rw [HD.out, h1, h2, h3]; simp), below_alloc2 _ _ _⟩
theorem wk_rem : (stepM ⟨1, 2, 0, 0⟩ 0 remN).2 = 14 := by decide +kernel
theorem wk_quo : quo ⟨3, 4, 0, 0⟩ 5 = true := by decide +kernel
theorem wk_cnt : cnt 7 = 3 := by decide +kernel
set_option maxHeartbeats 800000 in
theorem wakes_any (w : World) : Calls Try.prog 17 #[] w fun e w' => e = .returned (.bool true) ∧ Below w.heap.size w w' := by
  have HR := Lib.hid (fun W => Remove_any ⟨1, 2, 0, 0⟩ 0 W)
  have HQ := Lib.hid (fun W => Quorum_any ⟨3, 4, 0, 0⟩ 5 W)
  have HC := Lib.hid (fun W => Count_any 7 W)
  rw [wk_quo] at HQ
  rw [wk_cnt] at HC
  have HE := Lib.hid wk_rem
  generalize stepM ⟨1, 2, 0, 0⟩ 0 remN = R at *
  obtain ⟨⟨f1, w1, l1, x1⟩, e1⟩ := R
  obtain rfl : e1 = 14 := HE.out
  have HP : Hid (pairV (C.mk f1 w1 l1 x1, 14) = .tuple #[.agg #[.int .i64 f1, .int .i64 w1, .int .i64 l1, .int .i64 x1], .int .i64 14]) := rfl
  clear HE
  go_enter Try.func17, Try.ntmps17
  go_wp2_with fail
  refine Calls.mono (HR.out _) ?_
  rintro e q ⟨he, hb⟩
  rw [HP.out] at he
  subst he
  have HB := Lib.hid hb
  have HB := Lib.hid (blw HB.out (below_alloc q (.cells #[.int .i64 f1, .int .i64 w1, .int .i64 l1, .int .i64 x1] 23)))
  clear hb
  go_wp2_with (first | (go_at_call 18; refine Calls.mono (HQ.out _) ?_; rintro e wq ⟨rfl, hb⟩; have HB := Lib.hid (blw HB.out hb); clear hb) | (go_at_call 20; refine Calls.mono (HC.out _) ?_; rintro e wq ⟨rfl, rfl⟩))
  go_ret
  exact ⟨rfl, HB.out⟩
end Go.Proofs.Ytakaflbfhpalhaa.Cn
