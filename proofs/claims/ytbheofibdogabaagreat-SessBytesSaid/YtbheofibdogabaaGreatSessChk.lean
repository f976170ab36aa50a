import Derived.Test.YtbheofibdogabaaGreatMergeSb22
/- Is a machine right: the landed Check. -/
namespace Go.Proofs.YtbheofibdogabaaGreat.Ss
open Go Go.RowKit Vl Kv Mem Nm
attribute [local go_sem] run_bits run_frombits run_store_float
attribute [local irreducible] wpQuiet

theorem goodS_told (S : List Se) (k : Nat) : goodS S (k + 1) = ((S.getD (k + 1) Se.zero).right && !decide ((S.getD (k + 1) Se.zero).client ≤ (S.getD k Se.zero).client)) := by
  unfold goodS
  rw [show decide (k + 1 = 0) = false from decide_eq_false (by omega), Bool.false_or, Nat.add_sub_cancel]
  congr 1
  by_cases h : (S.getD (k + 1) Se.zero).client ≤ (S.getD k Se.zero).client
  · rw [decide_eq_true h, decide_eq_false (by omega)]; rfl
  · rw [decide_eq_false h, decide_eq_true (by omega)]; rfl
theorem goodS_first (S : List Se) : goodS S 0 = (S.getD 0 Se.zero).right := by unfold goodS; simp
set_option maxHeartbeats 3200000 in
set_option maxRecDepth 20000 in
theorem SCheck_any (s : Ms) (m : Ma) (w : World) (h : MaAt w s m) :
    Calls Tryz.prog 19 #[s.agg m] w fun e w' => e = .returned (.int .i64 (if rightM m = true then 0 else 6)) ∧ Beh w w' := by
  have HI := Lib.hid h
  clear h
  obtain ⟨r, hr⟩ : ∃ r : Int, (if rightM m = true then (0 : Int) else 6) = r := ⟨_, rfl⟩
  rw [hr]
  have HR := Lib.hid hr
  clear hr
  have HM0 := Lib.hid (alloc_here (w := w) (s.obj m) rfl)
  have HB0 := Lib.hid ((Beh.start w).alloc (s.obj m))
  obtain ⟨L, S⟩ := m
  obtain ⟨a, cap, a2, cap2⟩ := s
  unfold Ms.obj at HM0 HB0
  have HPS := Lib.hid HI.out.pairs
  have HSS := Lib.hid HI.out.sess
  clear HI
  dsimp only at HM0 HB0 HPS HSS
  have hmx : S.length ≤ 9223372036854775807 := Nat.le_trans HSS.out.len HSS.out.max
  have HCK : Hid (∀ wq, Beh w wq → Calls Tryz.prog 42 #[.slice a L.length cap] wq fun e w' => e = .returned (.int .i64 (if rightP L = true then 0 else 6)) ∧ Below wq.heap.size wq w') := fun wq hq => Check_any a cap L wq (HPS.out.below hq)
  have HRM : Hid (rightP L = false → r = 6) := fun h => by rw [← HR.out]; show (if rightM ⟨L, S⟩ = true then (0 : Int) else 6) = 6; unfold rightM; rw [show rightP (Ma.mk L S).pairs = false from h]; rfl
  have HRS : Hid (rightP L = true → r = if rightS S = true then 0 else 6) := fun h => by rw [← HR.out]; show (if rightM ⟨L, S⟩ = true then (0 : Int) else 6) = _; unfold rightM; rw [show rightP (Ma.mk L S).pairs = true from h]; rfl
  clear HR HPS
  cases hp : rightP L
  · simp only [hp, Bool.false_eq_true, if_false] at HCK
    go_enter Tryz.func19, Tryz.ntmps19
    go_wp2_with fail
    refine Calls.mono (HCK.out _ HB0.out) ?_
    rintro e w1 ⟨rfl, hb⟩
    have HB1 := Lib.hid (HB0.out.on hb)
    clear hb
    go_wp2_with fail
    go_ret
    exact ⟨ret_int (HRM.out hp).symm, HB1.out⟩
  · simp only [hp, if_true] at HCK
    go_enter Tryz.func19, Tryz.ntmps19
    go_wp2_with fail
    refine Calls.mono (HCK.out _ HB0.out) ?_
    rintro e w1 ⟨rfl, hb⟩
    have HM1 := Lib.hid (box_on HM0.out hb)
    have HB1 := Lib.hid (HB0.out.on hb)
    clear hb
    obtain ⟨m0, m1⟩ := cells2 HM1.out
    go_wp2_with fail
    clear m0 m1
    go_loopw [3, 4, 12] (fun _ _ i wr => ∃ k : Nat, k ≤ S.length ∧ i = .int .i64 k ∧ Hid ((List.range k).all (goodS S) = true) ∧ Hid (Beh w1 wr)) (fun _ _ i _ => S.length - (intOf i).toNat)
    case atStart => exact ⟨0, by omega, rfl, rfl, Beh.start _⟩
    case round =>
      obtain ⟨k, hk, rfl, hs, HB⟩ := hrel
      by_cases hlt : k < S.length
      · have HP : Hid (∀ wq, Beh w1 wq → ∃ b off, a2 = some ⟨b, off, none⟩ ∧ ∀ i, i < S.length → (S.getD i Se.zero).at_ wq b (off + i * 6)) := fun wq hq => (HSS.out.below (HB1.out.trans hq)).at_ (by omega)
        obtain ⟨b, off, rfl, _⟩ := HP.out _ HB.out
        have HP : Hid (∀ wq, Beh w1 wq → ∀ i, i < S.length → (S.getD i Se.zero).at_ wq b (off + i * 6)) := fun wq hq => by
          obtain ⟨_, _, he, hc⟩ := HP.out _ hq; cases he; exact hc
        have HN : Hid (goodS S k = true → (List.range (k + 1)).all (goodS S) = true) := fun h => all_next hs.out h
        have HO : Hid (goodS S k = false → r = 6) := fun h => by rw [HRS.out hp, rightS_false hlt h]; rfl
        have HPk : Hid (∀ wq, Beh w1 wq → (S.getD k Se.zero).at_ wq b (off + k * 6)) := fun wq hq => HP.out _ hq k hlt
        obtain ⟨c0, c1, c2, c3, c4, c5⟩ := HPk.out _ HB.out
        rcases Nat.eq_zero_or_pos k with rfl | h0
        · have HG := Lib.hid (goodS_first S)
          simp only [Nat.zero_mul, Nat.add_zero] at c0 c1 c2 c3 c4 c5
          generalize S.getD 0 Se.zero = p at *
          obtain ⟨q, hq⟩ : ∃ q, p.right = q := ⟨_, rfl⟩
          have HQR := fun w => Lib.hid (isRight_any p w)
          rw [hq] at HQR HG
          obtain ⟨pc, ps, pd, ⟨vk, vn, vs⟩⟩ := p
          have HW := Lib.hid (HB.out.alloc (Se.obj ⟨pc, ps, pd, ⟨vk, vn, vs⟩⟩))
          have HA := Lib.hid (alloc_here (w := wr) (Se.obj ⟨pc, ps, pd, ⟨vk, vn, vs⟩⟩) rfl)
          unfold Se.obj at HA HW
          clear hq
          cases q
          all_goals
            go_wp2_with fail
            refine wp_region_quiet (C := Beh (wr.alloc (.cells #[.int .i64 pc, .int .i64 ps, .int .i64 pd, .int .i64 vk, .float .f64 vn, .string vs] 54))) (by kernel_rfl) (by kernel_rfl) (Beh.start _).drew ?_
            repeat (first
              | (refine BigFrame.wpQuiet_skip (by exact Eq.refl false) ?_
                 ((try simp only [Act.put]); (try simp only [List.setIfInBounds_toArray]); (try simp only [List.set_cons_zero, List.set_cons_succ])))
              | (refine BigFrame.wpQuiet_want (by exact Eq.refl true) (fun K hK => ?_)
                 first
                 | (refine quiet_move2 _ rfl (by go_simp; rfl) ?_; refine hK _ ?_)
                 | (apply Exists.intro
                    refine ⟨fun wq hq => ?_, hK _ ?_⟩
                    · ((obtain ⟨c0, c1, c2, c3, c4, c5⟩ := cells6 (hq.box HA.out)); (obtain ⟨m0, m1⟩ := cells2 ((HW.out.trans hq).box HM1.out))
                       have HQ := Lib.hid hq
                       clear hq
                       unfold Oper.quietAt
                       go_simp
                       first
                       | rfl
                       | (go_at_call 43; exact ((HQR _).out).mono (fun e w' ⟨he, hb⟩ => ⟨he, HQ.out.on hb⟩))))
                 clear hK K
                 ((try simp only [Act.put]); (try simp only [List.setIfInBounds_toArray]); (try simp only [List.set_cons_zero, List.set_cons_succ]))))
            refine wpQuiet_nil ?_
            intro wq hq
            have HQ := Lib.hid (HW.out.trans hq)
            clear hq
          · go_wp2_with fail
            go_ret
            exact ⟨ret_int (HO.out HG.out).symm, HB1.out.trans HQ.out⟩
          · go_wp2_with fail
            go_roundw
            case rel => exact ⟨1, by omega, by go_num, HN.out HG.out, HQ.out⟩
            case measure => simp [intOf]; omega
        · obtain ⟨j, rfl⟩ : ∃ j, k = j + 1 := ⟨k - 1, by omega⟩
          have HG := Lib.hid (goodS_told S j)
          have HPj : Hid (∀ wq, Beh w1 wq → (S.getD j Se.zero).at_ wq b (off + j * 6)) := fun wq hq => HP.out _ hq j (by omega)
          have hj : j < S.length := by omega
          have wj2 : IntKind.i64.wrap (j : Int) = j := by rw [IntKind.wrap_i64]; have := HSS.out.max; have := HSS.out.len; omega
          have wj : wrap64 (j : Int) = j := by unfold wrap64; have := HSS.out.max; have := HSS.out.len; omega
          generalize S.getD (j + 1) Se.zero = p at *
          generalize S.getD j Se.zero = p0 at *
          obtain ⟨qc, qs, qd, ⟨uk, un, us⟩⟩ := p0
          obtain ⟨q, hq⟩ : ∃ q, p.right = q := ⟨_, rfl⟩
          have HQR := fun w => Lib.hid (isRight_any p w)
          rw [hq] at HQR HG
          obtain ⟨pc, ps, pd, ⟨vk, vn, vs⟩⟩ := p
          have HW := Lib.hid (HB.out.alloc (Se.obj ⟨pc, ps, pd, ⟨vk, vn, vs⟩⟩))
          have HA := Lib.hid (alloc_here (w := wr) (Se.obj ⟨pc, ps, pd, ⟨vk, vn, vs⟩⟩) rfl)
          unfold Se.obj at HA HW
          clear hq
          dsimp only at HG
          cases p1 : decide (pc ≤ qc)
          · rw [p1] at HG
            cases q
            all_goals
              go_wp2_with fail
              refine wp_region_quiet (C := Beh (wr.alloc (.cells #[.int .i64 pc, .int .i64 ps, .int .i64 pd, .int .i64 vk, .float .f64 vn, .string vs] 54))) (by kernel_rfl) (by kernel_rfl) (Beh.start _).drew ?_
              repeat (first
                | (refine BigFrame.wpQuiet_skip (by exact Eq.refl false) ?_
                   ((try simp only [Act.put]); (try simp only [List.setIfInBounds_toArray]); (try simp only [List.set_cons_zero, List.set_cons_succ])))
                | (refine BigFrame.wpQuiet_want (by exact Eq.refl true) (fun K hK => ?_)
                   first
                   | (refine quiet_move2 _ rfl (by go_simp; rfl) ?_; refine hK _ ?_)
                   | (apply Exists.intro
                      refine ⟨fun wq hq => ?_, hK _ ?_⟩
                      · ((obtain ⟨c0, c1, c2, c3, c4, c5⟩ := cells6 (hq.box HA.out)); (obtain ⟨m0, m1⟩ := cells2 ((HW.out.trans hq).box HM1.out)); (obtain ⟨d0, d1, d2, d3, d4, d5⟩ := HPj.out _ (HW.out.trans hq))
                         have HQ := Lib.hid hq
                         clear hq
                         unfold Oper.quietAt
                         go_simp
                         first
                         | rfl
                         | (go_at_call 43; exact ((HQR _).out).mono (fun e w' ⟨he, hb⟩ => ⟨he, HQ.out.on hb⟩))))
                   clear hK K
                   ((try simp only [Act.put]); (try simp only [List.setIfInBounds_toArray]); (try simp only [List.set_cons_zero, List.set_cons_succ]))))
              refine wpQuiet_nil ?_
              intro wq hq
              have HQ := Lib.hid (HW.out.trans hq)
              clear hq
            · go_wp2_with fail
              go_ret
              exact ⟨ret_int (HO.out (by rw [HG.out]; rfl)).symm, HB1.out.trans HQ.out⟩
            · go_wp2_with fail
              go_roundw
              case rel => exact ⟨j + 1 + 1, by omega, by go_num, HN.out (by rw [HG.out]; rfl), HQ.out⟩
              case measure => simp [intOf]; omega
          · rw [p1] at HG
            go_wp2_with fail
            refine wp_region_quiet (C := Beh (wr.alloc (.cells #[.int .i64 pc, .int .i64 ps, .int .i64 pd, .int .i64 vk, .float .f64 vn, .string vs] 54))) (by kernel_rfl) (by kernel_rfl) (Beh.start _).drew ?_
            repeat (first
              | (refine BigFrame.wpQuiet_skip (by exact Eq.refl false) ?_
                 ((try simp only [Act.put]); (try simp only [List.setIfInBounds_toArray]); (try simp only [List.set_cons_zero, List.set_cons_succ])))
              | (refine BigFrame.wpQuiet_want (by exact Eq.refl true) (fun K hK => ?_)
                 first
                 | (refine quiet_move2 _ rfl (by go_simp; rfl) ?_; refine hK _ ?_)
                 | (apply Exists.intro
                    refine ⟨fun wq hq => ?_, hK _ ?_⟩
                    · ((obtain ⟨c0, c1, c2, c3, c4, c5⟩ := cells6 (hq.box HA.out)); (obtain ⟨m0, m1⟩ := cells2 ((HW.out.trans hq).box HM1.out)); (obtain ⟨d0, d1, d2, d3, d4, d5⟩ := HPj.out _ (HW.out.trans hq))
                       have HQ := Lib.hid hq
                       clear hq
                       unfold Oper.quietAt
                       go_simp
                       first
                       | rfl
                       | fail))
                 clear hK K
                 ((try simp only [Act.put]); (try simp only [List.setIfInBounds_toArray]); (try simp only [List.set_cons_zero, List.set_cons_succ]))))
            refine wpQuiet_nil ?_
            intro wq hq
            have HQ := Lib.hid (HW.out.trans hq)
            clear hq
            go_wp2_with fail
            go_ret
            exact ⟨ret_int (HO.out (by rw [HG.out]; cases q <;> rfl)).symm, HB1.out.trans HQ.out⟩
      · obtain rfl : k = S.length := by omega
        go_wp2
        go_ret
        exact ⟨ret_int (by rw [HRS.out hp, if_pos (show rightS S = true from hs.out)]), HB1.out.trans HB.out⟩
end Go.Proofs.YtbheofibdogabaaGreat.Ss
