import Derived.Test.YtbheofibdogabaaGreatSessChk
import Derived.Test.YtbheofibdogabaaGreatRefPairs6
import Derived.Test.YtbheofibdogabaaGreatMergeSb2
/- Is a machine right: the reference's Machine. -/
namespace Go.Proofs.YtbheofibdogabaaGreat.Ss
open Go Go.RowKit Vl Kv Mem Nm
attribute [local go_sem] run_bits run_frombits run_store_float
attribute [local irreducible] wpQuiet

theorem right_told (s : Se) : s.right = !(decide (s.client < 1) || decide (4 < s.client) || decide (s.seq < 1) || decide (1099511627776 < s.seq) || decide (s.code < 0) || decide (16 < s.code) || (s.val.check != 0)) := by
  rw [Bool.eq_iff_iff, Se.right_iff]
  simp
  omega
set_option maxHeartbeats 12800000 in
set_option maxRecDepth 100000 in
theorem refM_any (s : Ms) (m : Ma) (w : World) (h : MaAt w s m) (hl : m.pairs.length ≤ 100000) :
    Calls Tryz.prog 8 #[s.agg m] w fun e w' => e = .returned (.bool (rightM m)) ∧ Beh w w' := by
  have HI := Lib.hid h
  clear h
  obtain ⟨r, hr⟩ : ∃ r, rightM m = r := ⟨_, rfl⟩
  rw [hr]
  have HR := Lib.hid hr
  clear hr
  have HM0 := Lib.hid (alloc_here (w := w) (s.obj m) rfl)
  have HB0 := Lib.hid ((Beh.start w).alloc (s.obj m))
  obtain ⟨L, S⟩ := m
  obtain ⟨a, cap, a2, cap2⟩ := s
  unfold Ms.obj at HM0 HB0
  have HPS := Lib.hid HI.out.pairs
  have HSS := Lib.hid HI.out.sess
  clear HI
  dsimp only at HM0 HB0 HPS HSS hl
  have hmx : S.length ≤ 9223372036854775807 := Nat.le_trans HSS.out.len HSS.out.max
  have HCK : Hid (∀ wq, Beh w wq → Calls Tryz.prog 24 #[.slice a L.length cap] wq fun e w' => e = .returned (.bool (rightP L)) ∧ Below wq.heap.size wq w') := fun wq hq => refPairs_any a cap L wq (HPS.out.below hq) hl
  have HRM : Hid (rightP L = false → r = false) := fun h => by rw [← HR.out]; unfold rightM; rw [show rightP (Ma.mk L S).pairs = false from h]; rfl
  have HRS : Hid (rightP L = true → r = rightS S) := fun h => by rw [← HR.out]; unfold rightM; rw [show rightP (Ma.mk L S).pairs = true from h]; rfl
  clear HR HPS
  cases hp : rightP L
  · rw [hp] at HCK
    go_enter Tryz.func8, Tryz.ntmps8
    go_wp2_with fail
    refine Calls.mono (HCK.out _ HB0.out) ?_
    rintro e w1 ⟨rfl, hb⟩
    have HB1 := Lib.hid (HB0.out.on hb)
    clear hb
    go_wp2_with fail
    go_ret
    exact ⟨ret_bool (HRM.out hp).symm, HB1.out⟩
  · rw [hp] at HCK
    go_enter Tryz.func8, Tryz.ntmps8
    go_wp2_with fail
    refine Calls.mono (HCK.out _ HB0.out) ?_
    rintro e w1 ⟨rfl, hb⟩
    have HM1 := Lib.hid (box_on HM0.out hb)
    have HB1 := Lib.hid (HB0.out.on hb)
    clear hb
    go_wp2_with fail
    go_loopw [3, 4] (fun i _ wr => ∃ k : Nat, k ≤ S.length ∧ i = .int .i64 k ∧ Hid ((List.range k).all (goodS S) = true) ∧ Hid (Beh w1 wr)) (fun i _ _ => S.length - (intOf i).toNat)
    case atStart => exact ⟨0, by omega, rfl, rfl, Beh.start _⟩
    case round =>
      obtain ⟨k, hk, rfl, hs, HB⟩ := hrel
      obtain ⟨m0, m1⟩ := cells2 (HB.out.box HM1.out)
      by_cases hlt : k < S.length
      · have HP : Hid (∀ wq, Beh w1 wq → ∃ b off, a2 = some ⟨b, off, none⟩ ∧ ∀ i, i < S.length → (S.getD i Se.zero).at_ wq b (off + i * 6)) := fun wq hq => (HSS.out.below (HB1.out.trans hq)).at_ (by omega)
        obtain ⟨b, off, rfl, _⟩ := HP.out _ HB.out
        have HP : Hid (∀ wq, Beh w1 wq → ∀ i, i < S.length → (S.getD i Se.zero).at_ wq b (off + i * 6)) := fun wq hq => by
          obtain ⟨_, _, he, hc⟩ := HP.out _ hq; cases he; exact hc
        have HN : Hid (goodS S k = true → (List.range (k + 1)).all (goodS S) = true) := fun h => all_next hs.out h
        have HO : Hid (goodS S k = false → r = false) := fun h => by rw [HRS.out hp, rightS_false hlt h]
        have HPk : Hid (∀ wq, Beh w1 wq → (S.getD k Se.zero).at_ wq b (off + k * 6)) := fun wq hq => HP.out _ hq k hlt
        obtain ⟨c0, c1, c2, c3, c4, c5⟩ := HPk.out _ HB.out
        rcases Nat.eq_zero_or_pos k with rfl | h0
        · have HG := Lib.hid (goodS_first S)
          simp only [Nat.zero_mul, Nat.add_zero] at c0 c1 c2 c3 c4 c5
          generalize S.getD 0 Se.zero = p at *
          obtain ⟨q, hq⟩ : ∃ q, p.right = q := ⟨_, rfl⟩
          have HQV := Lib.hid (right_told p)
          rw [hq] at HQV HG
          clear hq
          have HCV := fun w => Lib.hid (refCheck_any p.val w)
          obtain ⟨ck, hck⟩ : ∃ ck, p.val.check = ck := ⟨_, rfl⟩
          rw [hck] at HQV HCV
          clear hck
          obtain ⟨pc, ps, pd, ⟨vk, vn, vs⟩⟩ := p
          have HW := Lib.hid (HB.out.alloc (Se.obj ⟨pc, ps, pd, ⟨vk, vn, vs⟩⟩))
          have HA := Lib.hid (alloc_here (w := wr) (Se.obj ⟨pc, ps, pd, ⟨vk, vn, vs⟩⟩) rfl)
          unfold Se.obj at HA HW
          dsimp only at HQV HG HCV
          cases x1 : decide (pc < 1)
          case true =>
            rw [x1] at HQV
            go_wp2_with fail
            refine wp_region_quiet (C := Beh (wr.alloc (.cells #[.int .i64 pc, .int .i64 ps, .int .i64 pd, .int .i64 vk, .float .f64 vn, .string vs] 54))) (by kernel_rfl) (by kernel_rfl) (Beh.start _).drew ?_
            repeat (first
              | (refine BigFrame.wpQuiet_skip (by exact Eq.refl false) ?_
                 ((try simp only [Act.put]); (try simp only [List.setIfInBounds_toArray]); (try simp only [List.set_cons_zero, List.set_cons_succ])))
              | (refine BigFrame.wpQuiet_want (by exact Eq.refl true) (fun K hK => ?_)
                 first
                 | (refine quiet_move2 _ rfl (by go_simp; rfl) ?_; refine hK _ ?_)
                 | (apply Exists.intro
                    refine ⟨fun wq hq => ?_, hK _ ?_⟩
                    · ((obtain ⟨c0, c1, c2, c3, c4, c5⟩ := cells6 (hq.box HA.out)); (obtain ⟨m0, m1⟩ := cells2 ((HW.out.trans hq).box HM1.out))
                       have HQ := Lib.hid hq
                       clear hq
                       unfold Oper.quietAt
                       go_simp
                       first
                       | rfl
                       | fail))
                 clear hK K
                 ((try simp only [Act.put]); (try simp only [List.setIfInBounds_toArray]); (try simp only [List.set_cons_zero, List.set_cons_succ]); (try simp only [x1]))))
            refine wpQuiet_nil ?_
            intro wq hq
            have HQ := Lib.hid (HW.out.trans hq)
            clear hq
            go_wp2_with fail
            go_ret
            exact ⟨ret_bool (HO.out (by rw [HG.out, HQV.out]; simp)).symm, HB1.out.trans HQ.out⟩
          rw [x1] at HQV
          cases x2 : decide (4 < pc)
          case true =>
            rw [x2] at HQV
            go_wp2_with fail
            refine wp_region_quiet (C := Beh (wr.alloc (.cells #[.int .i64 pc, .int .i64 ps, .int .i64 pd, .int .i64 vk, .float .f64 vn, .string vs] 54))) (by kernel_rfl) (by kernel_rfl) (Beh.start _).drew ?_
            repeat (first
              | (refine BigFrame.wpQuiet_skip (by exact Eq.refl false) ?_
                 ((try simp only [Act.put]); (try simp only [List.setIfInBounds_toArray]); (try simp only [List.set_cons_zero, List.set_cons_succ])))
              | (refine BigFrame.wpQuiet_want (by exact Eq.refl true) (fun K hK => ?_)
                 first
                 | (refine quiet_move2 _ rfl (by go_simp; rfl) ?_; refine hK _ ?_)
                 | (apply Exists.intro
                    refine ⟨fun wq hq => ?_, hK _ ?_⟩
                    · ((obtain ⟨c0, c1, c2, c3, c4, c5⟩ := cells6 (hq.box HA.out)); (obtain ⟨m0, m1⟩ := cells2 ((HW.out.trans hq).box HM1.out))
                       have HQ := Lib.hid hq
                       clear hq
                       unfold Oper.quietAt
                       go_simp
                       first
                       | rfl
                       | fail))
                 clear hK K
                 ((try simp only [Act.put]); (try simp only [List.setIfInBounds_toArray]); (try simp only [List.set_cons_zero, List.set_cons_succ]); (try simp only [x1]); (try simp only [x2]))))
            refine wpQuiet_nil ?_
            intro wq hq
            have HQ := Lib.hid (HW.out.trans hq)
            clear hq
            go_wp2_with fail
            go_ret
            exact ⟨ret_bool (HO.out (by rw [HG.out, HQV.out]; simp)).symm, HB1.out.trans HQ.out⟩
          rw [x2] at HQV
          cases x3 : decide (ps < 1)
          case true =>
            rw [x3] at HQV
            go_wp2_with fail
            refine wp_region_quiet (C := Beh (wr.alloc (.cells #[.int .i64 pc, .int .i64 ps, .int .i64 pd, .int .i64 vk, .float .f64 vn, .string vs] 54))) (by kernel_rfl) (by kernel_rfl) (Beh.start _).drew ?_
            repeat (first
              | (refine BigFrame.wpQuiet_skip (by exact Eq.refl false) ?_
                 ((try simp only [Act.put]); (try simp only [List.setIfInBounds_toArray]); (try simp only [List.set_cons_zero, List.set_cons_succ])))
              | (refine BigFrame.wpQuiet_want (by exact Eq.refl true) (fun K hK => ?_)
                 first
                 | (refine quiet_move2 _ rfl (by go_simp; rfl) ?_; refine hK _ ?_)
                 | (apply Exists.intro
                    refine ⟨fun wq hq => ?_, hK _ ?_⟩
                    · ((obtain ⟨c0, c1, c2, c3, c4, c5⟩ := cells6 (hq.box HA.out)); (obtain ⟨m0, m1⟩ := cells2 ((HW.out.trans hq).box HM1.out))
                       have HQ := Lib.hid hq
                       clear hq
                       unfold Oper.quietAt
                       go_simp
                       first
                       | rfl
                       | fail))
                 clear hK K
                 ((try simp only [Act.put]); (try simp only [List.setIfInBounds_toArray]); (try simp only [List.set_cons_zero, List.set_cons_succ]); (try simp only [x1]); (try simp only [x2]); (try simp only [x3]))))
            refine wpQuiet_nil ?_
            intro wq hq
            have HQ := Lib.hid (HW.out.trans hq)
            clear hq
            go_wp2_with fail
            go_ret
            exact ⟨ret_bool (HO.out (by rw [HG.out, HQV.out]; simp)).symm, HB1.out.trans HQ.out⟩
          rw [x3] at HQV
          cases x4 : decide (1099511627776 < ps)
          case true =>
            rw [x4] at HQV
            go_wp2_with fail
            refine wp_region_quiet (C := Beh (wr.alloc (.cells #[.int .i64 pc, .int .i64 ps, .int .i64 pd, .int .i64 vk, .float .f64 vn, .string vs] 54))) (by kernel_rfl) (by kernel_rfl) (Beh.start _).drew ?_
            repeat (first
              | (refine BigFrame.wpQuiet_skip (by exact Eq.refl false) ?_
                 ((try simp only [Act.put]); (try simp only [List.setIfInBounds_toArray]); (try simp only [List.set_cons_zero, List.set_cons_succ])))
              | (refine BigFrame.wpQuiet_want (by exact Eq.refl true) (fun K hK => ?_)
                 first
                 | (refine quiet_move2 _ rfl (by go_simp; rfl) ?_; refine hK _ ?_)
                 | (apply Exists.intro
                    refine ⟨fun wq hq => ?_, hK _ ?_⟩
                    · ((obtain ⟨c0, c1, c2, c3, c4, c5⟩ := cells6 (hq.box HA.out)); (obtain ⟨m0, m1⟩ := cells2 ((HW.out.trans hq).box HM1.out))
                       have HQ := Lib.hid hq
                       clear hq
                       unfold Oper.quietAt
                       go_simp
                       first
                       | rfl
                       | fail))
                 clear hK K
                 ((try simp only [Act.put]); (try simp only [List.setIfInBounds_toArray]); (try simp only [List.set_cons_zero, List.set_cons_succ]); (try simp only [x1]); (try simp only [x2]); (try simp only [x3]); (try simp only [x4]))))
            refine wpQuiet_nil ?_
            intro wq hq
            have HQ := Lib.hid (HW.out.trans hq)
            clear hq
            go_wp2_with fail
            go_ret
            exact ⟨ret_bool (HO.out (by rw [HG.out, HQV.out]; simp)).symm, HB1.out.trans HQ.out⟩
          rw [x4] at HQV
          cases x5 : decide (pd < 0)
          case true =>
            rw [x5] at HQV
            go_wp2_with fail
            refine wp_region_quiet (C := Beh (wr.alloc (.cells #[.int .i64 pc, .int .i64 ps, .int .i64 pd, .int .i64 vk, .float .f64 vn, .string vs] 54))) (by kernel_rfl) (by kernel_rfl) (Beh.start _).drew ?_
            repeat (first
              | (refine BigFrame.wpQuiet_skip (by exact Eq.refl false) ?_
                 ((try simp only [Act.put]); (try simp only [List.setIfInBounds_toArray]); (try simp only [List.set_cons_zero, List.set_cons_succ])))
              | (refine BigFrame.wpQuiet_want (by exact Eq.refl true) (fun K hK => ?_)
                 first
                 | (refine quiet_move2 _ rfl (by go_simp; rfl) ?_; refine hK _ ?_)
                 | (apply Exists.intro
                    refine ⟨fun wq hq => ?_, hK _ ?_⟩
                    · ((obtain ⟨c0, c1, c2, c3, c4, c5⟩ := cells6 (hq.box HA.out)); (obtain ⟨m0, m1⟩ := cells2 ((HW.out.trans hq).box HM1.out))
                       have HQ := Lib.hid hq
                       clear hq
                       unfold Oper.quietAt
                       go_simp
                       first
                       | rfl
                       | fail))
                 clear hK K
                 ((try simp only [Act.put]); (try simp only [List.setIfInBounds_toArray]); (try simp only [List.set_cons_zero, List.set_cons_succ]); (try simp only [x1]); (try simp only [x2]); (try simp only [x3]); (try simp only [x4]); (try simp only [x5]))))
            refine wpQuiet_nil ?_
            intro wq hq
            have HQ := Lib.hid (HW.out.trans hq)
            clear hq
            go_wp2_with fail
            go_ret
            exact ⟨ret_bool (HO.out (by rw [HG.out, HQV.out]; simp)).symm, HB1.out.trans HQ.out⟩
          rw [x5] at HQV
          cases x6 : decide (16 < pd)
          case true =>
            rw [x6] at HQV
            go_wp2_with fail
            refine wp_region_quiet (C := Beh (wr.alloc (.cells #[.int .i64 pc, .int .i64 ps, .int .i64 pd, .int .i64 vk, .float .f64 vn, .string vs] 54))) (by kernel_rfl) (by kernel_rfl) (Beh.start _).drew ?_
            repeat (first
              | (refine BigFrame.wpQuiet_skip (by exact Eq.refl false) ?_
                 ((try simp only [Act.put]); (try simp only [List.setIfInBounds_toArray]); (try simp only [List.set_cons_zero, List.set_cons_succ])))
              | (refine BigFrame.wpQuiet_want (by exact Eq.refl true) (fun K hK => ?_)
                 first
                 | (refine quiet_move2 _ rfl (by go_simp; rfl) ?_; refine hK _ ?_)
                 | (apply Exists.intro
                    refine ⟨fun wq hq => ?_, hK _ ?_⟩
                    · ((obtain ⟨c0, c1, c2, c3, c4, c5⟩ := cells6 (hq.box HA.out)); (obtain ⟨m0, m1⟩ := cells2 ((HW.out.trans hq).box HM1.out))
                       have HQ := Lib.hid hq
                       clear hq
                       unfold Oper.quietAt
                       go_simp
                       first
                       | rfl
                       | fail))
                 clear hK K
                 ((try simp only [Act.put]); (try simp only [List.setIfInBounds_toArray]); (try simp only [List.set_cons_zero, List.set_cons_succ]); (try simp only [x1]); (try simp only [x2]); (try simp only [x3]); (try simp only [x4]); (try simp only [x5]); (try simp only [x6]))))
            refine wpQuiet_nil ?_
            intro wq hq
            have HQ := Lib.hid (HW.out.trans hq)
            clear hq
            go_wp2_with fail
            go_ret
            exact ⟨ret_bool (HO.out (by rw [HG.out, HQV.out]; simp)).symm, HB1.out.trans HQ.out⟩
          rw [x6] at HQV
          cases x7 : (ck != 0)
          case true =>
            rw [x7] at HQV
            go_wp2_with fail
            refine wp_region_quiet (C := Beh (wr.alloc (.cells #[.int .i64 pc, .int .i64 ps, .int .i64 pd, .int .i64 vk, .float .f64 vn, .string vs] 54))) (by kernel_rfl) (by kernel_rfl) (Beh.start _).drew ?_
            repeat (first
              | (refine BigFrame.wpQuiet_skip (by exact Eq.refl false) ?_
                 ((try simp only [Act.put]); (try simp only [List.setIfInBounds_toArray]); (try simp only [List.set_cons_zero, List.set_cons_succ])))
              | (refine BigFrame.wpQuiet_want (by exact Eq.refl true) (fun K hK => ?_)
                 first
                 | (refine quiet_move2 _ rfl (by go_simp; rfl) ?_; refine hK _ ?_)
                 | (apply Exists.intro
                    refine ⟨fun wq hq => ?_, hK _ ?_⟩
                    · ((obtain ⟨c0, c1, c2, c3, c4, c5⟩ := cells6 (hq.box HA.out)); (obtain ⟨m0, m1⟩ := cells2 ((HW.out.trans hq).box HM1.out))
                       have HQ := Lib.hid hq
                       clear hq
                       unfold Oper.quietAt
                       go_simp
                       first
                       | rfl
                       | (go_at_call 25; exact ((HCV _).out).mono (fun e w' ⟨he, o, ho⟩ => ⟨he, by rw [ho]; exact HQ.out.alloc o⟩))))
                 clear hK K
                 ((try simp only [Act.put]); (try simp only [List.setIfInBounds_toArray]); (try simp only [List.set_cons_zero, List.set_cons_succ]); (try simp only [x1]); (try simp only [x2]); (try simp only [x3]); (try simp only [x4]); (try simp only [x5]); (try simp only [x6]); (try simp only [x7]))))
            refine wpQuiet_nil ?_
            intro wq hq
            have HQ := Lib.hid (HW.out.trans hq)
            clear hq
            go_wp2_with fail
            go_ret
            exact ⟨ret_bool (HO.out (by rw [HG.out, HQV.out]; simp)).symm, HB1.out.trans HQ.out⟩
          rw [x7] at HQV
          go_wp2_with fail
          refine wp_region_quiet (C := Beh (wr.alloc (.cells #[.int .i64 pc, .int .i64 ps, .int .i64 pd, .int .i64 vk, .float .f64 vn, .string vs] 54))) (by kernel_rfl) (by kernel_rfl) (Beh.start _).drew ?_
          repeat (first
            | (refine BigFrame.wpQuiet_skip (by exact Eq.refl false) ?_
               ((try simp only [Act.put]); (try simp only [List.setIfInBounds_toArray]); (try simp only [List.set_cons_zero, List.set_cons_succ])))
            | (refine BigFrame.wpQuiet_want (by exact Eq.refl true) (fun K hK => ?_)
               first
               | (refine quiet_move2 _ rfl (by go_simp; rfl) ?_; refine hK _ ?_)
               | (apply Exists.intro
                  refine ⟨fun wq hq => ?_, hK _ ?_⟩
                  · ((obtain ⟨c0, c1, c2, c3, c4, c5⟩ := cells6 (hq.box HA.out)); (obtain ⟨m0, m1⟩ := cells2 ((HW.out.trans hq).box HM1.out))
                     have HQ := Lib.hid hq
                     clear hq
                     unfold Oper.quietAt
                     go_simp
                     first
                     | rfl
                     | (go_at_call 25; exact ((HCV _).out).mono (fun e w' ⟨he, o, ho⟩ => ⟨he, by rw [ho]; exact HQ.out.alloc o⟩))))
               clear hK K
               ((try simp only [Act.put]); (try simp only [List.setIfInBounds_toArray]); (try simp only [List.set_cons_zero, List.set_cons_succ]); (try simp only [x1]); (try simp only [x2]); (try simp only [x3]); (try simp only [x4]); (try simp only [x5]); (try simp only [x6]); (try simp only [x7]))))
          refine wpQuiet_nil ?_
          intro wq hq
          have HQ := Lib.hid (HW.out.trans hq)
          clear hq
          go_wp2_with fail
          go_roundw
          case rel => exact ⟨1, by omega, by go_num, HN.out (by rw [HG.out, HQV.out]; rfl), HQ.out⟩
          case measure => simp [intOf]; omega
        · obtain ⟨j, rfl⟩ : ∃ j, k = j + 1 := ⟨k - 1, by omega⟩
          have HG := Lib.hid (goodS_told S j)
          have HPj : Hid (∀ wq, Beh w1 wq → (S.getD j Se.zero).at_ wq b (off + j * 6)) := fun wq hq => HP.out _ hq j (by omega)
          have hj : j < S.length := by omega
          have wj2 : IntKind.i64.wrap (j : Int) = j := by rw [IntKind.wrap_i64]; omega
          have wj : wrap64 (j : Int) = j := by unfold wrap64; omega
          generalize S.getD (j + 1) Se.zero = p at *
          generalize S.getD j Se.zero = p0 at *
          obtain ⟨qc, qs, qd, ⟨uk, un, us⟩⟩ := p0
          obtain ⟨q, hq⟩ : ∃ q, p.right = q := ⟨_, rfl⟩
          have HQV := Lib.hid (right_told p)
          rw [hq] at HQV HG
          clear hq
          have HCV := fun w => Lib.hid (refCheck_any p.val w)
          obtain ⟨ck, hck⟩ : ∃ ck, p.val.check = ck := ⟨_, rfl⟩
          rw [hck] at HQV HCV
          clear hck
          obtain ⟨pc, ps, pd, ⟨vk, vn, vs⟩⟩ := p
          have HW := Lib.hid (HB.out.alloc (Se.obj ⟨pc, ps, pd, ⟨vk, vn, vs⟩⟩))
          have HA := Lib.hid (alloc_here (w := wr) (Se.obj ⟨pc, ps, pd, ⟨vk, vn, vs⟩⟩) rfl)
          unfold Se.obj at HA HW
          dsimp only at HQV HG HCV
          cases x1 : decide (pc < 1)
          case true =>
            rw [x1] at HQV
            go_wp2_with fail
            refine wp_region_quiet (C := Beh (wr.alloc (.cells #[.int .i64 pc, .int .i64 ps, .int .i64 pd, .int .i64 vk, .float .f64 vn, .string vs] 54))) (by kernel_rfl) (by kernel_rfl) (Beh.start _).drew ?_
            repeat (first
              | (refine BigFrame.wpQuiet_skip (by exact Eq.refl false) ?_
                 ((try simp only [Act.put]); (try simp only [List.setIfInBounds_toArray]); (try simp only [List.set_cons_zero, List.set_cons_succ])))
              | (refine BigFrame.wpQuiet_want (by exact Eq.refl true) (fun K hK => ?_)
                 first
                 | (refine quiet_move2 _ rfl (by go_simp; rfl) ?_; refine hK _ ?_)
                 | (apply Exists.intro
                    refine ⟨fun wq hq => ?_, hK _ ?_⟩
                    · ((obtain ⟨c0, c1, c2, c3, c4, c5⟩ := cells6 (hq.box HA.out)); (obtain ⟨m0, m1⟩ := cells2 ((HW.out.trans hq).box HM1.out)); (obtain ⟨d0, d1, d2, d3, d4, d5⟩ := HPj.out _ (HW.out.trans hq))
                       have HQ := Lib.hid hq
                       clear hq
                       unfold Oper.quietAt
                       go_simp
                       first
                       | rfl
                       | fail))
                 clear hK K
                 ((try simp only [Act.put]); (try simp only [List.setIfInBounds_toArray]); (try simp only [List.set_cons_zero, List.set_cons_succ]); (try simp only [x1]))))
            refine wpQuiet_nil ?_
            intro wq hq
            have HQ := Lib.hid (HW.out.trans hq)
            clear hq
            go_wp2_with fail
            go_ret
            exact ⟨ret_bool (HO.out (by rw [HG.out, HQV.out]; simp)).symm, HB1.out.trans HQ.out⟩
          rw [x1] at HQV
          cases x2 : decide (4 < pc)
          case true =>
            rw [x2] at HQV
            go_wp2_with fail
            refine wp_region_quiet (C := Beh (wr.alloc (.cells #[.int .i64 pc, .int .i64 ps, .int .i64 pd, .int .i64 vk, .float .f64 vn, .string vs] 54))) (by kernel_rfl) (by kernel_rfl) (Beh.start _).drew ?_
            repeat (first
              | (refine BigFrame.wpQuiet_skip (by exact Eq.refl false) ?_
                 ((try simp only [Act.put]); (try simp only [List.setIfInBounds_toArray]); (try simp only [List.set_cons_zero, List.set_cons_succ])))
              | (refine BigFrame.wpQuiet_want (by exact Eq.refl true) (fun K hK => ?_)
                 first
                 | (refine quiet_move2 _ rfl (by go_simp; rfl) ?_; refine hK _ ?_)
                 | (apply Exists.intro
                    refine ⟨fun wq hq => ?_, hK _ ?_⟩
                    · ((obtain ⟨c0, c1, c2, c3, c4, c5⟩ := cells6 (hq.box HA.out)); (obtain ⟨m0, m1⟩ := cells2 ((HW.out.trans hq).box HM1.out)); (obtain ⟨d0, d1, d2, d3, d4, d5⟩ := HPj.out _ (HW.out.trans hq))
                       have HQ := Lib.hid hq
                       clear hq
                       unfold Oper.quietAt
                       go_simp
                       first
                       | rfl
                       | fail))
                 clear hK K
                 ((try simp only [Act.put]); (try simp only [List.setIfInBounds_toArray]); (try simp only [List.set_cons_zero, List.set_cons_succ]); (try simp only [x1]); (try simp only [x2]))))
            refine wpQuiet_nil ?_
            intro wq hq
            have HQ := Lib.hid (HW.out.trans hq)
            clear hq
            go_wp2_with fail
            go_ret
            exact ⟨ret_bool (HO.out (by rw [HG.out, HQV.out]; simp)).symm, HB1.out.trans HQ.out⟩
          rw [x2] at HQV
          cases x3 : decide (ps < 1)
          case true =>
            rw [x3] at HQV
            go_wp2_with fail
            refine wp_region_quiet (C := Beh (wr.alloc (.cells #[.int .i64 pc, .int .i64 ps, .int .i64 pd, .int .i64 vk, .float .f64 vn, .string vs] 54))) (by kernel_rfl) (by kernel_rfl) (Beh.start _).drew ?_
            repeat (first
              | (refine BigFrame.wpQuiet_skip (by exact Eq.refl false) ?_
                 ((try simp only [Act.put]); (try simp only [List.setIfInBounds_toArray]); (try simp only [List.set_cons_zero, List.set_cons_succ])))
              | (refine BigFrame.wpQuiet_want (by exact Eq.refl true) (fun K hK => ?_)
                 first
                 | (refine quiet_move2 _ rfl (by go_simp; rfl) ?_; refine hK _ ?_)
                 | (apply Exists.intro
                    refine ⟨fun wq hq => ?_, hK _ ?_⟩
                    · ((obtain ⟨c0, c1, c2, c3, c4, c5⟩ := cells6 (hq.box HA.out)); (obtain ⟨m0, m1⟩ := cells2 ((HW.out.trans hq).box HM1.out)); (obtain ⟨d0, d1, d2, d3, d4, d5⟩ := HPj.out _ (HW.out.trans hq))
                       have HQ := Lib.hid hq
                       clear hq
                       unfold Oper.quietAt
                       go_simp
                       first
                       | rfl
                       | fail))
                 clear hK K
                 ((try simp only [Act.put]); (try simp only [List.setIfInBounds_toArray]); (try simp only [List.set_cons_zero, List.set_cons_succ]); (try simp only [x1]); (try simp only [x2]); (try simp only [x3]))))
            refine wpQuiet_nil ?_
            intro wq hq
            have HQ := Lib.hid (HW.out.trans hq)
            clear hq
            go_wp2_with fail
            go_ret
            exact ⟨ret_bool (HO.out (by rw [HG.out, HQV.out]; simp)).symm, HB1.out.trans HQ.out⟩
          rw [x3] at HQV
          cases x4 : decide (1099511627776 < ps)
          case true =>
            rw [x4] at HQV
            go_wp2_with fail
            refine wp_region_quiet (C := Beh (wr.alloc (.cells #[.int .i64 pc, .int .i64 ps, .int .i64 pd, .int .i64 vk, .float .f64 vn, .string vs] 54))) (by kernel_rfl) (by kernel_rfl) (Beh.start _).drew ?_
            repeat (first
              | (refine BigFrame.wpQuiet_skip (by exact Eq.refl false) ?_
                 ((try simp only [Act.put]); (try simp only [List.setIfInBounds_toArray]); (try simp only [List.set_cons_zero, List.set_cons_succ])))
              | (refine BigFrame.wpQuiet_want (by exact Eq.refl true) (fun K hK => ?_)
                 first
                 | (refine quiet_move2 _ rfl (by go_simp; rfl) ?_; refine hK _ ?_)
                 | (apply Exists.intro
                    refine ⟨fun wq hq => ?_, hK _ ?_⟩
                    · ((obtain ⟨c0, c1, c2, c3, c4, c5⟩ := cells6 (hq.box HA.out)); (obtain ⟨m0, m1⟩ := cells2 ((HW.out.trans hq).box HM1.out)); (obtain ⟨d0, d1, d2, d3, d4, d5⟩ := HPj.out _ (HW.out.trans hq))
                       have HQ := Lib.hid hq
                       clear hq
                       unfold Oper.quietAt
                       go_simp
                       first
                       | rfl
                       | fail))
                 clear hK K
                 ((try simp only [Act.put]); (try simp only [List.setIfInBounds_toArray]); (try simp only [List.set_cons_zero, List.set_cons_succ]); (try simp only [x1]); (try simp only [x2]); (try simp only [x3]); (try simp only [x4]))))
            refine wpQuiet_nil ?_
            intro wq hq
            have HQ := Lib.hid (HW.out.trans hq)
            clear hq
            go_wp2_with fail
            go_ret
            exact ⟨ret_bool (HO.out (by rw [HG.out, HQV.out]; simp)).symm, HB1.out.trans HQ.out⟩
          rw [x4] at HQV
          cases x5 : decide (pd < 0)
          case true =>
            rw [x5] at HQV
            go_wp2_with fail
            refine wp_region_quiet (C := Beh (wr.alloc (.cells #[.int .i64 pc, .int .i64 ps, .int .i64 pd, .int .i64 vk, .float .f64 vn, .string vs] 54))) (by kernel_rfl) (by kernel_rfl) (Beh.start _).drew ?_
            repeat (first
              | (refine BigFrame.wpQuiet_skip (by exact Eq.refl false) ?_
                 ((try simp only [Act.put]); (try simp only [List.setIfInBounds_toArray]); (try simp only [List.set_cons_zero, List.set_cons_succ])))
              | (refine BigFrame.wpQuiet_want (by exact Eq.refl true) (fun K hK => ?_)
                 first
                 | (refine quiet_move2 _ rfl (by go_simp; rfl) ?_; refine hK _ ?_)
                 | (apply Exists.intro
                    refine ⟨fun wq hq => ?_, hK _ ?_⟩
                    · ((obtain ⟨c0, c1, c2, c3, c4, c5⟩ := cells6 (hq.box HA.out)); (obtain ⟨m0, m1⟩ := cells2 ((HW.out.trans hq).box HM1.out)); (obtain ⟨d0, d1, d2, d3, d4, d5⟩ := HPj.out _ (HW.out.trans hq))
                       have HQ := Lib.hid hq
                       clear hq
                       unfold Oper.quietAt
                       go_simp
                       first
                       | rfl
                       | fail))
                 clear hK K
                 ((try simp only [Act.put]); (try simp only [List.setIfInBounds_toArray]); (try simp only [List.set_cons_zero, List.set_cons_succ]); (try simp only [x1]); (try simp only [x2]); (try simp only [x3]); (try simp only [x4]); (try simp only [x5]))))
            refine wpQuiet_nil ?_
            intro wq hq
            have HQ := Lib.hid (HW.out.trans hq)
            clear hq
            go_wp2_with fail
            go_ret
            exact ⟨ret_bool (HO.out (by rw [HG.out, HQV.out]; simp)).symm, HB1.out.trans HQ.out⟩
          rw [x5] at HQV
          cases x6 : decide (16 < pd)
          case true =>
            rw [x6] at HQV
            go_wp2_with fail
            refine wp_region_quiet (C := Beh (wr.alloc (.cells #[.int .i64 pc, .int .i64 ps, .int .i64 pd, .int .i64 vk, .float .f64 vn, .string vs] 54))) (by kernel_rfl) (by kernel_rfl) (Beh.start _).drew ?_
            repeat (first
              | (refine BigFrame.wpQuiet_skip (by exact Eq.refl false) ?_
                 ((try simp only [Act.put]); (try simp only [List.setIfInBounds_toArray]); (try simp only [List.set_cons_zero, List.set_cons_succ])))
              | (refine BigFrame.wpQuiet_want (by exact Eq.refl true) (fun K hK => ?_)
                 first
                 | (refine quiet_move2 _ rfl (by go_simp; rfl) ?_; refine hK _ ?_)
                 | (apply Exists.intro
                    refine ⟨fun wq hq => ?_, hK _ ?_⟩
                    · ((obtain ⟨c0, c1, c2, c3, c4, c5⟩ := cells6 (hq.box HA.out)); (obtain ⟨m0, m1⟩ := cells2 ((HW.out.trans hq).box HM1.out)); (obtain ⟨d0, d1, d2, d3, d4, d5⟩ := HPj.out _ (HW.out.trans hq))
                       have HQ := Lib.hid hq
                       clear hq
                       unfold Oper.quietAt
                       go_simp
                       first
                       | rfl
                       | fail))
                 clear hK K
                 ((try simp only [Act.put]); (try simp only [List.setIfInBounds_toArray]); (try simp only [List.set_cons_zero, List.set_cons_succ]); (try simp only [x1]); (try simp only [x2]); (try simp only [x3]); (try simp only [x4]); (try simp only [x5]); (try simp only [x6]))))
            refine wpQuiet_nil ?_
            intro wq hq
            have HQ := Lib.hid (HW.out.trans hq)
            clear hq
            go_wp2_with fail
            go_ret
            exact ⟨ret_bool (HO.out (by rw [HG.out, HQV.out]; simp)).symm, HB1.out.trans HQ.out⟩
          rw [x6] at HQV
          cases x7 : (ck != 0)
          case true =>
            rw [x7] at HQV
            go_wp2_with fail
            refine wp_region_quiet (C := Beh (wr.alloc (.cells #[.int .i64 pc, .int .i64 ps, .int .i64 pd, .int .i64 vk, .float .f64 vn, .string vs] 54))) (by kernel_rfl) (by kernel_rfl) (Beh.start _).drew ?_
            repeat (first
              | (refine BigFrame.wpQuiet_skip (by exact Eq.refl false) ?_
                 ((try simp only [Act.put]); (try simp only [List.setIfInBounds_toArray]); (try simp only [List.set_cons_zero, List.set_cons_succ])))
              | (refine BigFrame.wpQuiet_want (by exact Eq.refl true) (fun K hK => ?_)
                 first
                 | (refine quiet_move2 _ rfl (by go_simp; rfl) ?_; refine hK _ ?_)
                 | (apply Exists.intro
                    refine ⟨fun wq hq => ?_, hK _ ?_⟩
                    · ((obtain ⟨c0, c1, c2, c3, c4, c5⟩ := cells6 (hq.box HA.out)); (obtain ⟨m0, m1⟩ := cells2 ((HW.out.trans hq).box HM1.out)); (obtain ⟨d0, d1, d2, d3, d4, d5⟩ := HPj.out _ (HW.out.trans hq))
                       have HQ := Lib.hid hq
                       clear hq
                       unfold Oper.quietAt
                       go_simp
                       first
                       | rfl
                       | (go_at_call 25; exact ((HCV _).out).mono (fun e w' ⟨he, o, ho⟩ => ⟨he, by rw [ho]; exact HQ.out.alloc o⟩))))
                 clear hK K
                 ((try simp only [Act.put]); (try simp only [List.setIfInBounds_toArray]); (try simp only [List.set_cons_zero, List.set_cons_succ]); (try simp only [x1]); (try simp only [x2]); (try simp only [x3]); (try simp only [x4]); (try simp only [x5]); (try simp only [x6]); (try simp only [x7]))))
            refine wpQuiet_nil ?_
            intro wq hq
            have HQ := Lib.hid (HW.out.trans hq)
            clear hq
            go_wp2_with fail
            go_ret
            exact ⟨ret_bool (HO.out (by rw [HG.out, HQV.out]; simp)).symm, HB1.out.trans HQ.out⟩
          rw [x7] at HQV
          cases x8 : decide (pc ≤ qc)
          case true =>
            rw [x8] at HG
            go_wp2_with fail
            refine wp_region_quiet (C := Beh (wr.alloc (.cells #[.int .i64 pc, .int .i64 ps, .int .i64 pd, .int .i64 vk, .float .f64 vn, .string vs] 54))) (by kernel_rfl) (by kernel_rfl) (Beh.start _).drew ?_
            repeat (first
              | (refine BigFrame.wpQuiet_skip (by exact Eq.refl false) ?_
                 ((try simp only [Act.put]); (try simp only [List.setIfInBounds_toArray]); (try simp only [List.set_cons_zero, List.set_cons_succ])))
              | (refine BigFrame.wpQuiet_want (by exact Eq.refl true) (fun K hK => ?_)
                 first
                 | (refine quiet_move2 _ rfl (by go_simp; rfl) ?_; refine hK _ ?_)
                 | (apply Exists.intro
                    refine ⟨fun wq hq => ?_, hK _ ?_⟩
                    · ((obtain ⟨c0, c1, c2, c3, c4, c5⟩ := cells6 (hq.box HA.out)); (obtain ⟨m0, m1⟩ := cells2 ((HW.out.trans hq).box HM1.out)); (obtain ⟨d0, d1, d2, d3, d4, d5⟩ := HPj.out _ (HW.out.trans hq))
                       have HQ := Lib.hid hq
                       clear hq
                       unfold Oper.quietAt
                       go_simp
                       first
                       | rfl
                       | (go_at_call 25; exact ((HCV _).out).mono (fun e w' ⟨he, o, ho⟩ => ⟨he, by rw [ho]; exact HQ.out.alloc o⟩))))
                 clear hK K
                 ((try simp only [Act.put]); (try simp only [List.setIfInBounds_toArray]); (try simp only [List.set_cons_zero, List.set_cons_succ]); (try simp only [x1]); (try simp only [x2]); (try simp only [x3]); (try simp only [x4]); (try simp only [x5]); (try simp only [x6]); (try simp only [x7]); (try simp only [x8]))))
            refine wpQuiet_nil ?_
            intro wq hq
            have HQ := Lib.hid (HW.out.trans hq)
            clear hq
            go_wp2_with fail
            go_ret
            exact ⟨ret_bool (HO.out (by rw [HG.out, HQV.out]; simp)).symm, HB1.out.trans HQ.out⟩
          rw [x8] at HG
          go_wp2_with fail
          refine wp_region_quiet (C := Beh (wr.alloc (.cells #[.int .i64 pc, .int .i64 ps, .int .i64 pd, .int .i64 vk, .float .f64 vn, .string vs] 54))) (by kernel_rfl) (by kernel_rfl) (Beh.start _).drew ?_
          repeat (first
            | (refine BigFrame.wpQuiet_skip (by exact Eq.refl false) ?_
               ((try simp only [Act.put]); (try simp only [List.setIfInBounds_toArray]); (try simp only [List.set_cons_zero, List.set_cons_succ])))
            | (refine BigFrame.wpQuiet_want (by exact Eq.refl true) (fun K hK => ?_)
               first
               | (refine quiet_move2 _ rfl (by go_simp; rfl) ?_; refine hK _ ?_)
               | (apply Exists.intro
                  refine ⟨fun wq hq => ?_, hK _ ?_⟩
                  · ((obtain ⟨c0, c1, c2, c3, c4, c5⟩ := cells6 (hq.box HA.out)); (obtain ⟨m0, m1⟩ := cells2 ((HW.out.trans hq).box HM1.out)); (obtain ⟨d0, d1, d2, d3, d4, d5⟩ := HPj.out _ (HW.out.trans hq))
                     have HQ := Lib.hid hq
                     clear hq
                     unfold Oper.quietAt
                     go_simp
                     first
                     | rfl
                     | (go_at_call 25; exact ((HCV _).out).mono (fun e w' ⟨he, o, ho⟩ => ⟨he, by rw [ho]; exact HQ.out.alloc o⟩))))
               clear hK K
               ((try simp only [Act.put]); (try simp only [List.setIfInBounds_toArray]); (try simp only [List.set_cons_zero, List.set_cons_succ]); (try simp only [x1]); (try simp only [x2]); (try simp only [x3]); (try simp only [x4]); (try simp only [x5]); (try simp only [x6]); (try simp only [x7]); (try simp only [x8]))))
          refine wpQuiet_nil ?_
          intro wq hq
          have HQ := Lib.hid (HW.out.trans hq)
          clear hq
          go_wp2_with fail
          go_roundw
          case rel => exact ⟨j + 1 + 1, by omega, by go_num, HN.out (by rw [HG.out, HQV.out]; rfl), HQ.out⟩
          case measure => simp [intOf]; omega
      · obtain rfl : k = S.length := by omega
        go_wp2
        go_ret
        exact ⟨ret_bool (by rw [HRS.out hp]; exact hs.out.symm), HB1.out.trans HB.out⟩
end Go.Proofs.YtbheofibdogabaaGreat.Ss
