import Derived.Test.YtbheofibdogabaaGreatMergeSb22
/- Are pairs right: the reference's Pairs. -/
namespace Go.Proofs.YtbheofibdogabaaGreat.Kv
open Go Go.RowKit Vl Nm Mem
attribute [local go_sem] run_bits run_frombits run_store_float
attribute [local irreducible] wpQuiet

theorem pr_told2 (p : Pr) : p.right = (!(decide ((p.key.size : Int) < 1)) && !(decide ((8 : Int) < (p.key.size : Int))) && !(p.val.kind == 0) && !(p.val.check != 0)) := by
  rw [pr_told]
  have e1 : decide ((p.key.size : Int) < 1) = decide (p.key.size = 0) := by apply decide_eq_decide.2; omega
  have e2 : (!(decide ((8 : Int) < (p.key.size : Int)))) = decide ((p.key.size : Int) ≤ 8) := by rw [← decide_not]; apply decide_eq_decide.2; omega
  rw [e1, e2]
  simp [bne]
set_option maxHeartbeats 6400000 in
set_option maxRecDepth 20000 in
theorem refPairs_any (a : Option Addr) (cap : Nat) (L : List Pr) (w : World) (h : PairsAt w a cap L) (hl : L.length ≤ 100000) :
    Calls Tryz.prog 24 #[.slice a L.length cap] w fun e w' => e = .returned (.bool (rightP L)) ∧ Below w.heap.size w w' := by
  have HI := Lib.hid h
  clear h
  obtain ⟨r, hr⟩ : ∃ r, rightP L = r := ⟨_, rfl⟩
  rw [hr]
  have HR := Lib.hid hr
  clear hr
  go_enter Tryz.func24, Tryz.ntmps24
  go_wp2
  go_loopw [3] (fun i wr => ∃ k : Nat, k ≤ L.length ∧ i = .int .i64 k ∧ Hid (rightN L k = true) ∧ Hid (Beh w wr)) (fun i _ => L.length - (intOf i).toNat)
  case atStart => exact ⟨0, by omega, rfl, rfl, Beh.start _⟩
  case round =>
    obtain ⟨k, hk, rfl, hs, HB⟩ := hrel
    by_cases hlt : k < L.length
    · have HP : Hid (∀ wq, Beh w wq → ∃ b off, a = some ⟨b, off, none⟩ ∧ ∀ i, i < L.length → (L.getD i Pr.zero).at_ wq b (off + i * 4)) := fun wq hq => (HI.out.below hq.below).at_ (by omega)
      obtain ⟨b, off, rfl, _⟩ := HP.out _ HB.out
      have HP : Hid (∀ wq, Beh w wq → ∀ i, i < L.length → (L.getD i Pr.zero).at_ wq b (off + i * 4)) := fun wq hq => by
        obtain ⟨_, _, he, hc⟩ := HP.out _ hq; cases he; exact hc
      have HN : Hid (good L k = true → rightN L (k + 1) = true) := fun h => by rw [rightN_succ, hs.out, h]; rfl
      have HO : Hid (good L k = false → r = false) := fun h => by rw [← HR.out, rightP_false hlt h]
      have HPk : Hid (∀ wq, Beh w wq → (L.getD k Pr.zero).at_ wq b (off + k * 4)) := fun wq hq => HP.out _ hq k hlt
      have HT := Lib.hid (pr_told2 (L.getD k Pr.zero))
      obtain ⟨prev, HPj, HG, hjk⟩ : ∃ prev : Pr, (Hid (∀ wq, Beh w wq → k ≠ 0 → prev.at_ wq b (off + (k - 1) * 4))) ∧ Hid (good L k = ((L.getD k Pr.zero).right && (decide (k = 0) || Op.bytesLess prev.key.toList (L.getD k Pr.zero).key.toList))) ∧ True := by
        rcases Nat.eq_zero_or_pos k with rfl | h0
        · exact ⟨Pr.zero, fun wq hq h => absurd rfl h, by show _ = _; rw [good_first]; simp, trivial⟩
        · obtain ⟨j, rfl⟩ : ∃ j, k = j + 1 := ⟨k - 1, by omega⟩
          exact ⟨L.getD j Pr.zero, fun wq hq _ => HP.out wq hq j (by omega), by show _ = _; rw [good_told]; simp, trivial⟩
      generalize L.getD k Pr.zero = p at *
      obtain ⟨key, ⟨vk, vn, vs⟩⟩ := p
      obtain ⟨key0, ⟨uk, un, us⟩⟩ := prev
      dsimp only at HT HG
      cases t1 : decide ((key.size : Int) < 1)
      case true =>
        go_wp2_with fail
        refine wp_region_quiet (C := Beh w) (by kernel_rfl) (by kernel_rfl) HB.out.drew ?_
        repeat (first
          | (refine BigFrame.wpQuiet_skip (by exact Eq.refl false) ?_
             ((try simp only [Act.put]); (try simp only [List.setIfInBounds_toArray]); (try simp only [List.set_cons_zero, List.set_cons_succ])))
          | (refine BigFrame.wpQuiet_want (by exact Eq.refl true) (fun K hK => ?_)
             first
             | (refine quiet_move2 _ rfl (by go_simp; rfl) ?_; refine hK _ ?_)
             | (apply Exists.intro
                refine ⟨fun wq hq => ?_, hK _ ?_⟩
                · ((obtain ⟨c0, c1, c2, c3⟩ := HPk.out _ hq)
                   have HQ := Lib.hid hq
                   clear hq
                   unfold Oper.quietAt
                   go_simp
                   first
                   | rfl
                   | fail))
             clear hK K
             ((try simp only [Act.put]); (try simp only [List.setIfInBounds_toArray]); (try simp only [List.set_cons_zero, List.set_cons_succ]); (try simp only [t1]))))
        refine wpQuiet_nil ?_
        intro wq hq
        have HQ := Lib.hid hq
        clear hq
        go_wp2_with fail
        go_ret
        exact ⟨ret_bool (HO.out (by rw [HG.out, HT.out, t1]; rfl)).symm, HQ.out.below⟩
      case false =>
        cases t2 : decide ((8 : Int) < (key.size : Int))
        case true =>
          go_wp2_with fail
          refine wp_region_quiet (C := Beh w) (by kernel_rfl) (by kernel_rfl) HB.out.drew ?_
          repeat (first
            | (refine BigFrame.wpQuiet_skip (by exact Eq.refl false) ?_
               ((try simp only [Act.put]); (try simp only [List.setIfInBounds_toArray]); (try simp only [List.set_cons_zero, List.set_cons_succ])))
            | (refine BigFrame.wpQuiet_want (by exact Eq.refl true) (fun K hK => ?_)
               first
               | (refine quiet_move2 _ rfl (by go_simp; rfl) ?_; refine hK _ ?_)
               | (apply Exists.intro
                  refine ⟨fun wq hq => ?_, hK _ ?_⟩
                  · ((obtain ⟨c0, c1, c2, c3⟩ := HPk.out _ hq)
                     have HQ := Lib.hid hq
                     clear hq
                     unfold Oper.quietAt
                     go_simp
                     first
                     | rfl
                     | fail))
               clear hK K
               ((try simp only [Act.put]); (try simp only [List.setIfInBounds_toArray]); (try simp only [List.set_cons_zero, List.set_cons_succ]); (try simp only [t1]); (try simp only [t2]))))
          refine wpQuiet_nil ?_
          intro wq hq
          have HQ := Lib.hid hq
          clear hq
          go_wp2_with fail
          go_ret
          exact ⟨ret_bool (HO.out (by rw [HG.out, HT.out, t2]; simp)).symm, HQ.out.below⟩
        case false =>
          cases t3 : (vk == 0)
          case true =>
            go_wp2_with fail
            refine wp_region_quiet (C := Beh w) (by kernel_rfl) (by kernel_rfl) HB.out.drew ?_
            repeat (first
              | (refine BigFrame.wpQuiet_skip (by exact Eq.refl false) ?_
                 ((try simp only [Act.put]); (try simp only [List.setIfInBounds_toArray]); (try simp only [List.set_cons_zero, List.set_cons_succ])))
              | (refine BigFrame.wpQuiet_want (by exact Eq.refl true) (fun K hK => ?_)
                 first
                 | (refine quiet_move2 _ rfl (by go_simp; rfl) ?_; refine hK _ ?_)
                 | (apply Exists.intro
                    refine ⟨fun wq hq => ?_, hK _ ?_⟩
                    · ((obtain ⟨c0, c1, c2, c3⟩ := HPk.out _ hq)
                       have HQ := Lib.hid hq
                       clear hq
                       unfold Oper.quietAt
                       go_simp
                       first
                       | rfl
                       | fail))
                 clear hK K
                 ((try simp only [Act.put]); (try simp only [List.setIfInBounds_toArray]); (try simp only [List.set_cons_zero, List.set_cons_succ]); (try simp only [t1]); (try simp only [t2]); (try simp only [t3]))))
            refine wpQuiet_nil ?_
            intro wq hq
            have HQ := Lib.hid hq
            clear hq
            go_wp2_with fail
            go_ret
            exact ⟨ret_bool (HO.out (by rw [HG.out, HT.out]; simp [t3])).symm, HQ.out.below⟩
          case false =>
            cases t4 : ((V.mk vk vn vs).check != 0)
            case true =>
              go_wp2_with fail
              refine wp_region_quiet (C := Beh w) (by kernel_rfl) (by kernel_rfl) HB.out.drew ?_
              repeat (first
                | (refine BigFrame.wpQuiet_skip (by exact Eq.refl false) ?_
                   ((try simp only [Act.put]); (try simp only [List.setIfInBounds_toArray]); (try simp only [List.set_cons_zero, List.set_cons_succ])))
                | (refine BigFrame.wpQuiet_want (by exact Eq.refl true) (fun K hK => ?_)
                   first
                   | (refine quiet_move2 _ rfl (by go_simp; rfl) ?_; refine hK _ ?_)
                   | (apply Exists.intro
                      refine ⟨fun wq hq => ?_, hK _ ?_⟩
                      · ((obtain ⟨c0, c1, c2, c3⟩ := HPk.out _ hq)
                         have HQ := Lib.hid hq
                         clear hq
                         unfold Oper.quietAt
                         go_simp
                         first
                         | rfl
                         | (go_at_call 25; exact (refCheck_any ⟨_, _, _⟩ _).mono (fun e w' ⟨he, ⟨o, ho⟩⟩ => ⟨he, ho ▸ HQ.out.alloc o⟩))))
                   clear hK K
                   ((try simp only [Act.put]); (try simp only [List.setIfInBounds_toArray]); (try simp only [List.set_cons_zero, List.set_cons_succ]); (try simp only [t1]); (try simp only [t2]); (try simp only [t3]); (try simp only [t4]))))
              refine wpQuiet_nil ?_
              intro wq hq
              have HQ := Lib.hid hq
              clear hq
              go_wp2_with fail
              go_ret
              exact ⟨ret_bool (HO.out (by rw [HG.out, HT.out, t4]; simp)).symm, HQ.out.below⟩
            case false =>
              rcases Nat.eq_zero_or_pos k with rfl | h0
              · go_wp2_with fail
                refine wp_region_quiet (C := Beh w) (by kernel_rfl) (by kernel_rfl) HB.out.drew ?_
                repeat (first
                  | (refine BigFrame.wpQuiet_skip (by exact Eq.refl false) ?_
                     ((try simp only [Act.put]); (try simp only [List.setIfInBounds_toArray]); (try simp only [List.set_cons_zero, List.set_cons_succ])))
                  | (refine BigFrame.wpQuiet_want (by exact Eq.refl true) (fun K hK => ?_)
                     first
                     | (refine quiet_move2 _ rfl (by go_simp; rfl) ?_; refine hK _ ?_)
                     | (apply Exists.intro
                        refine ⟨fun wq hq => ?_, hK _ ?_⟩
                        · ((obtain ⟨c0, c1, c2, c3⟩ := HPk.out _ hq); simp only [Nat.zero_mul, Nat.add_zero] at c0 c1 c2 c3
                           have HQ := Lib.hid hq
                           clear hq
                           unfold Oper.quietAt
                           go_simp
                           first
                           | rfl
                           | (go_at_call 25; exact (refCheck_any ⟨_, _, _⟩ _).mono (fun e w' ⟨he, ⟨o, ho⟩⟩ => ⟨he, ho ▸ HQ.out.alloc o⟩))))
                     clear hK K
                     ((try simp only [Act.put]); (try simp only [List.setIfInBounds_toArray]); (try simp only [List.set_cons_zero, List.set_cons_succ]); (try simp only [t1]); (try simp only [t2]); (try simp only [t3]); (try simp only [t4]))))
                refine wpQuiet_nil ?_
                intro wq hq
                have HQ := Lib.hid hq
                clear hq
                go_wp2_with fail
                go_roundw
                case rel => exact ⟨1, by omega, by go_num, HN.out (by rw [HG.out, HT.out, t1, t2, t3, t4]; rfl), HQ.out⟩
                case measure => simp [intOf]; omega
              · obtain ⟨j, hkj⟩ : ∃ j, k = j + 1 := ⟨k - 1, by omega⟩
                have wj : wrap64 ((k : Int) - 1) = (j : Int) := by unfold wrap64; omega
                have wj2 : IntKind.i64.wrap ((k : Int) - 1) = (j : Int) := by rw [IntKind.wrap_i64]; omega
                have hj : j < L.length := by omega
                have hpos : decide ((0 : Int) < (k : Int)) = true := decide_eq_true (by omega)
                have hk0 : decide (k = 0) = false := decide_eq_false (by omega)
                have HPj2 : Hid (∀ wq, Beh w wq → (Pr.mk key0 ⟨uk, un, us⟩).at_ wq b (off + j * 4)) := fun wq hq => by have := HPj.out wq hq (by omega); rw [hkj, Nat.add_sub_cancel] at this; exact this
                clear hkj
                cases t5 : Op.bytesLess key0.toList key.toList
                all_goals
                  go_wp2_with fail
                  refine wp_region_quiet (C := Beh w) (by kernel_rfl) (by kernel_rfl) HB.out.drew ?_
                  repeat (first
                    | (refine BigFrame.wpQuiet_skip (by exact Eq.refl false) ?_
                       ((try simp only [Act.put]); (try simp only [List.setIfInBounds_toArray]); (try simp only [List.set_cons_zero, List.set_cons_succ])))
                    | (refine BigFrame.wpQuiet_want (by exact Eq.refl true) (fun K hK => ?_)
                       first
                       | (refine quiet_move2 _ rfl (by go_simp; rfl) ?_; refine hK _ ?_)
                       | (apply Exists.intro
                          refine ⟨fun wq hq => ?_, hK _ ?_⟩
                          · ((obtain ⟨c0, c1, c2, c3⟩ := HPk.out _ hq); (obtain ⟨d0, d1, d2, d3⟩ := HPj2.out _ hq)
                             have HQ := Lib.hid hq
                             clear hq
                             unfold Oper.quietAt
                             go_simp
                             first
                             | rfl
                             | (go_at_call 25; exact (refCheck_any ⟨_, _, _⟩ _).mono (fun e w' ⟨he, ⟨o, ho⟩⟩ => ⟨he, ho ▸ HQ.out.alloc o⟩))))
                       clear hK K
                       ((try simp only [Act.put]); (try simp only [List.setIfInBounds_toArray]); (try simp only [List.set_cons_zero, List.set_cons_succ]); (try simp only [t1]); (try simp only [t2]); (try simp only [t3]); (try simp only [t4]); (try simp only [t5]))))
                  refine wpQuiet_nil ?_
                  intro wq hq
                  have HQ := Lib.hid hq
                  clear hq
                · go_wp2_with fail
                  go_ret
                  exact ⟨ret_bool (HO.out (by rw [HG.out, hk0, t5]; simp)).symm, HQ.out.below⟩
                · go_wp2_with fail
                  go_roundw
                  case rel => exact ⟨k + 1, by omega, by go_num, HN.out (by rw [HG.out, HT.out, t1, t2, t3, t4, t5]; simp), HQ.out⟩
                  case measure => simp [intOf]; omega
    · obtain rfl : k = L.length := by omega
      have hend := rightP_of hs.out
      rw [HR.out] at hend
      have e3 : decide ((L.length : Int) ≤ 32) = decide (L.length ≤ 32) := by apply decide_eq_decide.2; omega
      go_wp2
      go_ret
      exact ⟨ret_bool (by first | (rw [hend]; simp; done) | (rw [hend, ← e3]) | rw [hend]), HB.out.below⟩
end Go.Proofs.YtbheofibdogabaaGreat.Kv
