/- Are pairs right: the landed Check. -/
import Derived.Test.YtlgmjkbaihpmmaaGreatCmds7
namespace Go.Proofs.YtlgmjkbaihpmmaaGreat.Kv
open Go Go.RowKit Vl Nm Mem
attribute [local go_sem] run_bits run_frombits run_store_float
attribute [local irreducible] wpQuiet

theorem good_told (L : List Pr) (k : Nat) : good L (k + 1) = ((L.getD (k + 1) Pr.zero).right && Op.bytesLess (L.getD k Pr.zero).key.toList (L.getD (k + 1) Pr.zero).key.toList) := by
  unfold good
  rw [text_lt]
  simp [klt]
theorem good_first (L : List Pr) : good L 0 = (L.getD 0 Pr.zero).right := by unfold good; simp
set_option maxHeartbeats 3200000 in
set_option maxRecDepth 20000 in
theorem Check_any (a : Option Addr) (cap : Nat) (L : List Pr) (w : World) (h : PairsAt w a cap L) :
    Calls Tryz.prog 42 #[.slice a L.length cap] w fun e w' => e = .returned (.int .i64 (if rightP L = true then 0 else 6)) ∧ Below w.heap.size w w' := by
  have HI := Lib.hid h
  clear h
  obtain ⟨r, hr⟩ : ∃ r : Int, (if rightP L = true then (0 : Int) else 6) = r := ⟨_, rfl⟩
  rw [hr]
  have HR := Lib.hid hr
  clear hr
  by_cases hl : L.length ≤ 32
  · have d1 : decide ((32 : Int) < (L.length : Int)) = false := decide_eq_false (by omega)
    go_enter Tryz.func42, Tryz.ntmps42
    go_wp2
    go_loopw [3, 4, 10] (fun _ _ i wr => ∃ k : Nat, k ≤ L.length ∧ i = .int .i64 k ∧ Hid (rightN L k = true) ∧ Hid (Beh w wr)) (fun _ _ i _ => L.length - (intOf i).toNat)
    case atStart => exact ⟨0, by omega, rfl, rfl, Beh.start _⟩
    case round =>
      obtain ⟨k, hk, rfl, hs, HB⟩ := hrel
      by_cases hlt : k < L.length
      · have HP : Hid (∀ wq, Beh w wq → ∃ b off, a = some ⟨b, off, none⟩ ∧ ∀ i, i < L.length → (L.getD i Pr.zero).at_ wq b (off + i * 4)) := fun wq hq => (HI.out.below hq.below).at_ (by omega)
        obtain ⟨b, off, rfl, _⟩ := HP.out _ HB.out
        have HP : Hid (∀ wq, Beh w wq → ∀ i, i < L.length → (L.getD i Pr.zero).at_ wq b (off + i * 4)) := fun wq hq => by
          obtain ⟨_, _, he, hc⟩ := HP.out _ hq; cases he; exact hc
        have HN : Hid (good L k = true → rightN L (k + 1) = true) := fun h => by rw [rightN_succ, hs.out, h]; rfl
        have HO : Hid (good L k = false → r = 6) := fun h => by rw [← HR.out, rightP_false hlt h]; rfl
        have HPk : Hid (∀ wq, Beh w wq → (L.getD k Pr.zero).at_ wq b (off + k * 4)) := fun wq hq => HP.out _ hq k hlt
        obtain ⟨c0, c1, c2, c3⟩ := HPk.out _ HB.out
        rcases Nat.eq_zero_or_pos k with rfl | h0
        · have HG := Lib.hid (good_first L)
          simp only [Nat.zero_mul, Nat.add_zero] at c0 c1 c2 c3
          generalize L.getD 0 Pr.zero = p at *
          obtain ⟨q, hq⟩ : ∃ q, p.right = q := ⟨_, rfl⟩
          have HQR := fun w => Lib.hid (isRight_any p w)
          rw [hq] at HQR HG
          obtain ⟨key, ⟨vk, vn, vs⟩⟩ := p
          have HW := Lib.hid (HB.out.alloc (Pr.obj ⟨key, ⟨vk, vn, vs⟩⟩))
          have HA := Lib.hid (alloc_here (w := wr) (Pr.obj ⟨key, ⟨vk, vn, vs⟩⟩) rfl)
          unfold Pr.obj at HA HW
          clear hq
          cases q
          all_goals
            go_wp2_with fail
            refine wp_region_quiet (C := Beh (wr.alloc (.cells #[.string key, .int .i64 vk, .float .f64 vn, .string vs] 61))) (by kernel_rfl) (by kernel_rfl) (Beh.start _).drew ?_
            repeat (first
              | (refine BigFrame.wpQuiet_skip (by exact Eq.refl false) ?_
                 ((try simp only [Act.put]); (try simp only [List.setIfInBounds_toArray]); (try simp only [List.set_cons_zero, List.set_cons_succ])))
              | (refine BigFrame.wpQuiet_want (by exact Eq.refl true) (fun K hK => ?_)
                 first
                 | (refine quiet_move2 _ rfl (by go_simp; rfl) ?_; refine hK _ ?_)
                 | (apply Exists.intro
                    refine ⟨fun wq hq => ?_, hK _ ?_⟩
                    · ((obtain ⟨c0, c1, c2, c3⟩ := cells4 (hq.box HA.out))
                       have HQ := Lib.hid hq
                       clear hq
                       unfold Oper.quietAt
                       go_simp
                       first
                       | rfl
                       | (go_at_call 68; exact ((HQR _).out).mono (fun e w' ⟨he, hb⟩ => ⟨he, HQ.out.on hb⟩))))
                 clear hK K
                 ((try simp only [Act.put]); (try simp only [List.setIfInBounds_toArray]); (try simp only [List.set_cons_zero, List.set_cons_succ]))))
            refine wpQuiet_nil ?_
            intro wq hq
            have HQ := Lib.hid (HW.out.trans hq)
            clear hq
          · go_wp2_with fail
            go_ret
            exact ⟨ret_int (HO.out HG.out).symm, HQ.out.below⟩
          · go_wp2_with fail
            go_roundw
            case rel => exact ⟨1, by omega, by go_num, HN.out HG.out, HQ.out⟩
            case measure => simp [intOf]; omega
        · obtain ⟨j, rfl⟩ : ∃ j, k = j + 1 := ⟨k - 1, by omega⟩
          have HG := Lib.hid (good_told L j)
          have HPj : Hid (∀ wq, Beh w wq → (L.getD j Pr.zero).at_ wq b (off + j * 4)) := fun wq hq => HP.out _ hq j (by omega)
          have hj : j < L.length := by omega
          have wj2 : IntKind.i64.wrap (j : Int) = j := by rw [IntKind.wrap_i64]; omega
          have wj : wrap64 (j : Int) = j := by unfold wrap64; omega
          generalize L.getD (j + 1) Pr.zero = p at *
          generalize L.getD j Pr.zero = p0 at *
          obtain ⟨key0, ⟨uk, un, us⟩⟩ := p0
          obtain ⟨q, hq⟩ : ∃ q, p.right = q := ⟨_, rfl⟩
          have HQR := fun w => Lib.hid (isRight_any p w)
          rw [hq] at HQR HG
          obtain ⟨key, ⟨vk, vn, vs⟩⟩ := p
          have HW := Lib.hid (HB.out.alloc (Pr.obj ⟨key, ⟨vk, vn, vs⟩⟩))
          have HA := Lib.hid (alloc_here (w := wr) (Pr.obj ⟨key, ⟨vk, vn, vs⟩⟩) rfl)
          unfold Pr.obj at HA HW
          clear hq
          cases p1 : Op.bytesLess key0.toList key.toList
          · go_wp2_with fail
            refine wp_region_quiet (C := Beh (wr.alloc (.cells #[.string key, .int .i64 vk, .float .f64 vn, .string vs] 61))) (by kernel_rfl) (by kernel_rfl) (Beh.start _).drew ?_
            repeat (first
              | (refine BigFrame.wpQuiet_skip (by exact Eq.refl false) ?_
                 ((try simp only [Act.put]); (try simp only [List.setIfInBounds_toArray]); (try simp only [List.set_cons_zero, List.set_cons_succ])))
              | (refine BigFrame.wpQuiet_want (by exact Eq.refl true) (fun K hK => ?_)
                 first
                 | (refine quiet_move2 _ rfl (by go_simp; rfl) ?_; refine hK _ ?_)
                 | (apply Exists.intro
                    refine ⟨fun wq hq => ?_, hK _ ?_⟩
                    · ((obtain ⟨c0, c1, c2, c3⟩ := cells4 (hq.box HA.out)); (obtain ⟨d0, d1, d2, d3⟩ := HPj.out _ (HW.out.trans hq))
                       have HQ := Lib.hid hq
                       clear hq
                       unfold Oper.quietAt
                       go_simp
                       first
                       | rfl
                       | fail))
                 clear hK K
                 ((try simp only [Act.put]); (try simp only [List.setIfInBounds_toArray]); (try simp only [List.set_cons_zero, List.set_cons_succ]))))
            refine wpQuiet_nil ?_
            intro wq hq
            have HQ := Lib.hid (HW.out.trans hq)
            clear hq
            go_wp2_with fail
            go_ret
            exact ⟨ret_int (HO.out (by rw [HG.out, p1]; simp)).symm, HQ.out.below⟩
          · cases q
            all_goals
              go_wp2_with fail
              refine wp_region_quiet (C := Beh (wr.alloc (.cells #[.string key, .int .i64 vk, .float .f64 vn, .string vs] 61))) (by kernel_rfl) (by kernel_rfl) (Beh.start _).drew ?_
              repeat (first
                | (refine BigFrame.wpQuiet_skip (by exact Eq.refl false) ?_
                   ((try simp only [Act.put]); (try simp only [List.setIfInBounds_toArray]); (try simp only [List.set_cons_zero, List.set_cons_succ])))
                | (refine BigFrame.wpQuiet_want (by exact Eq.refl true) (fun K hK => ?_)
                   first
                   | (refine quiet_move2 _ rfl (by go_simp; rfl) ?_; refine hK _ ?_)
                   | (apply Exists.intro
                      refine ⟨fun wq hq => ?_, hK _ ?_⟩
                      · ((obtain ⟨c0, c1, c2, c3⟩ := cells4 (hq.box HA.out)); (obtain ⟨d0, d1, d2, d3⟩ := HPj.out _ (HW.out.trans hq))
                         have HQ := Lib.hid hq
                         clear hq
                         unfold Oper.quietAt
                         go_simp
                         first
                         | rfl
                         | (go_at_call 68; exact ((HQR _).out).mono (fun e w' ⟨he, hb⟩ => ⟨he, HQ.out.on hb⟩))))
                   clear hK K
                   ((try simp only [Act.put]); (try simp only [List.setIfInBounds_toArray]); (try simp only [List.set_cons_zero, List.set_cons_succ]))))
              refine wpQuiet_nil ?_
              intro wq hq
              have HQ := Lib.hid (HW.out.trans hq)
              clear hq
            · go_wp2_with fail
              go_ret
              exact ⟨ret_int (HO.out (by rw [HG.out]; rfl)).symm, HQ.out.below⟩
            · go_wp2_with fail
              go_roundw
              case rel => exact ⟨j + 1 + 1, by omega, by go_num, HN.out (by rw [HG.out, p1]; rfl), HQ.out⟩
              case measure => simp [intOf]; omega
      · obtain rfl : k = L.length := by omega
        go_wp2
        go_ret
        exact ⟨ret_int (by rw [← HR.out, rightP_of hs.out, if_pos (decide_eq_true hl)]), HB.out.below⟩
  · have d1 : decide ((32 : Int) < (L.length : Int)) = true := decide_eq_true (by omega)
    go_enter Tryz.func42, Tryz.ntmps42
    go_wp2
    go_ret
    exact ⟨ret_int (by rw [← HR.out]; unfold rightP; rw [decide_eq_false hl]; rfl), Below.refl _ _⟩
end Go.Proofs.YtlgmjkbaihpmmaaGreat.Kv
