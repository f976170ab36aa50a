import Derived.Test.YtbheofibdogabaaGreatCallW
import Derived.Test.YtbheofibdogabaaGreatMergeSb12
import Derived.Test.YtbheofibdogabaaGreatMergeSb14
import Derived.Test.YtbheofibdogabaaGreatMergeSb19
import Derived.Test.YtbheofibdogabaaGreatMergeSb11
section
/- The landed mayBe, isRight, writeValue. -/
namespace Go.Proofs.YtbheofibdogabaaGreat.Ss
open Go Go.RowKit Vl Kv Mem Nm
attribute [local go_sem] run_bits run_frombits run_store_float
set_option maxHeartbeats 800000 in
theorem isRight_any (s : Se) (w : World) : Calls Tryz.prog 43 #[s.agg] w fun e w' => e = .returned (.bool s.right) ∧ Beh w w' := by
  have HC := Lib.hid (show s.right = (mayBe s.client s.seq && decide (0 ≤ s.code) && decide (s.code ≤ 16) && (s.val.check == 0)) by
    unfold Se.right; rw [Bool.eq_iff_iff]; simp)
  have HA := Lib.hid (alloc_here (w := w) s.obj rfl)
  have HB := Lib.hid ((Beh.start w).alloc s.obj)
  obtain ⟨c, q, d, ⟨vk, vn, vs⟩⟩ := s
  unfold Se.obj at HA HB
  dsimp only at HA HB HC
  have HM := fun w => Lib.hid (mayBe_any c q w)
  cases h1 : mayBe c q <;> cases h2 : decide (0 ≤ d) <;> cases h3 : decide (d ≤ 16)
  all_goals
    simp only [h1] at HM
    go_enter Tryz.func43, Tryz.ntmps43
    go_wp2_with (first | (go_at_call 69; refine ((HM _).out).mono ?_; rintro e w' ⟨rfl, rfl⟩) | (go_at_call 70; refine (Check_any ⟨_, _, _⟩ _).mono ?_; rintro e w' ⟨rfl, hb⟩; (have HA := Lib.hid (box_on HA.out hb)); (have HB := Lib.hid (HB.out.on hb)); clear hb))
    go_ret
    exact ⟨ret_bool (by rw [HC.out, h1, h2, h3]; simp), HB.out⟩
set_option maxHeartbeats 800000 in
theorem writeValue_any {w0 wr : World} {bw : Nat} {l : List Nat} {F : List (Nat × Obj)} (h : OwnX w0 wr bw l F) (v : V) (hv : v.check = 0) (hl : l.length ≤ 90000) :
    Calls Tryz.prog 22 #[.pointer (some ⟨bw, 0, none⟩), v.val] wr fun x w' => x = .returned (.tuple #[]) ∧ OwnX w0 w' bw (l ++ valB v) F := by
  have HF := Lib.hid (h.more (Vobj v))
  have hk := (check_zero hv).1
  have h32 := Lib.hid (short_text hv)
  have HV := Lib.hid (show valB v = Pk.intB v.kind ++ (if v.kind = 1 then Pk.fltB v.num else if v.kind = 2 then Pk.textB (bl v.text) else []) from rfl)
  have hi := (Pk.intB_len v.kind).2
  have HL := Lib.hid (show (l ++ Pk.intB v.kind).length ≤ 100000 by rw [List.length_append]; omega)
  have hdrop : Hid (∀ {w' : World} {m : List Nat}, OwnX w0 w' bw m ((wr.heap.size, Vobj v) :: F) → OwnX w0 w' bw m F) := fun h => h.less (fun x hx => List.mem_cons_of_mem _ hx)
  clear h hv hi
  obtain ⟨k, n, t⟩ := v
  have HG : Hid (∀ {w' : World} {m : List Nat}, OwnX w0 w' bw m ((wr.heap.size, Vobj ⟨k, n, t⟩) :: F) → w'.heap[wr.heap.size]? = some (.cells #[.int .i64 k, .float .f64 n, .string t] 50)) := fun h => h.get (List.mem_cons_self ..)
  have kc := fun (w : World) (s : ByteArray) => run_bl w s
  unfold Vobj at HF
  dsimp only at HF hk HV HL h32
  go_enter Tryz.func22, Tryz.ntmps22
  go_wp2_with fail
  refine (wInt (n := k) HF.out (by omega) (by omega) (by omega)).mono ?_
  rintro x w1 ⟨rfl, h1⟩
  have H1 := Lib.hid h1
  obtain ⟨c0, c1, c2, _⟩ := cells3 (HG.out h1)
  clear h1
  rcases hk with rfl | rfl | rfl
  · go_wp2_with fail
    go_end0
    exact ⟨rfl, by rw [HV.out]; simpa using hdrop.out H1.out⟩
  · go_wp2_with fail
    refine (wFloat (n := n) H1.out HL.out).mono ?_
    rintro x w2 ⟨rfl, h2⟩
    have H2 := Lib.hid h2
    clear h2
    go_wp2_with fail
    go_end0
    exact ⟨rfl, by rw [HV.out]; simpa using hdrop.out H2.out⟩
  · go_wp2_with fail
    refine (wText H1.out t (by have := h32.out; omega) HL.out).mono ?_
    rintro x w2 ⟨rfl, h2⟩
    have H2 := Lib.hid h2
    clear h2
    go_wp2_with fail
    go_end0
    exact ⟨rfl, by rw [HV.out]; simpa using hdrop.out H2.out⟩
end Go.Proofs.YtbheofibdogabaaGreat.Ss
end
section
/- Walks on commands: the law's HeavyCmd; the landed Changes, hasRightValues, Right; the reference's zero, Cmd. -/
namespace Go.Proofs.YtbheofibdogabaaGreat.Kv
open Go Go.RowKit Vl Nm Mem
attribute [local go_sem] run_bits run_frombits run_store_float
end Go.Proofs.YtbheofibdogabaaGreat.Kv
end
section
/- Walks on commands, and on a pair: the landed Right, isRight; the reference's zero, Cmd. -/
namespace Go.Proofs.YtbheofibdogabaaGreat.Kv
open Go Go.RowKit Vl Nm Mem
attribute [local go_sem] run_bits run_frombits run_store_float
theorem pr_told (p : Pr) : p.right = (!(decide (p.key.size = 0)) && decide ((p.key.size : Int) ≤ 8) && (p.val.kind != 0) && (p.val.check == 0)) := by
  have e : ∀ a b : Int, decide (a = b) = (a == b) := fun a b => by rw [Bool.eq_iff_iff]; simp
  have e2 : ∀ a b : Int, decide (a ≠ b) = (a != b) := fun a b => by rw [Bool.eq_iff_iff]; simp
  have e3 : decide ((p.key.size : Int) ≤ 8) = decide (p.key.size ≤ 8) := by apply decide_eq_decide.2; omega
  unfold Pr.right
  rw [e3]
  simp only [e, e2, ← decide_not]
set_option maxHeartbeats 1600000 in
theorem isRight_any (p : Pr) (w : World) :
    Calls Tryz.prog 68 #[p.agg] w fun e w' => e = .returned (.bool p.right) ∧ Below w.heap.size w w' := by
  have HC := Lib.hid (pr_told p)
  have HA := Lib.hid (alloc_here (w := w) p.obj rfl)
  have HB := Lib.hid (below_alloc w p.obj)
  have HS := Lib.hid (str_empty p.key)
  obtain ⟨key, ⟨k, n, s⟩⟩ := p
  unfold Pr.obj at HA HB
  cases h1 : decide (key.size = 0)
  · have d1 : (key.toList == []) = false := by rw [HS.out]; exact h1
    have d2 : (key.toList != []) = true := by rw [bne, d1]; rfl
    cases h2 : decide ((key.size : Int) ≤ 8)
    · go_enter Tryz.func68, Tryz.ntmps68
      go_wp2_with fail
      go_ret
      exact ⟨ret_bool (by rw [HC.out, h1, h2]; rfl), HB.out⟩
    · cases h3 : (k == 0)
      · have h4 : (k != 0) = true := by rw [bne, h3]; rfl
        go_enter Tryz.func68, Tryz.ntmps68
        go_wp2_with (first | (go_at_call 70; refine (Check_any ⟨_, _, _⟩ _).mono ?_; rintro e w' ⟨rfl, hb⟩; (have HB := Lib.hid (blw HB.out hb)); clear hb))
        go_ret
        exact ⟨ret_bool (by rw [HC.out, h1, h2, h4]; simp), HB.out⟩
      · have h4 : (k != 0) = false := by rw [bne, h3]; rfl
        go_enter Tryz.func68, Tryz.ntmps68
        go_wp2_with fail
        go_ret
        exact ⟨ret_bool (by rw [HC.out, h1, h2, h4]; rfl), HB.out⟩
  · have d1 : (key.toList == []) = true := by rw [HS.out]; exact h1
    have d2 : (key.toList != []) = false := by rw [bne, d1]; rfl
    go_enter Tryz.func68, Tryz.ntmps68
    go_wp2_with fail
    go_ret
    exact ⟨ret_bool (by rw [HC.out, h1]; rfl), HB.out⟩
end Go.Proofs.YtbheofibdogabaaGreat.Kv
end
section
/- Are pairs right: the landed Check. -/
namespace Go.Proofs.YtbheofibdogabaaGreat.Kv
open Go Go.RowKit Vl Nm Mem
attribute [local go_sem] run_bits run_frombits run_store_float
attribute [local irreducible] wpQuiet

theorem good_told (L : List Pr) (k : Nat) : good L (k + 1) = ((L.getD (k + 1) Pr.zero).right && Op.bytesLess (L.getD k Pr.zero).key.toList (L.getD (k + 1) Pr.zero).key.toList) := by
  unfold good
  rw [text_lt]
  simp [klt]
theorem good_first (L : List Pr) : good L 0 = (L.getD 0 Pr.zero).right := by unfold good; simp
set_option maxHeartbeats 3200000 in
set_option maxRecDepth 20000 in
theorem Check_any (a : Option Addr) (cap : Nat) (L : List Pr) (w : World) (h : PairsAt w a cap L) :
    Calls Tryz.prog 42 #[.slice a L.length cap] w fun e w' => e = .returned (.int .i64 (if rightP L = true then 0 else 6)) ∧ Below w.heap.size w w' := by
  have HI := Lib.hid h
  clear h
  obtain ⟨r, hr⟩ : ∃ r : Int, (if rightP L = true then (0 : Int) else 6) = r := ⟨_, rfl⟩
  rw [hr]
  have HR := Lib.hid hr
  clear hr
  by_cases hl : L.length ≤ 32
  · have d1 : decide ((32 : Int) < (L.length : Int)) = false := decide_eq_false (by omega)
    go_enter Tryz.func42, Tryz.ntmps42
    go_wp2
    go_loopw [3, 4, 10] (fun _ _ i wr => ∃ k : Nat, k ≤ L.length ∧ i = .int .i64 k ∧ Hid (rightN L k = true) ∧ Hid (Beh w wr)) (fun _ _ i _ => L.length - (intOf i).toNat)
    case atStart => exact ⟨0, by omega, rfl, rfl, Beh.start _⟩
    case round =>
      obtain ⟨k, hk, rfl, hs, HB⟩ := hrel
      by_cases hlt : k < L.length
      · have HP : Hid (∀ wq, Beh w wq → ∃ b off, a = some ⟨b, off, none⟩ ∧ ∀ i, i < L.length → (L.getD i Pr.zero).at_ wq b (off + i * 4)) := fun wq hq => (HI.out.below hq.below).at_ (by omega)
        obtain ⟨b, off, rfl, _⟩ := HP.out _ HB.out
        have HP : Hid (∀ wq, Beh w wq → ∀ i, i < L.length → (L.getD i Pr.zero).at_ wq b (off + i * 4)) := fun wq hq => by
          obtain ⟨_, _, he, hc⟩ := HP.out _ hq; cases he; exact hc
        have HN : Hid (good L k = true → rightN L (k + 1) = true) := fun h => by rw [rightN_succ, hs.out, h]; rfl
        have HO : Hid (good L k = false → r = 6) := fun h => by rw [← HR.out, rightP_false hlt h]; rfl
        have HPk : Hid (∀ wq, Beh w wq → (L.getD k Pr.zero).at_ wq b (off + k * 4)) := fun wq hq => HP.out _ hq k hlt
        obtain ⟨c0, c1, c2, c3⟩ := HPk.out _ HB.out
        rcases Nat.eq_zero_or_pos k with rfl | h0
        · have HG := Lib.hid (good_first L)
          simp only [Nat.zero_mul, Nat.add_zero] at c0 c1 c2 c3
          generalize L.getD 0 Pr.zero = p at *
          obtain ⟨q, hq⟩ : ∃ q, p.right = q := ⟨_, rfl⟩
          have HQR := fun w => Lib.hid (isRight_any p w)
          rw [hq] at HQR HG
          obtain ⟨key, ⟨vk, vn, vs⟩⟩ := p
          have HW := Lib.hid (HB.out.alloc (Pr.obj ⟨key, ⟨vk, vn, vs⟩⟩))
          have HA := Lib.hid (alloc_here (w := wr) (Pr.obj ⟨key, ⟨vk, vn, vs⟩⟩) rfl)
          unfold Pr.obj at HA HW
          clear hq
          cases q
          all_goals
            go_wp2_with fail
            refine wp_region_quiet (C := Beh (wr.alloc (.cells #[.string key, .int .i64 vk, .float .f64 vn, .string vs] 61))) (by kernel_rfl) (by kernel_rfl) (Beh.start _).drew ?_
            repeat (first
              | (refine BigFrame.wpQuiet_skip (by exact Eq.refl false) ?_
                 ((try simp only [Act.put]); (try simp only [List.setIfInBounds_toArray]); (try simp only [List.set_cons_zero, List.set_cons_succ])))
              | (refine BigFrame.wpQuiet_want (by exact Eq.refl true) (fun K hK => ?_)
                 first
                 | (refine quiet_move2 _ rfl (by go_simp; rfl) ?_; refine hK _ ?_)
                 | (apply Exists.intro
                    refine ⟨fun wq hq => ?_, hK _ ?_⟩
                    · ((obtain ⟨c0, c1, c2, c3⟩ := cells4 (hq.box HA.out))
                       have HQ := Lib.hid hq
                       clear hq
                       unfold Oper.quietAt
                       go_simp
                       first
                       | rfl
                       | (go_at_call 68; exact ((HQR _).out).mono (fun e w' ⟨he, hb⟩ => ⟨he, HQ.out.on hb⟩))))
                 clear hK K
                 ((try simp only [Act.put]); (try simp only [List.setIfInBounds_toArray]); (try simp only [List.set_cons_zero, List.set_cons_succ]))))
            refine wpQuiet_nil ?_
            intro wq hq
            have HQ := Lib.hid (HW.out.trans hq)
            clear hq
          · go_wp2_with fail
            go_ret
            exact ⟨ret_int (HO.out HG.out).symm, HQ.out.below⟩
          · go_wp2_with fail
            go_roundw
            case rel => exact ⟨1, by omega, by go_num, HN.out HG.out, HQ.out⟩
            case measure => simp [intOf]; omega
        · obtain ⟨j, rfl⟩ : ∃ j, k = j + 1 := ⟨k - 1, by omega⟩
          have HG := Lib.hid (good_told L j)
          have HPj : Hid (∀ wq, Beh w wq → (L.getD j Pr.zero).at_ wq b (off + j * 4)) := fun wq hq => HP.out _ hq j (by omega)
          have hj : j < L.length := by omega
          have wj2 : IntKind.i64.wrap (j : Int) = j := by rw [IntKind.wrap_i64]; omega
          have wj : wrap64 (j : Int) = j := by unfold wrap64; omega
          generalize L.getD (j + 1) Pr.zero = p at *
          generalize L.getD j Pr.zero = p0 at *
          obtain ⟨key0, ⟨uk, un, us⟩⟩ := p0
          obtain ⟨q, hq⟩ : ∃ q, p.right = q := ⟨_, rfl⟩
          have HQR := fun w => Lib.hid (isRight_any p w)
          rw [hq] at HQR HG
          obtain ⟨key, ⟨vk, vn, vs⟩⟩ := p
          have HW := Lib.hid (HB.out.alloc (Pr.obj ⟨key, ⟨vk, vn, vs⟩⟩))
          have HA := Lib.hid (alloc_here (w := wr) (Pr.obj ⟨key, ⟨vk, vn, vs⟩⟩) rfl)
          unfold Pr.obj at HA HW
          clear hq
          cases p1 : Op.bytesLess key0.toList key.toList
          · go_wp2_with fail
            refine wp_region_quiet (C := Beh (wr.alloc (.cells #[.string key, .int .i64 vk, .float .f64 vn, .string vs] 61))) (by kernel_rfl) (by kernel_rfl) (Beh.start _).drew ?_
            repeat (first
              | (refine BigFrame.wpQuiet_skip (by exact Eq.refl false) ?_
                 ((try simp only [Act.put]); (try simp only [List.setIfInBounds_toArray]); (try simp only [List.set_cons_zero, List.set_cons_succ])))
              | (refine BigFrame.wpQuiet_want (by exact Eq.refl true) (fun K hK => ?_)
                 first
                 | (refine quiet_move2 _ rfl (by go_simp; rfl) ?_; refine hK _ ?_)
                 | (apply Exists.intro
                    refine ⟨fun wq hq => ?_, hK _ ?_⟩
                    · ((obtain ⟨c0, c1, c2, c3⟩ := cells4 (hq.box HA.out)); (obtain ⟨d0, d1, d2, d3⟩ := HPj.out _ (HW.out.trans hq))
                       have HQ := Lib.hid hq
                       clear hq
                       unfold Oper.quietAt
                       go_simp
                       first
                       | rfl
                       | fail))
                 clear hK K
                 ((try simp only [Act.put]); (try simp only [List.setIfInBounds_toArray]); (try simp only [List.set_cons_zero, List.set_cons_succ]))))
            refine wpQuiet_nil ?_
            intro wq hq
            have HQ := Lib.hid (HW.out.trans hq)
            clear hq
            go_wp2_with fail
            go_ret
            exact ⟨ret_int (HO.out (by rw [HG.out, p1]; simp)).symm, HQ.out.below⟩
          · cases q
            all_goals
              go_wp2_with fail
              refine wp_region_quiet (C := Beh (wr.alloc (.cells #[.string key, .int .i64 vk, .float .f64 vn, .string vs] 61))) (by kernel_rfl) (by kernel_rfl) (Beh.start _).drew ?_
              repeat (first
                | (refine BigFrame.wpQuiet_skip (by exact Eq.refl false) ?_
                   ((try simp only [Act.put]); (try simp only [List.setIfInBounds_toArray]); (try simp only [List.set_cons_zero, List.set_cons_succ])))
                | (refine BigFrame.wpQuiet_want (by exact Eq.refl true) (fun K hK => ?_)
                   first
                   | (refine quiet_move2 _ rfl (by go_simp; rfl) ?_; refine hK _ ?_)
                   | (apply Exists.intro
                      refine ⟨fun wq hq => ?_, hK _ ?_⟩
                      · ((obtain ⟨c0, c1, c2, c3⟩ := cells4 (hq.box HA.out)); (obtain ⟨d0, d1, d2, d3⟩ := HPj.out _ (HW.out.trans hq))
                         have HQ := Lib.hid hq
                         clear hq
                         unfold Oper.quietAt
                         go_simp
                         first
                         | rfl
                         | (go_at_call 68; exact ((HQR _).out).mono (fun e w' ⟨he, hb⟩ => ⟨he, HQ.out.on hb⟩))))
                   clear hK K
                   ((try simp only [Act.put]); (try simp only [List.setIfInBounds_toArray]); (try simp only [List.set_cons_zero, List.set_cons_succ]))))
              refine wpQuiet_nil ?_
              intro wq hq
              have HQ := Lib.hid (HW.out.trans hq)
              clear hq
            · go_wp2_with fail
              go_ret
              exact ⟨ret_int (HO.out (by rw [HG.out]; rfl)).symm, HQ.out.below⟩
            · go_wp2_with fail
              go_roundw
              case rel => exact ⟨j + 1 + 1, by omega, by go_num, HN.out (by rw [HG.out, p1]; rfl), HQ.out⟩
              case measure => simp [intOf]; omega
      · obtain rfl : k = L.length := by omega
        go_wp2
        go_ret
        exact ⟨ret_int (by rw [← HR.out, rightP_of hs.out, if_pos (decide_eq_true hl)]), HB.out.below⟩
  · have d1 : decide ((32 : Int) < (L.length : Int)) = true := decide_eq_true (by omega)
    go_enter Tryz.func42, Tryz.ntmps42
    go_wp2
    go_ret
    exact ⟨ret_int (by rw [← HR.out]; unfold rightP; rw [decide_eq_false hl]; rfl), Below.refl _ _⟩
end Go.Proofs.YtbheofibdogabaaGreat.Kv
end
section
/- The keeper's Pairs, Reply. -/
namespace Go.Proofs.YtbheofibdogabaaGreat.Kv
open Go Go.RowKit Vl Nm Mem
attribute [local go_sem] run_bits run_frombits run_store_float
attribute [local irreducible] wpQuiet

theorem all_next {p : Nat → Bool} {k : Nat} (h : (List.range k).all p = true) (h2 : p k = true) : (List.range (k + 1)).all p = true := by
  rw [List.range_succ, List.all_append, h]; simp [h2]
theorem all_not {p : Nat → Bool} {k n : Nat} (hk : k < n) (h : p k = false) : (List.range n).all p = false := by
  rw [List.all_eq_false]; exact ⟨k, List.mem_range.2 hk, by simp [h]⟩
set_option maxHeartbeats 1600000 in
set_option maxRecDepth 20000 in
theorem keepPairs_any (a : Option Addr) (cap : Nat) (L : List Pr) (a2 : Option Addr) (cap2 : Nat) (M : List Pr) (w : World) (h : PairsAt w a cap L) (h2 : PairsAt w a2 cap2 M) (hl : L.length ≤ 100000) :
    Calls Tryz.prog 37 #[.slice a L.length cap, .slice a2 M.length cap2] w fun e w' => e = .returned (.bool (samePs L M)) ∧ Below w.heap.size w w' := by
  have HS := Lib.hid h
  have HS2 := Lib.hid h2
  have HM := Lib.hid (show samePs L M = (decide (L.length = M.length) && (List.range L.length).all (fun i => samePr (L.getD i Pr.zero) (M.getD i Pr.zero))) from rfl)
  clear h h2
  by_cases hlen : L.length = M.length
  · have HLEN := Lib.hid hlen
    have hne : ((L.length : Int) != M.length) = false := by simp [hlen]
    clear hlen
    go_enter Tryz.func37, Tryz.ntmps37
    go_wp2
    go_loopw [5] (fun i wr => ∃ k : Nat, k ≤ L.length ∧ i = .int .i64 k ∧ Hid ((List.range k).all (fun i => samePr (L.getD i Pr.zero) (M.getD i Pr.zero)) = true) ∧ Hid (Beh w wr)) (fun i _ => L.length - (intOf i).toNat)
    case atStart => exact ⟨0, by omega, rfl, rfl, Beh.start _⟩
    case round =>
      obtain ⟨k, hk, rfl, hs, hw⟩ := hrel
      by_cases hlt : k < L.length
      · have hlt2 : k < M.length := by rw [← HLEN.out]; exact hlt
        have HP : Hid (∀ wq, Beh w wq → ∃ b off, a = some ⟨b, off, none⟩ ∧ (L.getD k Pr.zero).at_ wq b (off + k * 4)) := fun wq hq => by
          obtain ⟨b, off, ha, hc⟩ := (HS.out.below hq.below).at_ (by omega)
          exact ⟨b, off, ha, hc k hlt⟩
        have HP2 : Hid (∀ wq, Beh w wq → ∃ b off, a2 = some ⟨b, off, none⟩ ∧ (M.getD k Pr.zero).at_ wq b (off + k * 4)) := fun wq hq => by
          obtain ⟨b, off, ha, hc⟩ := (HS2.out.below hq.below).at_ (by omega)
          exact ⟨b, off, ha, hc k hlt2⟩
        obtain ⟨b, off, rfl, _⟩ := HP.out _ hw.out
        obtain ⟨b2, off2, rfl, _⟩ := HP2.out _ hw.out
        have HP : Hid (∀ wq, Beh w wq → (L.getD k Pr.zero).at_ wq b (off + k * 4)) := fun wq hq => by
          obtain ⟨_, _, he, hc⟩ := HP.out _ hq; cases he; exact hc
        have HP2 : Hid (∀ wq, Beh w wq → (M.getD k Pr.zero).at_ wq b2 (off2 + k * 4)) := fun wq hq => by
          obtain ⟨_, _, he, hc⟩ := HP2.out _ hq; cases he; exact hc
        have HN := Lib.hid (fun h => all_next (p := fun i => samePr (L.getD i Pr.zero) (M.getD i Pr.zero)) hs.out h)
        have HO := Lib.hid (fun h => all_not (p := fun i => samePr (L.getD i Pr.zero) (M.getD i Pr.zero)) (k := k) hlt h)
        generalize L.getD k Pr.zero = p at *
        generalize M.getD k Pr.zero = q at *
        obtain ⟨key, ⟨pk, pn, ps⟩⟩ := p
        obtain ⟨ley, ⟨qk, qn, qs⟩⟩ := q
        have HSP := Lib.hid (show samePr ⟨key, ⟨pk, pn, ps⟩⟩ ⟨ley, ⟨qk, qn, qs⟩⟩ = (decide (key = ley) && V.same ⟨pk, pn, ps⟩ ⟨qk, qn, qs⟩) from rfl)
        have HKT := Lib.hid (key_test key ley)
        cases p1 : (key.toList == ley.toList)
        · have p2 : (key.toList != ley.toList) = true := by rw [bne, p1]; rfl
          go_wp2_with fail
          refine wp_region_quiet (C := Beh w) (by kernel_rfl) (by kernel_rfl) hw.out.drew ?_
          repeat (first
            | (refine BigFrame.wpQuiet_skip (by exact Eq.refl false) ?_
               ((try simp only [Act.put]); (try simp only [List.setIfInBounds_toArray]); (try simp only [List.set_cons_zero, List.set_cons_succ])))
            | (refine BigFrame.wpQuiet_want (by exact Eq.refl true) (fun K hK => ?_)
               first
               | (refine quiet_move2 _ rfl (by go_simp; rfl) ?_; refine hK _ ?_)
               | (apply Exists.intro
                  refine ⟨fun wq hq => ?_, hK _ ?_⟩
                  · ((obtain ⟨c0, c1, c2, c3⟩ := HP.out _ hq); (obtain ⟨d0, d1, d2, d3⟩ := HP2.out _ hq)
                     have HQ := Lib.hid hq
                     clear hq
                     unfold Oper.quietAt
                     go_simp
                     first
                     | rfl
                     | fail))
               clear hK K
               ((try simp only [Act.put]); (try simp only [List.setIfInBounds_toArray]); (try simp only [List.set_cons_zero, List.set_cons_succ]); (try simp only [p2]))))
          refine wpQuiet_nil ?_
          intro wq hq
          have HQ := Lib.hid hq
          clear hq
          go_wp2_with fail
          go_ret
          exact ⟨ret_bool (by rw [HM.out, HO.out (by rw [HSP.out, ← HKT.out, p1]; rfl)]; simp), HQ.out.below⟩
        · have p2 : (key.toList != ley.toList) = false := by rw [bne, p1]; rfl
          cases r : V.same ⟨pk, pn, ps⟩ ⟨qk, qn, qs⟩
          all_goals
            go_wp2_with fail
            refine wp_region_quiet (C := Beh w) (by kernel_rfl) (by kernel_rfl) hw.out.drew ?_
            repeat (first
              | (refine BigFrame.wpQuiet_skip (by exact Eq.refl false) ?_
                 ((try simp only [Act.put]); (try simp only [List.setIfInBounds_toArray]); (try simp only [List.set_cons_zero, List.set_cons_succ])))
              | (refine BigFrame.wpQuiet_want (by exact Eq.refl true) (fun K hK => ?_)
                 first
                 | (refine quiet_move2 _ rfl (by go_simp; rfl) ?_; refine hK _ ?_)
                 | (apply Exists.intro
                    refine ⟨fun wq hq => ?_, hK _ ?_⟩
                    · ((obtain ⟨c0, c1, c2, c3⟩ := HP.out _ hq); (obtain ⟨d0, d1, d2, d3⟩ := HP2.out _ hq)
                       have HQ := Lib.hid hq
                       clear hq
                       unfold Oper.quietAt
                       go_simp
                       first
                       | rfl
                       | (go_at_call 58; exact (keepValue_any ⟨_, _, _⟩ ⟨_, _, _⟩ _).mono (fun e w' ⟨he, hb⟩ => ⟨he, HQ.out.on hb⟩))))
                 clear hK K
                 ((try simp only [Act.put]); (try simp only [List.setIfInBounds_toArray]); (try simp only [List.set_cons_zero, List.set_cons_succ]); (try simp only [r]))))
            refine wpQuiet_nil ?_
            intro wq hq
            have HQ := Lib.hid hq
            clear hq
          · go_wp2_with fail
            go_ret
            exact ⟨ret_bool (by rw [HM.out, HO.out (by rw [HSP.out, r]; simp)]; simp), HQ.out.below⟩
          · go_wp2_with fail
            go_roundw
            case rel => exact ⟨k + 1, by omega, by go_num, HN.out (by rw [HSP.out, r, ← HKT.out, p1]; rfl), HQ.out⟩
            case measure => simp [intOf]; omega
      · obtain rfl : k = L.length := by omega
        go_wp2
        go_ret
        exact ⟨ret_bool (by rw [HM.out, HLEN.out, ← HLEN.out, hs.out]; simp), hw.out.below⟩
  · have HLEN := Lib.hid hlen
    have hne : ((L.length : Int) != M.length) = true := by simp; omega
    clear hlen
    go_enter Tryz.func37, Tryz.ntmps37
    go_wp2
    go_ret
    exact ⟨ret_bool (by rw [HM.out, decide_eq_false HLEN.out]; rfl), Below.refl _ _⟩
end Go.Proofs.YtbheofibdogabaaGreat.Kv
end
