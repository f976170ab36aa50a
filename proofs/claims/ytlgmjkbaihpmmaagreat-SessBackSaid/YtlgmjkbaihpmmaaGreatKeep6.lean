/- The keeper's Pairs, Reply. -/
import Derived.Test.YtlgmjkbaihpmmaaGreatBeh
namespace Go.Proofs.YtlgmjkbaihpmmaaGreat.Kv
open Go Go.RowKit Vl Nm Mem
attribute [local go_sem] run_bits run_frombits run_store_float
attribute [local irreducible] wpQuiet

theorem all_next {p : Nat → Bool} {k : Nat} (h : (List.range k).all p = true) (h2 : p k = true) : (List.range (k + 1)).all p = true := by
  rw [List.range_succ, List.all_append, h]; simp [h2]
theorem all_not {p : Nat → Bool} {k n : Nat} (hk : k < n) (h : p k = false) : (List.range n).all p = false := by
  rw [List.all_eq_false]; exact ⟨k, List.mem_range.2 hk, by simp [h]⟩
set_option maxHeartbeats 1600000 in
set_option maxRecDepth 20000 in
theorem keepPairs_any (a : Option Addr) (cap : Nat) (L : List Pr) (a2 : Option Addr) (cap2 : Nat) (M : List Pr) (w : World) (h : PairsAt w a cap L) (h2 : PairsAt w a2 cap2 M) (hl : L.length ≤ 100000) :
    Calls Tryz.prog 37 #[.slice a L.length cap, .slice a2 M.length cap2] w fun e w' => e = .returned (.bool (samePs L M)) ∧ Below w.heap.size w w' := by
  have HS := Lib.hid h
  have HS2 := Lib.hid h2
  have HM := Lib.hid (show samePs L M = (decide (L.length = M.length) && (List.range L.length).all (fun i => samePr (L.getD i Pr.zero) (M.getD i Pr.zero))) from rfl)
  clear h h2
  by_cases hlen : L.length = M.length
  · have HLEN := Lib.hid hlen
    have hne : ((L.length : Int) != M.length) = false := by simp [hlen]
    clear hlen
    go_enter Tryz.func37, Tryz.ntmps37
    go_wp2
    go_loopw [5] (fun i wr => ∃ k : Nat, k ≤ L.length ∧ i = .int .i64 k ∧ Hid ((List.range k).all (fun i => samePr (L.getD i Pr.zero) (M.getD i Pr.zero)) = true) ∧ Hid (Beh w wr)) (fun i _ => L.length - (intOf i).toNat)
    case atStart => exact ⟨0, by omega, rfl, rfl, Beh.start _⟩
    case round =>
      obtain ⟨k, hk, rfl, hs, hw⟩ := hrel
      by_cases hlt : k < L.length
      · have hlt2 : k < M.length := by rw [← HLEN.out]; exact hlt
        have HP : Hid (∀ wq, Beh w wq → ∃ b off, a = some ⟨b, off, none⟩ ∧ (L.getD k Pr.zero).at_ wq b (off + k * 4)) := fun wq hq => by
          obtain ⟨b, off, ha, hc⟩ := (HS.out.below hq.below).at_ (by omega)
          exact ⟨b, off, ha, hc k hlt⟩
        have HP2 : Hid (∀ wq, Beh w wq → ∃ b off, a2 = some ⟨b, off, none⟩ ∧ (M.getD k Pr.zero).at_ wq b (off + k * 4)) := fun wq hq => by
          obtain ⟨b, off, ha, hc⟩ := (HS2.out.below hq.below).at_ (by omega)
          exact ⟨b, off, ha, hc k hlt2⟩
        obtain ⟨b, off, rfl, _⟩ := HP.out _ hw.out
        obtain ⟨b2, off2, rfl, _⟩ := HP2.out _ hw.out
        have HP : Hid (∀ wq, Beh w wq → (L.getD k Pr.zero).at_ wq b (off + k * 4)) := fun wq hq => by
          obtain ⟨_, _, he, hc⟩ := HP.out _ hq; cases he; exact hc
        have HP2 : Hid (∀ wq, Beh w wq → (M.getD k Pr.zero).at_ wq b2 (off2 + k * 4)) := fun wq hq => by
          obtain ⟨_, _, he, hc⟩ := HP2.out _ hq; cases he; exact hc
        have HN := Lib.hid (fun h => all_next (p := fun i => samePr (L.getD i Pr.zero) (M.getD i Pr.zero)) hs.out h)
        have HO := Lib.hid (fun h => all_not (p := fun i => samePr (L.getD i Pr.zero) (M.getD i Pr.zero)) (k := k) hlt h)
        generalize L.getD k Pr.zero = p at *
        generalize M.getD k Pr.zero = q at *
        obtain ⟨key, ⟨pk, pn, ps⟩⟩ := p
        obtain ⟨ley, ⟨qk, qn, qs⟩⟩ := q
        have HSP := Lib.hid (show samePr ⟨key, ⟨pk, pn, ps⟩⟩ ⟨ley, ⟨qk, qn, qs⟩⟩ = (decide (key = ley) && V.same ⟨pk, pn, ps⟩ ⟨qk, qn, qs⟩) from rfl)
        have HKT := Lib.hid (key_test key ley)
        cases p1 : (key.toList == ley.toList)
        · have p2 : (key.toList != ley.toList) = true := by rw [bne, p1]; rfl
          go_wp2_with fail
          refine wp_region_quiet (C := Beh w) (by kernel_rfl) (by kernel_rfl) hw.out.drew ?_
          repeat (first
            | (refine BigFrame.wpQuiet_skip (by exact Eq.refl false) ?_
               ((try simp only [Act.put]); (try simp only [List.setIfInBounds_toArray]); (try simp only [List.set_cons_zero, List.set_cons_succ])))
            | (refine BigFrame.wpQuiet_want (by exact Eq.refl true) (fun K hK => ?_)
               first
               | (refine quiet_move2 _ rfl (by go_simp; rfl) ?_; refine hK _ ?_)
               | (apply Exists.intro
                  refine ⟨fun wq hq => ?_, hK _ ?_⟩
                  · ((obtain ⟨c0, c1, c2, c3⟩ := HP.out _ hq); (obtain ⟨d0, d1, d2, d3⟩ := HP2.out _ hq)
                     have HQ := Lib.hid hq
                     clear hq
                     unfold Oper.quietAt
                     go_simp
                     first
                     | rfl
                     | fail))
               clear hK K
               ((try simp only [Act.put]); (try simp only [List.setIfInBounds_toArray]); (try simp only [List.set_cons_zero, List.set_cons_succ]); (try simp only [p2]))))
          refine wpQuiet_nil ?_
          intro wq hq
          have HQ := Lib.hid hq
          clear hq
          go_wp2_with fail
          go_ret
          exact ⟨ret_bool (by rw [HM.out, HO.out (by rw [HSP.out, ← HKT.out, p1]; rfl)]; simp), HQ.out.below⟩
        · have p2 : (key.toList != ley.toList) = false := by rw [bne, p1]; rfl
          cases r : V.same ⟨pk, pn, ps⟩ ⟨qk, qn, qs⟩
          all_goals
            go_wp2_with fail
            refine wp_region_quiet (C := Beh w) (by kernel_rfl) (by kernel_rfl) hw.out.drew ?_
            repeat (first
              | (refine BigFrame.wpQuiet_skip (by exact Eq.refl false) ?_
                 ((try simp only [Act.put]); (try simp only [List.setIfInBounds_toArray]); (try simp only [List.set_cons_zero, List.set_cons_succ])))
              | (refine BigFrame.wpQuiet_want (by exact Eq.refl true) (fun K hK => ?_)
                 first
                 | (refine quiet_move2 _ rfl (by go_simp; rfl) ?_; refine hK _ ?_)
                 | (apply Exists.intro
                    refine ⟨fun wq hq => ?_, hK _ ?_⟩
                    · ((obtain ⟨c0, c1, c2, c3⟩ := HP.out _ hq); (obtain ⟨d0, d1, d2, d3⟩ := HP2.out _ hq)
                       have HQ := Lib.hid hq
                       clear hq
                       unfold Oper.quietAt
                       go_simp
                       first
                       | rfl
                       | (go_at_call 58; exact (keepValue_any ⟨_, _, _⟩ ⟨_, _, _⟩ _).mono (fun e w' ⟨he, hb⟩ => ⟨he, HQ.out.on hb⟩))))
                 clear hK K
                 ((try simp only [Act.put]); (try simp only [List.setIfInBounds_toArray]); (try simp only [List.set_cons_zero, List.set_cons_succ]); (try simp only [r]))))
            refine wpQuiet_nil ?_
            intro wq hq
            have HQ := Lib.hid hq
            clear hq
          · go_wp2_with fail
            go_ret
            exact ⟨ret_bool (by rw [HM.out, HO.out (by rw [HSP.out, r]; simp)]; simp), HQ.out.below⟩
          · go_wp2_with fail
            go_roundw
            case rel => exact ⟨k + 1, by omega, by go_num, HN.out (by rw [HSP.out, r, ← HKT.out, p1]; rfl), HQ.out⟩
            case measure => simp [intOf]; omega
      · obtain rfl : k = L.length := by omega
        go_wp2
        go_ret
        exact ⟨ret_bool (by rw [HM.out, HLEN.out, ← HLEN.out, hs.out]; simp), hw.out.below⟩
  · have HLEN := Lib.hid hlen
    have hne : ((L.length : Int) != M.length) = true := by simp; omega
    clear hlen
    go_enter Tryz.func37, Tryz.ntmps37
    go_wp2
    go_ret
    exact ⟨ret_bool (by rw [HM.out, decide_eq_false HLEN.out]; rfl), Below.refl _ _⟩
end Go.Proofs.YtlgmjkbaihpmmaaGreat.Kv
