import Derived.Test.YtbheofibdogabaaGreatMergeSb12
import Derived.Test.YtbheofibdogabaaGreatMergeSb22
import Derived.Test.YtbheofibdogabaaGreatMergeSb13
/- The keeper's Machine. -/
namespace Go.Proofs.YtbheofibdogabaaGreat.Ss
open Go Go.RowKit Vl Kv Mem Nm
attribute [local go_sem] run_bits run_frombits run_store_float
attribute [local irreducible] wpQuiet

def sameS (s t : Se) : Bool := (s.client == t.client) && (s.seq == t.seq) && sameR s.code t.code s.val t.val
def sameSs (S T : List Se) : Bool := decide (S.length = T.length) && (List.range S.length).all (fun i => sameS (S.getD i Se.zero) (T.getD i Se.zero))
def sameM (m n : Ma) : Bool := samePs m.pairs n.pairs && sameSs m.sess n.sess
theorem sameR_refl (c : Int) (v : V) : sameR c c v v = true := by unfold sameR; rw [V.same_refl]; simp
theorem sameS_refl (s : Se) : sameS s s = true := by unfold sameS; rw [sameR_refl]; simp
theorem sameM_refl (m : Ma) : sameM m m = true := by
  unfold sameM sameSs
  rw [samePs_refl]
  simp [sameS_refl]
theorem getD_ext {α : Type} {z : α} {L M : List α} (hl : L.length = M.length) (h : ∀ i, i < L.length → L.getD i z = M.getD i z) : L = M := by
  refine List.ext_getElem hl fun i h1 h2 => ?_
  have := h i h1
  simpa [h1, h2] using this
theorem samePs_eq {L M : List Pr} (hL : ∀ p ∈ L, p.right = true) (hM : ∀ p ∈ M, p.right = true) (h : samePs L M = true) : L = M := by
  unfold samePs at h
  rw [Bool.and_eq_true, decide_eq_true_eq, List.all_eq_true] at h
  refine getD_ext (z := Pr.zero) h.1 fun i hi => ?_
  have := h.2 i (List.mem_range.2 hi)
  unfold samePr at this
  rw [Bool.and_eq_true, decide_eq_true_eq] at this
  have h1 := (Pr.right_iff.1 (hL _ (getD_mem hi))).2.2.2
  have h2 := (Pr.right_iff.1 (hM _ (getD_mem (L := M) (h.1 ▸ hi)))).2.2.2
  have h3 := (same_right h1 h2).1 this.2
  have h4 := this.1
  generalize L.getD i Pr.zero = p at *
  generalize M.getD i Pr.zero = q at *
  cases p; cases q; simp_all
theorem sameSs_eq {L M : List Se} (hL : ∀ p ∈ L, p.right = true) (hM : ∀ p ∈ M, p.right = true) (h : sameSs L M = true) : L = M := by
  unfold sameSs at h
  rw [Bool.and_eq_true, decide_eq_true_eq, List.all_eq_true] at h
  refine getD_ext (z := Se.zero) h.1 fun i hi => ?_
  have := h.2 i (List.mem_range.2 hi)
  unfold sameS sameR at this
  simp only [Bool.and_eq_true, beq_iff_eq] at this
  have h1 := (Se.right_iff.1 (hL _ (getD_memS hi))).2.2.2
  have h2 := (Se.right_iff.1 (hM _ (getD_memS (L := M) (h.1 ▸ hi)))).2.2.2
  have h3 := (same_right h1 h2).1 this.2.2
  generalize L.getD i Se.zero = p at *
  generalize M.getD i Se.zero = q at *
  cases p; cases q; simp_all
theorem sameM_iff {m n : Ma} (hm : RightM m) (hn : RightM n) : sameM m n = true ↔ m = n := by
  constructor
  · intro h
    unfold sameM at h
    rw [Bool.and_eq_true] at h
    have h1 := samePs_eq hm.pr hn.pr h.1
    have h2 := sameSs_eq hm.se hn.se h.2
    cases m; cases n; simp_all
  · rintro rfl; exact sameM_refl _
set_option maxHeartbeats 6400000 in
set_option maxRecDepth 100000 in
theorem keepM_any (s : Ms) (m : Ma) (t : Ms) (n : Ma) (w : World) (h : MaAt w s m) (h2 : MaAt w t n) (hl : m.pairs.length ≤ 100000) :
    Calls Tryz.prog 15 #[s.agg m, t.agg n] w fun e w' => e = .returned (.bool (sameM m n)) ∧ Beh w w' := by
  have HI := Lib.hid h
  have HJ := Lib.hid h2
  have HA := Lib.hid (old_alloc (t.obj n) (alloc_here (w := w) (s.obj m) rfl))
  have HB : Hid (((w.alloc (s.obj m)).alloc (t.obj n)).heap[w.heap.size + 1]? = some (t.obj n)) := alloc_here _ (by simp)
  have HB0 := Lib.hid (((Beh.start w).alloc (s.obj m)).alloc (t.obj n))
  obtain ⟨r, hr⟩ : ∃ r, sameM m n = r := ⟨_, rfl⟩
  rw [hr]
  have HR := Lib.hid hr
  clear hr h h2
  have HKP : Hid (∀ wq, Beh w wq → Calls Tryz.prog 37 #[.slice s.a m.pairs.length s.cap, .slice t.a n.pairs.length t.cap] wq fun e w' => e = .returned (.bool (samePs m.pairs n.pairs)) ∧ Below wq.heap.size wq w') := fun wq hq => keepPairs_any s.a s.cap m.pairs t.a t.cap n.pairs wq (HI.out.pairs.below hq) (HJ.out.pairs.below hq) hl
  have HNO : Hid (samePs m.pairs n.pairs = false → r = false) := fun h => by rw [← HR.out]; unfold sameM; rw [h]; rfl
  have HYES : Hid (samePs m.pairs n.pairs = true → r = sameSs m.sess n.sess) := fun h => by rw [← HR.out]; unfold sameM; rw [h]; rfl
  obtain ⟨L, S⟩ := m
  obtain ⟨a, cap, a2, cap2⟩ := s
  obtain ⟨M, T⟩ := n
  obtain ⟨b, bap, b2, bap2⟩ := t
  have HSS := Lib.hid HI.out.sess
  have HTT := Lib.hid HJ.out.sess
  unfold Ms.obj at HA HB HB0
  dsimp only at HA HB HB0 HKP HNO HYES HSS HTT
  clear HR HI HJ
  have hmx : S.length ≤ 9223372036854775807 := Nat.le_trans HSS.out.len HSS.out.max
  cases hp : samePs L M
  · rw [hp] at HKP
    have HRF := Lib.hid (HNO.out hp)
    clear hp HNO HYES
    go_enter Tryz.func15, Tryz.ntmps15
    go_wp2_with fail
    refine Calls.mono (HKP.out _ HB0.out) ?_
    rintro e w1 ⟨rfl, hb⟩
    have HB1 := Lib.hid (HB0.out.on hb)
    clear hb
    go_wp2_with fail
    go_ret
    exact ⟨ret_bool HRF.out.symm, HB1.out⟩
  · rw [hp] at HKP
    have HRS := Lib.hid (HYES.out hp)
    clear hp HNO HYES
    go_enter Tryz.func15, Tryz.ntmps15
    go_wp2_with fail
    refine Calls.mono (HKP.out _ HB0.out) ?_
    rintro e w1 ⟨rfl, hb⟩
    have HB1 := Lib.hid (HB0.out.on hb)
    have HA1 := Lib.hid (box_on HA.out hb)
    have HC1 := Lib.hid (box_on HB.out hb)
    clear hb HKP HA HB HB0
    obtain ⟨m0, m1⟩ := cells2 HA1.out
    obtain ⟨n0, n1⟩ := cells2 HC1.out
    by_cases hlen : S.length = T.length
    · have e1 : (((S.length : Nat) : Int) != ((T.length : Nat) : Int)) = false := by rw [hlen]; simp
      have HLN := Lib.hid hlen
      clear hlen
      go_wp2_with fail
      clear m0 m1 n0 n1
      go_loopw [5] (fun i wr => ∃ k : Nat, k ≤ S.length ∧ i = .int .i64 k ∧ Hid ((List.range k).all (fun i => sameS (S.getD i Se.zero) (T.getD i Se.zero)) = true) ∧ Hid (Beh w1 wr)) (fun i _ => S.length - (intOf i).toNat)
      case atStart => exact ⟨0, by omega, rfl, rfl, Beh.start _⟩
      case round =>
        obtain ⟨k, hk, rfl, hs, HW⟩ := hrel
        obtain ⟨m0, m1⟩ := cells2 (HW.out.box HA1.out)
        by_cases hlt : k < S.length
        · have hltT : k < T.length := by rw [← HLN.out]; exact hlt
          have HPS : Hid (∀ wq, Beh w1 wq → ∃ c off, a2 = some ⟨c, off, none⟩ ∧ (S.getD k Se.zero).at_ wq c (off + k * 6)) := fun wq hq => by
            obtain ⟨c, off, ha, hc⟩ := (HSS.out.below (HB1.out.trans hq)).at_ (by omega)
            exact ⟨c, off, ha, hc k hlt⟩
          have HPT : Hid (∀ wq, Beh w1 wq → ∃ c off, b2 = some ⟨c, off, none⟩ ∧ (T.getD k Se.zero).at_ wq c (off + k * 6)) := fun wq hq => by
            obtain ⟨c, off, ha, hc⟩ := (HTT.out.below (HB1.out.trans hq)).at_ (by omega)
            exact ⟨c, off, ha, hc k hltT⟩
          obtain ⟨cS, oS, rfl, _⟩ := HPS.out _ HW.out
          obtain ⟨cT, oT, rfl, _⟩ := HPT.out _ HW.out
          have HPS : Hid (∀ wq, Beh w1 wq → (S.getD k Se.zero).at_ wq cS (oS + k * 6)) := fun wq hq => by
            obtain ⟨_, _, he, hc⟩ := HPS.out _ hq; cases he; exact hc
          have HPT : Hid (∀ wq, Beh w1 wq → (T.getD k Se.zero).at_ wq cT (oT + k * 6)) := fun wq hq => by
            obtain ⟨_, _, he, hc⟩ := HPT.out _ hq; cases he; exact hc
          have HN : Hid (sameS (S.getD k Se.zero) (T.getD k Se.zero) = true → (List.range (k + 1)).all (fun i => sameS (S.getD i Se.zero) (T.getD i Se.zero)) = true) := fun h => all_next hs.out h
          have HO : Hid (sameS (S.getD k Se.zero) (T.getD k Se.zero) = false → r = false) := fun h => by
            rw [HRS.out]; unfold sameSs; rw [all_not (p := fun i => sameS (S.getD i Se.zero) (T.getD i Se.zero)) hlt h]; simp
          have HSV := Lib.hid (show sameS (S.getD k Se.zero) (T.getD k Se.zero) = (((S.getD k Se.zero).client == (T.getD k Se.zero).client) && ((S.getD k Se.zero).seq == (T.getD k Se.zero).seq) && sameR (S.getD k Se.zero).code (T.getD k Se.zero).code (S.getD k Se.zero).val (T.getD k Se.zero).val) from rfl)
          generalize sameS (S.getD k Se.zero) (T.getD k Se.zero) = sv at *
          generalize S.getD k Se.zero = p at *
          generalize T.getD k Se.zero = q at *
          obtain ⟨pc, ps, pd, ⟨uk, un, us⟩⟩ := p
          obtain ⟨qc, qs, qd, ⟨vk, vn, vs⟩⟩ := q
          dsimp only at HSV
          have HKR := fun w => Lib.hid (keepReply_any pd qd ⟨uk, un, us⟩ ⟨vk, vn, vs⟩ w)
          obtain ⟨rv, hrv⟩ : ∃ rv, sameR pd qd ⟨uk, un, us⟩ ⟨vk, vn, vs⟩ = rv := ⟨_, rfl⟩
          rw [hrv] at HSV HKR
          clear hrv
          cases x1 : (pc == qc)
          · have y1 : (pc != qc) = true := by rw [bne, x1]; rfl
            rw [x1] at HSV
            go_wp2_with fail
            refine wp_region_quiet (C := Beh wr) (by kernel_rfl) (by kernel_rfl) (Beh.start _).drew ?_
            repeat (first
              | (refine BigFrame.wpQuiet_skip (by exact Eq.refl false) ?_
                 ((try simp only [Act.put]); (try simp only [List.setIfInBounds_toArray]); (try simp only [List.set_cons_zero, List.set_cons_succ])))
              | (refine BigFrame.wpQuiet_want (by exact Eq.refl true) (fun K hK => ?_)
                 first
                 | (refine quiet_move2 _ rfl (by go_simp; rfl) ?_; refine hK _ ?_)
                 | (apply Exists.intro
                    refine ⟨fun wq hq => ?_, hK _ ?_⟩
                    · ((obtain ⟨m0, m1⟩ := cells2 ((HW.out.trans hq).box HA1.out)); (obtain ⟨n0, n1⟩ := cells2 ((HW.out.trans hq).box HC1.out)); (obtain ⟨c0, c1, c2, c3, c4, c5⟩ := HPS.out _ (HW.out.trans hq)); (obtain ⟨d0, d1, d2, d3, d4, d5⟩ := HPT.out _ (HW.out.trans hq))
                       have HQ := Lib.hid hq
                       clear hq
                       unfold Oper.quietAt
                       go_simp
                       first
                       | rfl
                       | fail))
                 clear hK K
                 ((try simp only [Act.put]); (try simp only [List.setIfInBounds_toArray]); (try simp only [List.set_cons_zero, List.set_cons_succ]); (try simp only [y1]))))
            refine wpQuiet_nil ?_
            intro wq hq
            have HQ := Lib.hid (HW.out.trans hq)
            clear hq
            go_wp2_with fail
            go_ret
            exact ⟨ret_bool (HO.out (by rw [HSV.out]; rfl)).symm, HB1.out.trans HQ.out⟩
          have y1 : (pc != qc) = false := by rw [bne, x1]; rfl
          rw [x1] at HSV
          cases x2 : (ps == qs)
          · have y2 : (ps != qs) = true := by rw [bne, x2]; rfl
            rw [x2] at HSV
            go_wp2_with fail
            refine wp_region_quiet (C := Beh wr) (by kernel_rfl) (by kernel_rfl) (Beh.start _).drew ?_
            repeat (first
              | (refine BigFrame.wpQuiet_skip (by exact Eq.refl false) ?_
                 ((try simp only [Act.put]); (try simp only [List.setIfInBounds_toArray]); (try simp only [List.set_cons_zero, List.set_cons_succ])))
              | (refine BigFrame.wpQuiet_want (by exact Eq.refl true) (fun K hK => ?_)
                 first
                 | (refine quiet_move2 _ rfl (by go_simp; rfl) ?_; refine hK _ ?_)
                 | (apply Exists.intro
                    refine ⟨fun wq hq => ?_, hK _ ?_⟩
                    · ((obtain ⟨m0, m1⟩ := cells2 ((HW.out.trans hq).box HA1.out)); (obtain ⟨n0, n1⟩ := cells2 ((HW.out.trans hq).box HC1.out)); (obtain ⟨c0, c1, c2, c3, c4, c5⟩ := HPS.out _ (HW.out.trans hq)); (obtain ⟨d0, d1, d2, d3, d4, d5⟩ := HPT.out _ (HW.out.trans hq))
                       have HQ := Lib.hid hq
                       clear hq
                       unfold Oper.quietAt
                       go_simp
                       first
                       | rfl
                       | fail))
                 clear hK K
                 ((try simp only [Act.put]); (try simp only [List.setIfInBounds_toArray]); (try simp only [List.set_cons_zero, List.set_cons_succ]); (try simp only [y1]); (try simp only [y2]))))
            refine wpQuiet_nil ?_
            intro wq hq
            have HQ := Lib.hid (HW.out.trans hq)
            clear hq
            go_wp2_with fail
            go_ret
            exact ⟨ret_bool (HO.out (by rw [HSV.out]; rfl)).symm, HB1.out.trans HQ.out⟩
          have y2 : (ps != qs) = false := by rw [bne, x2]; rfl
          rw [x2] at HSV
          cases rv
          all_goals
            go_wp2_with fail
            refine wp_region_quiet (C := Beh wr) (by kernel_rfl) (by kernel_rfl) (Beh.start _).drew ?_
            repeat (first
              | (refine BigFrame.wpQuiet_skip (by exact Eq.refl false) ?_
                 ((try simp only [Act.put]); (try simp only [List.setIfInBounds_toArray]); (try simp only [List.set_cons_zero, List.set_cons_succ])))
              | (refine BigFrame.wpQuiet_want (by exact Eq.refl true) (fun K hK => ?_)
                 first
                 | (refine quiet_move2 _ rfl (by go_simp; rfl) ?_; refine hK _ ?_)
                 | (apply Exists.intro
                    refine ⟨fun wq hq => ?_, hK _ ?_⟩
                    · ((obtain ⟨m0, m1⟩ := cells2 ((HW.out.trans hq).box HA1.out)); (obtain ⟨n0, n1⟩ := cells2 ((HW.out.trans hq).box HC1.out)); (obtain ⟨c0, c1, c2, c3, c4, c5⟩ := HPS.out _ (HW.out.trans hq)); (obtain ⟨d0, d1, d2, d3, d4, d5⟩ := HPT.out _ (HW.out.trans hq))
                       have HQ := Lib.hid hq
                       clear hq
                       unfold Oper.quietAt
                       go_simp
                       first
                       | rfl
                       | (go_at_call 38; exact ((HKR _).out).mono (fun e w' ⟨he, hb⟩ => ⟨he, HQ.out.on hb⟩))))
                 clear hK K
                 ((try simp only [Act.put]); (try simp only [List.setIfInBounds_toArray]); (try simp only [List.set_cons_zero, List.set_cons_succ]); (try simp only [y1]); (try simp only [y2]))))
            refine wpQuiet_nil ?_
            intro wq hq
            have HQ := Lib.hid (HW.out.trans hq)
            clear hq
          · go_wp2_with fail
            go_ret
            exact ⟨ret_bool (HO.out (by rw [HSV.out]; rfl)).symm, HB1.out.trans HQ.out⟩
          · go_wp2_with fail
            go_roundw
            case rel => exact ⟨k + 1, by omega, by go_num, HN.out (by rw [HSV.out]; rfl), HQ.out⟩
            case measure => simp [intOf]; omega
        · obtain rfl : k = S.length := by omega
          go_wp2
          go_ret
          exact ⟨ret_bool (by rw [HRS.out]; unfold sameSs; rw [decide_eq_true HLN.out, hs.out]; rfl), HB1.out.trans HW.out⟩
    · have e1 : (((S.length : Nat) : Int) != ((T.length : Nat) : Int)) = true := by
        rw [bne_iff_ne]; omega
      have HRF : Hid (r = false) := by show r = false; rw [HRS.out]; unfold sameSs; rw [decide_eq_false hlen]; rfl
      clear hlen
      go_wp2_with fail
      go_ret
      exact ⟨ret_bool HRF.out.symm, HB1.out⟩
end Go.Proofs.YtbheofibdogabaaGreat.Ss
