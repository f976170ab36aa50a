import Derived.Test.YtbheofibdogabaaGreatMergeSb44
import Derived.Deep.RegionHeld3
/- The reference's Encode, at a right machine. -/
namespace Go.Proofs.YtbheofibdogabaaGreat.Ss
open Go Go.RowKit Vl Kv Mem Nm
attribute [local go_sem] run_bits run_frombits run_store_float

theorem Mine.more {w wr w' : World} {v : Value} {l : List Nat} (h : Pk.Mine w wr v l) (hb : Beh wr w') : Pk.Mine w w' v l := by
  obtain ⟨b, a, cap, e, ho, h1, h2, hk⟩ := h
  exact ⟨b, a, cap, e, ho.kept (kept_beh hb) (fun _ h => h), h1, Nat.le_trans h2 hb.size, hk.trans (kept_beh hb)⟩
theorem cells3i {w : World} {k : Nat} {u v x : Value} {t : TypeId} (h : w.heap[k]? = some (.cells #[u, v, x] t)) : w.cell? ⟨k, 0, none⟩ = some u ∧ w.cell? ⟨k, 1, none⟩ = some v ∧ w.cell? ⟨k, 2, none⟩ = some x := by
  obtain ⟨c0, c1, c2, _⟩ := cells3 h
  exact ⟨c0, c1, c2⟩
theorem newB_mine {w w1 w' : World} {a : Option Addr} {cap n : Nat} {l : List Nat} (h : Pk.Mine w1 w' (.slice a n cap) l) (hw : Kept Mem.None w w1) : Pk.NewB l w (.returned (.slice a n cap)) w' := by
  obtain ⟨b3, a3, cap3, e3, ho3, hb3, hb4, hk3⟩ := h
  have := hw.size
  exact ⟨b3, a3, cap3, congrArg Ending.returned e3, ho3, by omega, hw.trans hk3, hb4⟩
set_option maxHeartbeats 12800000 in
set_option maxRecDepth 100000 in
theorem refEncode_any (s : Ms) (m : Ma) (w : World) (h : MaAt w s m) (hr : RightM m) : Calls Tryz.prog 10 #[s.agg m] w (Pk.NewB (encM m) w) := by
  obtain ⟨i0, hi0, hz0, hz1, hz2⟩ := info_parts Pk.infoU8
  have HE := Lib.hid (show encM m = Pk.intB m.pairs.length ++ (m.pairs.flatMap prB ++ (Pk.intB m.sess.length ++ m.sess.flatMap seB)) from rfl)
  have hnp := hr.np
  have hns := hr.ns
  have HPR := Lib.hid hr.pr
  have HSE := Lib.hid hr.se
  clear hr
  have hi1 := (Pk.intB_len (m.pairs.length : Int)).2
  have hi2 := (Pk.intB_len (m.sess.length : Int)).2
  obtain ⟨L, S⟩ := m
  obtain ⟨a, cap, a2, cap2⟩ := s
  have HPS := Lib.hid h.pairs
  have HSS := Lib.hid h.sess
  clear h
  dsimp only at HPS HSS HE hnp hns HPR HSE hi1 hi2
  generalize encM ⟨L, S⟩ = E at *
  have HL1 : Hid (∀ k, (Pk.intB (L.length : Int) ++ (L.take k).flatMap prB).length ≤ 3000) := fun k => by
    rw [List.length_append]
    have h2 := takeB_len (f := prB) (n := 70) (L := L) (fun p hp => prB_len (HPR.out p hp)) k
    omega
  have HL2 : Hid (∀ k, (Pk.intB (L.length : Int) ++ L.flatMap prB ++ Pk.intB (S.length : Int) ++ (S.take k).flatMap seB).length ≤ 4000) := fun k => by
    simp only [List.length_append]
    have h2 := flat_len (f := prB) (n := 70) (L := L) (fun p hp => prB_len (HPR.out p hp))
    have h3 := takeB_len (f := seB) (n := 82) (L := S) (fun p hp => seB_len (HSE.out p hp)) k
    omega
  have kc := fun (w : World) (s : ByteArray) => run_bl w s
  obtain ⟨w0, hw0⟩ : ∃ w0, w0 = w.alloc (.cells #[.slice a L.length cap, .slice a2 S.length cap2] 25) := ⟨_, rfl⟩
  have HM0 : Hid (w0.heap[w.heap.size]? = some (.cells #[.slice a L.length cap, .slice a2 S.length cap2] 25)) := by rw [hw0]; exact alloc_here _ rfl
  have HB0 : Hid (Beh w w0) := by rw [hw0]; exact (Beh.start w).alloc _
  go_enter Tryz.func10, Tryz.ntmps10
  go_wp2_with fail
  rw [← hw0]
  refine (Pk.refInt_any (L.length : Int) _ (by omega) (by omega)).mono ?_
  rintro x w1 ⟨b, a0, cap0, rfl, ho, hb, hk, hb2⟩
  have HM1 : Hid (Pk.Mine w0 w1 (.slice a0 (Pk.intB (L.length : Int)).length cap0) (Pk.intB (L.length : Int) ++ (L.take 0).flatMap prB)) := by
    simp only [List.take_zero, List.flatMap_nil, List.append_nil]
    exact ⟨b, a0, cap0, rfl, ho, hb, hb2, hk⟩
  clear ho hk hb hb2
  go_wp2_with fail
  go_loopw [3, 4] (fun v i wr => ∃ k : Nat, k ≤ L.length ∧ i = .int .i64 k ∧ Hid (Pk.Mine w0 wr v (Pk.intB (L.length : Int) ++ (L.take k).flatMap prB))) (fun _ i _ => L.length - (intOf i).toNat)
  case atStart => exact ⟨0, by omega, rfl, HM1.out⟩
  case round =>
    clear HM1
    obtain ⟨k, hk, rfl, hw⟩ := hrel
    obtain ⟨b1, a1, cap1, rfl, ho, hb1, hb2, hkk⟩ := hw.out
    have HO := Lib.hid ho
    have HK := Lib.hid hkk
    have HB := Lib.hid (HB0.out.trans (beh_kept hkk))
    have HMB := Lib.hid (hkk.heap HM0.out (fun h => h))
    obtain ⟨m0, m1⟩ := cells2 HMB.out
    have hlen := HL1.out k
    clear ho hkk hw
    by_cases hlt : k < L.length
    · obtain ⟨b, off, rfl, hc⟩ := (HPS.out.below HB.out.below).at_ (by omega)
      have HPC : Hid (∀ W, Beh w W → (L.getD k Pr.zero).at_ W b (off + k * 4)) := fun W hq => by
        obtain ⟨_, _, he, hc⟩ := (HPS.out.below hq.below).at_ (by omega)
        cases he; exact hc k hlt
      clear hc
      have HT := Lib.hid (take_flat (f := prB) (z := Pr.zero) hlt)
      have HPk := Lib.hid (HPR.out _ (getD_mem hlt))
      generalize L.getD k Pr.zero = p at *
      have hk8 := Lib.hid (Pr.right_iff.1 HPk.out)
      have HB8 := Lib.hid (show prB p = Pk.textB (bl p.key) ++ valB p.val from rfl)
      have hvl := valB_len (short_text hk8.out.2.2.2)
      have htl := textB_len (bl p.key)
      have hbl := bl_length p.key
      have hks := hk8.out.2.1
      have HRV := fun W => Lib.hid (refValue_any p.val hk8.out.2.2.2 W)
      have HTX : ∀ W : World, Hid (Calls Tryz.prog 27 #[.slice (some ⟨W.heap.size, 0, none⟩) p.key.size (grownCap W p.key.size 0 5)] (Lib.bytesWorld W 5 p.key) (Pk.NewB (Pk.textB (bl p.key)) (Lib.bytesWorld W 5 p.key))) := fun W => by
        have := Pk.refText_any W.heap.size (some ⟨W.heap.size, 0, none⟩) (grownCap W p.key.size 0 5) (bl p.key) (Lib.bytesWorld W 5 p.key) (bytesW_src W p.key (by omega)).src (by omega)
        rwa [hbl] at this
      obtain ⟨key, ⟨vk, vn, vs⟩⟩ := p
      dsimp only at hk8 HB8 hvl htl hbl hks HRV HTX
      unfold V.val at HRV
      dsimp only at HRV
      generalize hpre : Pk.intB (L.length : Int) ++ (L.take k).flatMap prB = pre at *
      have HPRE := Lib.hid hpre
      clear hpre HPk hk8
      generalize valB ⟨vk, vn, vs⟩ = VB at *
      generalize Pk.textB (bl key) = TB at *
      have hlA : (pre ++ TB).length ≤ 8000 := by rw [List.length_append]; omega
      go_wp2_with fail
      refine wp_region_held_drew (S := fun W => Beh w0 W) (by kernel_rfl) ((beh_kept HK.out).drew) (fun hS => ?_)
      have HBR := Lib.hid (Beh.start wr).drew
      generalize World.drew wr = wd at HBR hS ⊢
      (try simp only [Act.put, List.getElem_toArray, List.getElem_cons_succ, List.getElem_cons_zero, List.setIfInBounds_toArray, List.set_cons_zero, List.set_cons_succ])
      refine wpAnyH_take (i := 0) (v := ?_) rfl (by kernel_rfl) (by kernel_rfl) (by kernel_rfl) (fun _ _ _ h => h) (Or.inl ⟨by rfl, ?_⟩) hS ?_
      rotate_left
      · intro W hW; go_simp; try with_reducible rfl
      (try simp only [Act.put, List.getElem_toArray, List.getElem_cons_zero, List.setIfInBounds_toArray, List.set_cons_zero, List.set_cons_succ])
      refine wpAnyH_take (i := 1) (v := ?_) rfl (by kernel_rfl) (by kernel_rfl) (by kernel_rfl) (fun _ _ _ h => h) (Or.inl ⟨by rfl, ?_⟩) hS ?_
      rotate_left
      · intro W hW; go_simp; try with_reducible rfl
      (try simp only [Act.put, List.getElem_toArray, List.getElem_cons_succ, List.getElem_cons_zero, List.setIfInBounds_toArray, List.set_cons_zero, List.set_cons_succ])
      refine wpAnyH_take (i := 2) (v := ?_) rfl (by kernel_rfl) (by kernel_rfl) (by kernel_rfl) (fun _ _ _ h => h) (Or.inl ⟨by rfl, ?_⟩) hS ?_
      rotate_left
      · intro W hW; (obtain ⟨n0, n1⟩ := cells2 (Beh.box hW HM0.out)); (obtain ⟨d0, d1, d2, d3⟩ := HPC.out _ (HB0.out.trans hW)); go_simp; try with_reducible rfl
      (try simp only [Act.put, List.getElem_toArray, List.getElem_cons_succ, List.getElem_cons_zero, List.setIfInBounds_toArray, List.set_cons_zero, List.set_cons_succ])
      refine wpAnyH_take (i := 3) (v := ?_) rfl (by kernel_rfl) (by kernel_rfl) (by kernel_rfl) (fun _ _ _ h => h) (Or.inl ⟨by rfl, ?_⟩) hS ?_
      rotate_left
      · intro W hW; go_simp; try with_reducible rfl
      (try simp only [Act.put, List.getElem_toArray, List.getElem_cons_succ, List.getElem_cons_zero, List.setIfInBounds_toArray, List.set_cons_zero, List.set_cons_succ])
      refine wpAnyH_take (i := 4) (v := ?_) rfl (by kernel_rfl) (by kernel_rfl) (by kernel_rfl) (fun _ _ _ h => h) (Or.inl ⟨by rfl, ?_⟩) hS ?_
      rotate_left
      · intro W hW; go_simp; try with_reducible rfl
      (try simp only [Act.put, List.getElem_toArray, List.getElem_cons_succ, List.getElem_cons_zero, List.setIfInBounds_toArray, List.set_cons_zero, List.set_cons_succ])
      refine wpAnyH_take (i := 5) (v := ?_) rfl (by kernel_rfl) (by kernel_rfl) (by kernel_rfl) (fun _ _ _ h => h) (Or.inl ⟨by rfl, ?_⟩) hS ?_
      rotate_left
      · intro W hW; go_simp; try with_reducible rfl
      (try simp only [Act.put, List.getElem_toArray, List.getElem_cons_succ, List.getElem_cons_zero, List.setIfInBounds_toArray, List.set_cons_zero, List.set_cons_succ])
      refine wpAnyH_take (i := 6) (v := ?_) rfl (by kernel_rfl) (by kernel_rfl) (by kernel_rfl) (fun _ _ _ h => h) (Or.inl ⟨by rfl, ?_⟩) hS ?_
      rotate_left
      · intro W hW; (obtain ⟨n0, n1⟩ := cells2 (Beh.box hW HM0.out)); (obtain ⟨d0, d1, d2, d3⟩ := HPC.out _ (HB0.out.trans hW)); go_simp; try with_reducible rfl
      (try simp only [Act.put, List.getElem_toArray, List.getElem_cons_succ, List.getElem_cons_zero, List.setIfInBounds_toArray, List.set_cons_zero, List.set_cons_succ])
      refine wpAnyH_take (i := 10) (v := ?_) rfl (by kernel_rfl) (by kernel_rfl) (by kernel_rfl) (fun _ _ _ h => h) (Or.inl ⟨by rfl, ?_⟩) hS ?_
      rotate_left
      · intro W hW; go_simp; try with_reducible rfl
      (try simp only [Act.put, List.getElem_toArray, List.getElem_cons_succ, List.getElem_cons_zero, List.setIfInBounds_toArray, List.set_cons_zero, List.set_cons_succ])
      refine wpAnyH_take (i := 11) (v := ?_) rfl (by kernel_rfl) (by kernel_rfl) (by kernel_rfl) (fun _ _ _ h => h) (Or.inl ⟨by rfl, ?_⟩) hS ?_
      rotate_left
      · intro W hW; (obtain ⟨n0, n1⟩ := cells2 (Beh.box hW HM0.out)); (obtain ⟨d0, d1, d2, d3⟩ := HPC.out _ (HB0.out.trans hW)); go_simp; try with_reducible rfl
      (try simp only [Act.put, List.getElem_toArray, List.getElem_cons_succ, List.getElem_cons_zero, List.setIfInBounds_toArray, List.set_cons_zero, List.set_cons_succ])
      refine wpAnyH_take (i := 12) (v := ?_) rfl (by kernel_rfl) (by kernel_rfl) (by kernel_rfl) (fun _ _ _ h => h) (Or.inl ⟨by rfl, ?_⟩) hS ?_
      rotate_left
      · intro W hW; go_simp; try with_reducible rfl
      (try simp only [Act.put, List.getElem_toArray, List.getElem_cons_succ, List.getElem_cons_zero, List.setIfInBounds_toArray, List.set_cons_zero, List.set_cons_succ])
      refine wpAnyH_take (i := 13) (v := ?_) rfl (by kernel_rfl) (by kernel_rfl) (by kernel_rfl) (fun _ _ _ h => h) (Or.inl ⟨by rfl, ?_⟩) hS ?_
      rotate_left
      · intro W hW; go_simp; try with_reducible rfl
      (try simp only [Act.put, List.getElem_toArray, List.getElem_cons_succ, List.getElem_cons_zero, List.setIfInBounds_toArray, List.set_cons_zero, List.set_cons_succ])
      refine wpAnyH_take (i := 14) (v := ?_) rfl (by kernel_rfl) (by kernel_rfl) (by kernel_rfl) (fun _ _ _ h => h) (Or.inl ⟨by rfl, ?_⟩) hS ?_
      rotate_left
      · intro W hW; go_simp; try with_reducible rfl
      (try simp only [Act.put, List.getElem_toArray, List.getElem_cons_succ, List.getElem_cons_zero, List.setIfInBounds_toArray, List.set_cons_zero, List.set_cons_succ])
      refine wpAnyH_take (i := 15) (v := ?_) rfl (by kernel_rfl) (by kernel_rfl) (by kernel_rfl) (fun _ _ _ h => h) (Or.inl ⟨by rfl, ?_⟩) hS ?_
      rotate_left
      · intro W hW; (obtain ⟨n0, n1⟩ := cells2 (Beh.box hW HM0.out)); (obtain ⟨d0, d1, d2, d3⟩ := HPC.out _ (HB0.out.trans hW)); go_simp; try with_reducible rfl
      (try simp only [Act.put, List.getElem_toArray, List.getElem_cons_succ, List.getElem_cons_zero, List.setIfInBounds_toArray, List.set_cons_zero, List.set_cons_succ])
      refine wpAnyH_ready (rs := [7]) (by kernel_rfl) (by simp) ?_
      refine AllReadyH.cons rfl (fun K hK => ?_) (AllReadyH.nil)
      all_goals (try simp only [List.getElem_toArray, List.getElem_cons_succ, List.getElem_cons_zero])
      go_simp
      refine hK.out _ _ (hS.trans (bytesW_beh wd key)) (fun hS => ?_)
      clear hK K
      (try simp only [Act.put, List.getElem_toArray, List.getElem_cons_succ, List.getElem_cons_zero, List.setIfInBounds_toArray, List.set_cons_zero, List.set_cons_succ])
      have HBR := Lib.hid (HBR.out.trans (bytesW_beh wd key))
      refine wpAnyH_ready (rs := [8]) (by kernel_rfl) (by simp) ?_
      refine AllReadyH.cons rfl (fun K hK => ?_) (AllReadyH.nil)
      all_goals (try simp only [List.getElem_toArray, List.getElem_cons_succ, List.getElem_cons_zero])
      go_simp
      go_at_call 27
      refine Calls.mono (HTX wd).out ?_
      rintro x w2 ⟨b2, a3, cap3, rfl, ho2, _, hk2, _⟩
      have HO2 := Lib.hid ho2
      have HBR := Lib.hid (HBR.out.trans (beh_kept hk2))
      refine hK.out _ _ (hS.trans (beh_kept hk2)) (fun hS => ?_)
      clear hK K
      (try simp only [Act.put, List.getElem_toArray, List.getElem_cons_succ, List.getElem_cons_zero, List.setIfInBounds_toArray, List.set_cons_zero, List.set_cons_succ])
      clear hk2 ho2
      refine wpAnyH_ready (rs := [9]) (by kernel_rfl) (by simp) ?_
      refine AllReadyH.cons rfl (fun K hK => ?_) (AllReadyH.nil)
      all_goals (try simp only [List.getElem_toArray, List.getElem_cons_succ, List.getElem_cons_zero])
      rw [if_pos (by rfl)]
      refine wp_append_bytes _ _ 26 rfl 5 i0 Tryz.underlying26 hi0 hz0 hz1 hz2 b1 a1 cap1 pre pre.length rfl (HO.out.kept (kept_beh HBR.out) (fun _ h => h)) (rfl) b2 a3 cap3 TB TB.length rfl HO2.out.src rfl (by omega) ?_
      intro b4 a4 cap4 w4 h2 h3 h4 h5
      have hm := Pk.mine_append' (n := (pre ++ TB).length) (l2 := pre ++ TB) rfl rfl hb1 (HK.out.trans (kept_beh HBR.out)) (Kept.refl _ _) h2 h3 h4
      have hk5 : Kept Mem.None w0 w4 := by obtain ⟨_, _, _, _, _, _, _, hk5⟩ := hm; exact hk5
      have hb4 : w0.heap.size ≤ b4 := by have := hS.size; rcases h4 with ⟨h4, _⟩ | h4 <;> omega
      have HO5 := Lib.hid h2
      have HK5 := Lib.hid hk5
      refine hK.out _ _ (beh_kept HK5.out) (fun hS => ?_)
      clear hK K
      (try simp only [Act.put, List.setIfInBounds_toArray, List.set_cons_zero, List.set_cons_succ])
      clear h2 h3 h4 h5 hm hk5 HO2 HBR
      refine wpAnyH_ready (rs := [16]) (by kernel_rfl) (by simp) ?_
      refine AllReadyH.cons rfl (fun K hK => ?_) (AllReadyH.nil)
      all_goals (try simp only [List.getElem_toArray, List.getElem_cons_succ, List.getElem_cons_zero])
      go_simp
      go_at_call 28
      refine Calls.mono ((HRV _).out) ?_
      rintro x w6 ⟨b6, a6, cap6, rfl, ho6, _, hk6, _⟩
      have HO6 := Lib.hid ho6
      have HK6 := Lib.hid hk6
      refine hK.out _ _ (hS.trans (beh_kept hk6)) (fun hS => ?_)
      clear hK K
      (try simp only [Act.put, List.getElem_toArray, List.getElem_cons_succ, List.getElem_cons_zero, List.setIfInBounds_toArray, List.set_cons_zero, List.set_cons_succ])
      clear ho6 hk6
      refine wpAnyH_ready (rs := [17]) (by kernel_rfl) (by simp) ?_
      refine AllReadyH.cons rfl (fun K hK => ?_) (AllReadyH.nil)
      all_goals (try simp only [List.getElem_toArray, List.getElem_cons_succ, List.getElem_cons_zero])
      rw [if_pos (by rfl)]
      refine wp_append_bytes _ _ 26 rfl 5 i0 Tryz.underlying26 hi0 hz0 hz1 hz2 b4 a4 cap4 (pre ++ TB) _ rfl (HO5.out.kept HK6.out (fun _ h => h)) (by simp) b6 a6 cap6 VB VB.length rfl HO6.out.src rfl (by omega) ?_
      intro b7 a7 cap7 w7 h2 h3 h4 h5
      have HM7 := Lib.hid (Pk.mine_append' (n := (pre ++ TB ++ VB).length) (l2 := Pk.intB (L.length : Int) ++ (L.take (k + 1)).flatMap prB) (by rw [HT.out, HB8.out, ← HPRE.out]; simp) rfl hb4 (HK5.out.trans HK6.out) (Kept.refl _ _) h2 h3 h4)
      have HK7 : Hid (Kept Mem.None w0 w7) := by obtain ⟨_, _, _, _, _, _, _, hk5⟩ := HM7.out; exact hk5
      refine hK.out _ _ (beh_kept HK7.out) (fun hS => ?_)
      clear hK K
      (try simp only [Act.put, List.setIfInBounds_toArray, List.set_cons_zero, List.set_cons_succ])
      clear h2 h3 h4 h5 HO5 HO6 HK5 HK6
      refine wpAnyH_take (i := 18) (v := ?_) rfl (by kernel_rfl) (by kernel_rfl) (by kernel_rfl) (fun _ _ _ h => h) (Or.inl ⟨by rfl, ?_⟩) hS ?_
      rotate_left
      · intro W hW; go_simp; try with_reducible rfl
      (try simp only [Act.put, List.getElem_toArray, List.getElem_cons_succ, List.getElem_cons_zero, List.setIfInBounds_toArray, List.set_cons_zero, List.set_cons_succ])
      refine wpAnyH_done (by kernel_rfl) ?_ _
      go_wp2_with fail
      go_roundw
      case rel => exact ⟨k + 1, by omega, by go_num, by have h9 := HM7.out; rw [List.length_append, List.length_append, Nat.add_assoc] at h9; exact h9⟩
      case measure => simp [intOf]; omega
    · obtain rfl : k = L.length := by omega
      have ho0 := HO.out
      rw [List.take_length] at ho0 hlen
      have HE2 := Lib.hid (show E = (Pk.intB (L.length : Int) ++ L.flatMap prB) ++ Pk.intB (S.length : Int) ++ S.flatMap seB by rw [HE.out]; simp)
      rw [List.take_length]
      generalize Pk.intB (L.length : Int) ++ L.flatMap prB = pre at *
      have HO := Lib.hid ho0
      clear ho0 HE HL1 HPR HPS
      go_wp2_with fail
      refine (Pk.refInt_any (S.length : Int) _ (by omega) (by omega)).mono ?_
      rintro x w2 ⟨b2, a3, cap3, rfl, ho2, _, hk2, _⟩
      have HO2 := Lib.hid ho2
      have HK2 := Lib.hid hk2
      clear ho2 hk2 m0 m1
      go_wp2_with (at_builtin; refine wpList_append_bytes rfl _ _ 26 rfl 5 i0 Tryz.underlying26 hi0 hz0 hz1 hz2 b1 a1 cap1 pre _ rfl (HO.out.kept HK2.out (fun _ h => h)) rfl b2 a3 cap3 (Pk.intB (S.length : Int)) _ rfl HO2.out.src rfl (by omega) ?_)
      intro b4 a4 cap4 w4 h2 h3 h4 h5
      have HM4 := Lib.hid (Pk.mine_append' (n := pre.length + (Pk.intB (S.length : Int)).length) (l2 := pre ++ Pk.intB (S.length : Int) ++ (S.take 0).flatMap seB) (by simp) (by simp) hb1 (HK.out.trans HK2.out) (Kept.refl _ _) h2 h3 (by simpa using h4))
      clear h2 h3 h4 h5 HO HO2 HK HK2 HB HMB hb1 hb2 hk hlt hlen
      generalize pre ++ Pk.intB (S.length : Int) = PRE at *
      go_wp2_with fail
      go_loopw [3, 5, 6] (fun v i _ wr => ∃ k : Nat, k ≤ S.length ∧ i = .int .i64 k ∧ Hid (Pk.Mine w0 wr v (PRE ++ (S.take k).flatMap seB))) (fun _ i _ _ => S.length - (intOf i).toNat)
      case atStart => exact ⟨0, by omega, rfl, HM4.out⟩
      case round =>
        clear HM4
        obtain ⟨k, hk, rfl, hw⟩ := hrel
        obtain ⟨b1, a1, cap1, rfl, ho, hb1, hb2, hkk⟩ := hw.out
        have HO := Lib.hid ho
        have HK := Lib.hid hkk
        have HB := Lib.hid (HB0.out.trans (beh_kept hkk))
        have HMB := Lib.hid (hkk.heap HM0.out (fun h => h))
        obtain ⟨m0, m1⟩ := cells2 HMB.out
        have hlen := HL2.out k
        clear ho hkk hw
        by_cases hlt : k < S.length
        · obtain ⟨b, off, rfl, hc⟩ := (HSS.out.below HB.out.below).at_ (by omega)
          obtain ⟨c0, c1, c2, c3, c4, c5⟩ := hc k hlt
          clear hc
          have HT := Lib.hid (take_flat (f := seB) (z := Se.zero) hlt)
          have HPk := Lib.hid (HSE.out _ (getD_memS hlt))
          generalize S.getD k Se.zero = p at *
          have hk8 := Lib.hid (Se.right_iff.1 HPk.out)
          have HB8 := Lib.hid (show seB p = Pk.intB p.client ++ (Pk.intB p.seq ++ (Pk.intB p.code ++ valB p.val)) from rfl)
          have hvl := valB_len (short_text hk8.out.2.2.2)
          have HRV := fun W => Lib.hid (refValue_any p.val hk8.out.2.2.2 W)
          obtain ⟨pc, ps, pd, ⟨vk, vn, vs⟩⟩ := p
          dsimp only at hk8 HB8 hvl HRV
          unfold V.val at HRV
          dsimp only at HRV
          generalize hpre : PRE ++ (S.take k).flatMap seB = pre' at *
          have HPRE := Lib.hid hpre
          clear hpre HPk
          generalize valB ⟨vk, vn, vs⟩ = VB at *
          have HSB : Hid ((wr.alloc (.cells #[.int .i64 pc, .int .i64 ps, .int .i64 pd, .int .i64 vk, .float .f64 vn, .string vs] 54)).heap[wr.heap.size]? = some (.cells #[.int .i64 pc, .int .i64 ps, .int .i64 pd, .int .i64 vk, .float .f64 vn, .string vs] 54)) := alloc_here _ rfl
          have hbd := hk8.out
          have HIN : Hid (∀ (W : World) (kb : Nat), W.heap[kb]? = some (.cells #[.int .i64 pc, .int .i64 ps, .int .i64 pd] 3) → Calls Tryz.prog 29 #[.slice (some ⟨kb, 0, none⟩) 3 3] W (Pk.NewB ([pc, ps, pd].flatMap Pk.intB) W)) := fun W kb hq => refInts_any kb 3 [pc, ps, pd] W (fun i hi => by
            obtain ⟨q0, q1, q2⟩ := cells3i hq
            match i, hi with
            | 0, _ => exact q0
            | 1, _ => exact q1
            | 2, _ => exact q2) (fun i hi => by
            match i, hi with
            | 0, _ => show _ ≤ pc ∧ pc ≤ _; omega
            | 1, _ => show _ ≤ ps ∧ ps ≤ _; omega
            | 2, _ => show _ ≤ pd ∧ pd ≤ _; omega) (by simp)
          clear hbd hk8
          have HIL := Lib.hid (show [pc, ps, pd].flatMap Pk.intB = Pk.intB pc ++ (Pk.intB ps ++ Pk.intB pd) by simp)
          have hil : ([pc, ps, pd].flatMap Pk.intB).length ≤ 30 := by
            have j1 := (Pk.intB_len pc).2
            have j2 := (Pk.intB_len ps).2
            have j3 := (Pk.intB_len pd).2
            rw [HIL.out]
            simp only [List.length_append]
            omega
          generalize [pc, ps, pd].flatMap Pk.intB = IL at *
          have hlA : (pre' ++ IL).length ≤ 8000 := by rw [List.length_append]; omega
          go_wp2_with fail
          refine wp_region_held_drew (S := fun W => Beh w0 W ∧ W.heap[wr.heap.size]? = some (.cells #[.int .i64 pc, .int .i64 ps, .int .i64 pd, .int .i64 vk, .float .f64 vn, .string vs] 54)) (by kernel_rfl) (⟨((beh_kept HK.out).alloc _).drew, HSB.out⟩) (fun hS => ?_)
          have HBR := Lib.hid (((Beh.start wr).alloc (.cells #[.int .i64 pc, .int .i64 ps, .int .i64 pd, .int .i64 vk, .float .f64 vn, .string vs] 54)).drew)
          have hwd : wr.heap.size < (wr.alloc (.cells #[.int .i64 pc, .int .i64 ps, .int .i64 pd, .int .i64 vk, .float .f64 vn, .string vs] 54)).drew.heap.size := by show _ < (wr.heap.push _).size; simp
          generalize World.drew (wr.alloc (.cells #[.int .i64 pc, .int .i64 ps, .int .i64 pd, .int .i64 vk, .float .f64 vn, .string vs] 54)) = wd at HBR hS hwd ⊢
          (try simp only [Act.put, List.getElem_toArray, List.getElem_cons_succ, List.getElem_cons_zero, List.setIfInBounds_toArray, List.set_cons_zero, List.set_cons_succ])
          refine wpAnyH_take (i := 0) (v := ?_) rfl (by kernel_rfl) (by kernel_rfl) (by kernel_rfl) (fun _ _ _ h => h) (Or.inl ⟨by rfl, ?_⟩) hS ?_
          rotate_left
          · intro W hW; go_simp; try with_reducible rfl
          (try simp only [Act.put, List.getElem_toArray, List.getElem_cons_zero, List.setIfInBounds_toArray, List.set_cons_zero, List.set_cons_succ])
          refine wpAnyH_take (i := 1) (v := ?_) rfl (by kernel_rfl) (by kernel_rfl) (by kernel_rfl) (fun _ _ _ h => h) (Or.inl ⟨by rfl, ?_⟩) hS ?_
          rotate_left
          · intro W hW; go_simp; try with_reducible rfl
          (try simp only [Act.put, List.getElem_toArray, List.getElem_cons_succ, List.getElem_cons_zero, List.setIfInBounds_toArray, List.set_cons_zero, List.set_cons_succ])
          refine wpAnyH_take (i := 2) (v := ?_) rfl (by kernel_rfl) (by kernel_rfl) (by kernel_rfl) (fun _ _ _ h => h) (Or.inl ⟨by rfl, ?_⟩) hS ?_
          rotate_left
          · intro W hW; (obtain ⟨d0, d1, d2, d3, d4, d5⟩ := cells6 hW.2); go_simp; try with_reducible rfl
          (try simp only [Act.put, List.getElem_toArray, List.getElem_cons_succ, List.getElem_cons_zero, List.setIfInBounds_toArray, List.set_cons_zero, List.set_cons_succ])
          refine wpAnyH_take (i := 3) (v := ?_) rfl (by kernel_rfl) (by kernel_rfl) (by kernel_rfl) (fun _ _ _ h => h) (Or.inl ⟨by rfl, ?_⟩) hS ?_
          rotate_left
          · intro W hW; go_simp; try with_reducible rfl
          (try simp only [Act.put, List.getElem_toArray, List.getElem_cons_succ, List.getElem_cons_zero, List.setIfInBounds_toArray, List.set_cons_zero, List.set_cons_succ])
          refine wpAnyH_take (i := 4) (v := ?_) rfl (by kernel_rfl) (by kernel_rfl) (by kernel_rfl) (fun _ _ _ h => h) (Or.inl ⟨by rfl, ?_⟩) hS ?_
          rotate_left
          · intro W hW; (obtain ⟨d0, d1, d2, d3, d4, d5⟩ := cells6 hW.2); go_simp; try with_reducible rfl
          (try simp only [Act.put, List.getElem_toArray, List.getElem_cons_succ, List.getElem_cons_zero, List.setIfInBounds_toArray, List.set_cons_zero, List.set_cons_succ])
          refine wpAnyH_take (i := 5) (v := ?_) rfl (by kernel_rfl) (by kernel_rfl) (by kernel_rfl) (fun _ _ _ h => h) (Or.inl ⟨by rfl, ?_⟩) hS ?_
          rotate_left
          · intro W hW; go_simp; try with_reducible rfl
          (try simp only [Act.put, List.getElem_toArray, List.getElem_cons_succ, List.getElem_cons_zero, List.setIfInBounds_toArray, List.set_cons_zero, List.set_cons_succ])
          refine wpAnyH_take (i := 6) (v := ?_) rfl (by kernel_rfl) (by kernel_rfl) (by kernel_rfl) (fun _ _ _ h => h) (Or.inl ⟨by rfl, ?_⟩) hS ?_
          rotate_left
          · intro W hW; go_simp; try with_reducible rfl
          (try simp only [Act.put, List.getElem_toArray, List.getElem_cons_succ, List.getElem_cons_zero, List.setIfInBounds_toArray, List.set_cons_zero, List.set_cons_succ])
          refine wpAnyH_take (i := 7) (v := ?_) rfl (by kernel_rfl) (by kernel_rfl) (by kernel_rfl) (fun _ _ _ h => h) (Or.inl ⟨by rfl, ?_⟩) hS ?_
          rotate_left
          · intro W hW; (obtain ⟨d0, d1, d2, d3, d4, d5⟩ := cells6 hW.2); go_simp; try with_reducible rfl
          (try simp only [Act.put, List.getElem_toArray, List.getElem_cons_succ, List.getElem_cons_zero, List.setIfInBounds_toArray, List.set_cons_zero, List.set_cons_succ])
          refine wpAnyH_take (i := 11) (v := ?_) rfl (by kernel_rfl) (by kernel_rfl) (by kernel_rfl) (fun _ _ _ h => h) (Or.inl ⟨by rfl, ?_⟩) hS ?_
          rotate_left
          · intro W hW; go_simp; try with_reducible rfl
          (try simp only [Act.put, List.getElem_toArray, List.getElem_cons_succ, List.getElem_cons_zero, List.setIfInBounds_toArray, List.set_cons_zero, List.set_cons_succ])
          refine wpAnyH_take (i := 12) (v := ?_) rfl (by kernel_rfl) (by kernel_rfl) (by kernel_rfl) (fun _ _ _ h => h) (Or.inl ⟨by rfl, ?_⟩) hS ?_
          rotate_left
          · intro W hW; go_simp; try with_reducible rfl
          (try simp only [Act.put, List.getElem_toArray, List.getElem_cons_succ, List.getElem_cons_zero, List.setIfInBounds_toArray, List.set_cons_zero, List.set_cons_succ])
          refine wpAnyH_take (i := 13) (v := ?_) rfl (by kernel_rfl) (by kernel_rfl) (by kernel_rfl) (fun _ _ _ h => h) (Or.inl ⟨by rfl, ?_⟩) hS ?_
          rotate_left
          · intro W hW; (obtain ⟨d0, d1, d2, d3, d4, d5⟩ := cells6 hW.2); go_simp; try with_reducible rfl
          (try simp only [Act.put, List.getElem_toArray, List.getElem_cons_succ, List.getElem_cons_zero, List.setIfInBounds_toArray, List.set_cons_zero, List.set_cons_succ])
          refine wpAnyH_ready (rs := [8]) (by kernel_rfl) (by simp) ?_
          refine AllReadyH.cons rfl (fun K hK => ?_) (AllReadyH.nil)
          all_goals (try simp only [List.getElem_toArray, List.getElem_cons_succ, List.getElem_cons_zero])
          go_simp
          refine hK.out _ _ (⟨hS.1.alloc _, (Beh.start wd).alloc (.cells #[.int .i64 pc, .int .i64 ps, .int .i64 pd] 3) |>.box hS.2⟩) (fun hS => ?_)
          clear hK K
          (try simp only [Act.put, List.getElem_toArray, List.getElem_cons_succ, List.getElem_cons_zero, List.setIfInBounds_toArray, List.set_cons_zero, List.set_cons_succ])
          have HI := Lib.hid (alloc_here (w := wd) (.cells #[.int .i64 pc, .int .i64 ps, .int .i64 pd] 3) rfl)
          have HBR := Lib.hid (HBR.out.alloc (.cells #[.int .i64 pc, .int .i64 ps, .int .i64 pd] 3))
          refine wpAnyH_ready (rs := [9]) (by kernel_rfl) (by simp) ?_
          refine AllReadyH.cons rfl (fun K hK => ?_) (AllReadyH.nil)
          all_goals (try simp only [List.getElem_toArray, List.getElem_cons_succ, List.getElem_cons_zero])
          go_simp
          go_at_call 29
          refine Calls.mono (HIN.out _ _ HI.out) ?_
          rintro x w2 ⟨b2, a3, cap3, rfl, ho2, _, hk2, _⟩
          have HO2 := Lib.hid ho2
          have HBR := Lib.hid (HBR.out.trans (beh_kept hk2))
          refine hK.out _ _ (⟨hS.1.trans (beh_kept hk2), hk2.heap hS.2 (fun h => h)⟩) (fun hS => ?_)
          clear hK K
          (try simp only [Act.put, List.getElem_toArray, List.getElem_cons_succ, List.getElem_cons_zero, List.setIfInBounds_toArray, List.set_cons_zero, List.set_cons_succ])
          clear hk2 ho2 HI
          refine wpAnyH_ready (rs := [10]) (by kernel_rfl) (by simp) ?_
          refine AllReadyH.cons rfl (fun K hK => ?_) (AllReadyH.nil)
          all_goals (try simp only [List.getElem_toArray, List.getElem_cons_succ, List.getElem_cons_zero])
          rw [if_pos (by rfl)]
          refine wp_append_bytes _ _ 26 rfl 5 i0 Tryz.underlying26 hi0 hz0 hz1 hz2 b1 a1 cap1 pre' pre'.length rfl (HO.out.kept (kept_beh HBR.out) (fun _ h => h)) (rfl) b2 a3 cap3 IL IL.length rfl HO2.out.src rfl (by omega) ?_
          intro b4 a4 cap4 w4 h2 h3 h4 h5
          have hsz : wr.heap.size < w2.heap.size := by have := hS.2; exact lt_of_heap this
          have hne1 : a1 ≠ none → b1 ≠ wr.heap.size := fun h0 => Nat.ne_of_lt (HO.out.lt h0)
          have hne : a4 ≠ none → b4 ≠ wr.heap.size := fun h0 => by rcases h4 with ⟨e4, h4 | h4⟩ | h4; exact absurd h4 h0; (rw [e4]; exact hne1 h4); omega
          have hm := Pk.mine_append' (n := (pre' ++ IL).length) (l2 := pre' ++ IL) rfl rfl hb1 (HK.out.trans (kept_beh HBR.out)) (Kept.refl _ _) h2 h3 h4
          have hk5 : Kept Mem.None w0 w4 := by obtain ⟨_, _, _, _, _, _, _, hk5⟩ := hm; exact hk5
          have hb4 : w0.heap.size ≤ b4 := by have := hS.1.size; rcases h4 with ⟨h4, _⟩ | h4 <;> omega
          have hs4 := h3.heap hS.2 (fun e => hne1 e.1 e.2.symm)
          have HO5 := Lib.hid h2
          have HK5 := Lib.hid hk5
          refine hK.out _ _ (⟨beh_kept HK5.out, hs4⟩) (fun hS => ?_)
          clear hK K
          (try simp only [Act.put, List.setIfInBounds_toArray, List.set_cons_zero, List.set_cons_succ])
          clear h2 h3 h4 h5 hm hk5 HO2 HBR hs4 hsz
          refine wpAnyH_ready (rs := [14]) (by kernel_rfl) (by simp) ?_
          refine AllReadyH.cons rfl (fun K hK => ?_) (AllReadyH.nil)
          all_goals (try simp only [List.getElem_toArray, List.getElem_cons_succ, List.getElem_cons_zero])
          go_simp
          go_at_call 28
          refine Calls.mono ((HRV _).out) ?_
          rintro x w6 ⟨b6, a6, cap6, rfl, ho6, _, hk6, _⟩
          have HO6 := Lib.hid ho6
          have HK6 := Lib.hid hk6
          refine hK.out _ _ (⟨hS.1.trans (beh_kept hk6), hk6.heap hS.2 (fun h => h)⟩) (fun hS => ?_)
          clear hK K
          (try simp only [Act.put, List.getElem_toArray, List.getElem_cons_succ, List.getElem_cons_zero, List.setIfInBounds_toArray, List.set_cons_zero, List.set_cons_succ])
          clear ho6 hk6
          refine wpAnyH_ready (rs := [15]) (by kernel_rfl) (by simp) ?_
          refine AllReadyH.cons rfl (fun K hK => ?_) (AllReadyH.nil)
          all_goals (try simp only [List.getElem_toArray, List.getElem_cons_succ, List.getElem_cons_zero])
          rw [if_pos (by rfl)]
          refine wp_append_bytes _ _ 26 rfl 5 i0 Tryz.underlying26 hi0 hz0 hz1 hz2 b4 a4 cap4 (pre' ++ IL) _ rfl (HO5.out.kept HK6.out (fun _ h => h)) (by simp) b6 a6 cap6 VB VB.length rfl HO6.out.src rfl (by omega) ?_
          intro b7 a7 cap7 w7 h2 h3 h4 h5
          have HM7 := Lib.hid (Pk.mine_append' (n := (pre' ++ IL ++ VB).length) (l2 := PRE ++ (S.take (k + 1)).flatMap seB) (by rw [HT.out, HB8.out, ← HPRE.out, HIL.out]; simp) rfl hb4 (HK5.out.trans HK6.out) (Kept.refl _ _) h2 h3 h4)
          have HK7 : Hid (Kept Mem.None w0 w7) := by obtain ⟨_, _, _, _, _, _, _, hk5⟩ := HM7.out; exact hk5
          have hs7 := h3.heap hS.2 (fun e => hne e.1 e.2.symm)
          refine hK.out _ _ (⟨beh_kept HK7.out, hs7⟩) (fun hS => ?_)
          clear hK K
          (try simp only [Act.put, List.setIfInBounds_toArray, List.set_cons_zero, List.set_cons_succ])
          clear h2 h3 h4 h5 HO5 HO6 HK5 HK6 hs7
          refine wpAnyH_take (i := 16) (v := ?_) rfl (by kernel_rfl) (by kernel_rfl) (by kernel_rfl) (fun _ _ _ h => h) (Or.inl ⟨by rfl, ?_⟩) hS ?_
          rotate_left
          · intro W hW; go_simp; try with_reducible rfl
          (try simp only [Act.put, List.getElem_toArray, List.getElem_cons_succ, List.getElem_cons_zero, List.setIfInBounds_toArray, List.set_cons_zero, List.set_cons_succ])
          refine wpAnyH_done (by kernel_rfl) ?_ _
          go_wp2_with fail
          go_roundw
          case rel => exact ⟨k + 1, by omega, by go_num, by have h9 := HM7.out; rw [List.length_append, List.length_append, Nat.add_assoc] at h9; exact h9⟩
          case measure => simp [intOf]; omega
        · obtain rfl : k = S.length := by omega
          have ho0 := HO.out
          rw [List.take_length] at ho0
          rw [List.take_length]
          rw [← HE2.out] at ho0 ⊢
          have HO := Lib.hid ho0
          have hs := HB0.out.size
          clear ho0
          go_wp2_with fail
          go_ret
          exact ⟨b1, a1, cap1, rfl, HO.out, by omega, (kept_beh HB0.out).trans HK.out, hb2⟩
end Go.Proofs.YtbheofibdogabaaGreat.Ss
