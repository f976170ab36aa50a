import Derived.Test.YtaengjgmchpabaaGreatMergeWr29
import Derived.Test.YtaengjgmchpabaaGreatWireF8
import Derived.Test.YtaengjgmchpabaaGreatMergeWr25
import Derived.Test.YtaengjgmchpabaaGreatWireHm
import Derived.Test.YtaengjgmchpabaaGreatWireEncM
section
/- Cut out of Ref2 so that every seat fills it. -/
namespace Go.Proofs.YtaengjgmchpabaaGreat.Pk
open Go Go.RowKit Mem
attribute [local go_sem] run_bits run_frombits
set_option maxHeartbeats 1000000 in
theorem refMark_any (b : Bool) (w : World) : Calls Tryz.prog 43 #[.bool b] w (NewB (markB b) w) := by
  cases b
  all_goals
    go_enter Tryz.func43, Tryz.ntmps43
    go_wp2
    go_ret
    exact own_lit w _ rfl _ _ rfl
end Go.Proofs.YtaengjgmchpabaaGreat.Pk
end
section
/- The reference's writers: a message's head; a message. -/
namespace Go.Proofs.YtaengjgmchpabaaGreat.Wr
open Go Go.RowKit Vl Kv Ss Cn Mem Lg Nm
attribute [local go_sem] Nm.run_bits Nm.run_frombits run_store_float
theorem below_drew (w : World) : Below w.heap.size w w.drew := (Beh.start w).drew
theorem nums_flat (f : Fl) : mNums f = [f.kind, f.from_, f.to, f.term, f.index, f.logt, f.commit, f.round].flatMap Pk.intB := by
  unfold mNums
  simp
set_option maxHeartbeats 12800000 in
set_option maxRecDepth 100000 in
theorem refHeadM (x : Mr) (w : World) (hp : FlAt w x) (hf : FitR x.1) (hk : okF x.1 = true) (hs : x.1.snap.length ≤ 16384) :
    Calls Tryz.prog 20 #[x.val] w (Pk.NewB (mHead x.1 ++ Pk.textB x.1.snap) w) := by
  obtain ⟨i0, hi0, hz0, hz1, hz2⟩ := info_parts Pk.infoU8
  have HBX := Lib.hid (Bh.alloc_here (w := w) x.obj rfl)
  have hw0 : Kv.Beh w (w.alloc x.obj) := below_alloc _ _
  obtain ⟨h8, hol⟩ := (okF_iff x.1).1 hk
  obtain ⟨L1, hL1⟩ : ∃ L1, L1 = mNums x.1 := ⟨_, rfl⟩
  obtain ⟨LM, hLM⟩ : ∃ LM, LM = Pk.markB x.1.yes := ⟨_, rfl⟩
  obtain ⟨L2, hL2⟩ : ∃ L2, L2 = listB x.1.ents := ⟨_, rfl⟩
  obtain ⟨L3, hL3⟩ : ∃ L3, L3 = cConf.enc x.1.conf := ⟨_, rfl⟩
  obtain ⟨L4, hL4⟩ : ∃ L4, L4 = Pk.textB x.1.snap := ⟨_, rfl⟩
  have hl1 : L1.length ≤ 80 := by rw [hL1]; exact mNums_le x.1
  have hlm : LM.length ≤ 1 := by rw [hLM, mark_len]; exact Nat.le_refl _
  have hl2 : L2.length ≤ 490000 := by rw [hL2]; have := listB_le hf.ents; have : x.1.ents.length * 60000 ≤ 8 * 60000 := Nat.mul_le_mul_right _ (by omega); omega
  have hl3 : L3.length ≤ 40 := by rw [hL3]; exact cConf_le x.1.conf
  have hl4 : L4.length ≤ 16400 := by rw [hL4]; have := textB_len x.1.snap; omega
  have HE : Hid (mHead x.1 ++ Pk.textB x.1.snap = (((L1 ++ LM) ++ L2) ++ L3) ++ L4) := Lib.hid (by
    rw [hL1, hLM, hL2, hL3, hL4]
    unfold mHead
    simp only [List.append_assoc])
  have HIN : Hid (∀ (W : World) (kb : Nat), kb = W.heap.size → Calls Tryz.prog 42 #[.slice (some ⟨kb, 0, none⟩) 8 8] (W.alloc (.cells #[.int .i64 x.1.kind, .int .i64 x.1.from_, .int .i64 x.1.to, .int .i64 x.1.term, .int .i64 x.1.index, .int .i64 x.1.logt, .int .i64 x.1.commit, .int .i64 x.1.round] 3)) (Pk.NewB L1 (W.alloc (.cells #[.int .i64 x.1.kind, .int .i64 x.1.from_, .int .i64 x.1.to, .int .i64 x.1.term, .int .i64 x.1.index, .int .i64 x.1.logt, .int .i64 x.1.commit, .int .i64 x.1.round] 3)))) := fun W kb hkb => intsLit [x.1.kind, x.1.from_, x.1.to, x.1.term, x.1.index, x.1.logt, x.1.commit, x.1.round] W kb hkb _ (by simp only [List.map_cons, List.map_nil]) 8 (by simp) (fun y hy => by
    simp only [List.mem_cons, List.not_mem_nil, or_false] at hy
    rcases hy with rfl | rfl | rfl | rfl | rfl | rfl | rfl | rfl
    · exact hf.kind
    · exact hf.from_
    · exact hf.to
    · exact hf.term
    · exact hf.index
    · exact hf.logt
    · exact hf.commit
    · exact hf.round) (by simp) L1 (by rw [hL1]; exact nums_flat x.1)
  have HMK : Hid (∀ W, Calls Tryz.prog 43 #[.bool x.1.yes] W (Pk.NewB LM W)) := fun W => by rw [hLM]; exact Pk.refMark_any _ W
  have HCF : Hid (∀ W, Calls Tryz.prog 45 #[x.1.conf.val] W (Pk.NewB L3 W)) := fun W => by rw [hL3]; exact refConfW _ hf.conf W
  have HTX : Hid (∀ W, Kv.Beh w W → Calls Tryz.prog 46 #[.slice x.2.sa x.1.snap.length x.2.sc] W (Pk.NewB L4 W)) := fun W hW => by rw [hL4]; exact Pk.refText_any _ _ _ _ W (hp.on hW).snap (by omega)
  have HLI : Hid (∀ W, Kv.Beh w W → Calls Tryz.prog 44 #[.slice x.2.ea x.1.ents.length x.2.ec] W (Pk.NewB L2 W)) := fun W hW => by rw [hL2]; exact refListW _ _ _ W (hp.on hW).ents hf.ents hol (by omega)
  rw [HE.out]
  clear hp hf hk hs h8 hol hL1 hLM hL2 hL3 hL4 HE
  (obtain ⟨c0, c1, c2, c3, c4, c5, c6, c7, c8, c9, c10, c11, c12, c13, c14, c15⟩ := cells16m (x := x) HBX.out)
  go_enter Tryz.func20, Tryz.ntmps20
  go_wp2_with fail
  refine Calls.mono (HIN.out _ _ (by rw [size_alloc])) ?_
  rintro x_ w2 ⟨b1, a1, u1, rfl, ho, hb, hk, hb2⟩
  have HA := Lib.hid (Ac.start (w0 := w.alloc x.obj) ho (by simp only [size_alloc] at hb ⊢; omega) (((Kept.refl Mem.None _).alloc _).trans hk) hb2 [(w.heap.size, x.obj)] (fun n o hn => by rw [List.mem_singleton] at hn; injection hn with h1 h2; subst h1 h2; exact HBX.out))
  clear ho hb hk hb2 HIN c0 c1 c2 c3 c4 c5 c6 c7 c8 c9 c10 c11 c12 c13 c14 c15
  go_wp2_with fail
  have HA := Lib.hid (HA.out.on (below_drew w2))
  refine wp_region_held_drew (S := fun W => W.heap[w.heap.size]? = some x.obj) (by kernel_rfl) ((HA.out.box _ _ (List.mem_cons_self ..)).1) (fun hS => ?_)
  generalize World.drew w2 = wd at HA hS ⊢
  (try simp only [Act.put, List.getElem_toArray, List.getElem_cons_succ, List.getElem_cons_zero, List.setIfInBounds_toArray, List.set_cons_zero, List.set_cons_succ])
  refine wpAnyH_take (i := 0) (v := ?_) rfl (by kernel_rfl) (by kernel_rfl) (by kernel_rfl) (fun _ _ _ h => h) (Or.inl ⟨by rfl, ?_⟩) hS ?_
  rotate_left
  · intro W hW; go_simp; try with_reducible rfl
  (try simp only [Act.put, List.getElem_toArray, List.getElem_cons_zero, List.setIfInBounds_toArray, List.set_cons_zero, List.set_cons_succ])
  refine wpAnyH_take (i := 1) (v := ?_) rfl (by kernel_rfl) (by kernel_rfl) (by kernel_rfl) (fun _ _ _ h => h) (Or.inl ⟨by rfl, ?_⟩) hS ?_
  rotate_left
  · intro W hW; go_simp; try with_reducible rfl
  (try simp only [Act.put, List.getElem_toArray, List.getElem_cons_succ, List.getElem_cons_zero, List.setIfInBounds_toArray, List.set_cons_zero, List.set_cons_succ])
  refine wpAnyH_take (i := 2) (v := ?_) rfl (by kernel_rfl) (by kernel_rfl) (by kernel_rfl) (fun _ _ _ h => h) (Or.inl ⟨by rfl, ?_⟩) hS ?_
  rotate_left
  · intro W hW; (obtain ⟨c0, c1, c2, c3, c4, c5, c6, c7, c8, c9, c10, c11, c12, c13, c14, c15⟩ := cells16m (x := x) hW); go_simp; try with_reducible rfl
  (try simp only [Act.put, List.getElem_toArray, List.getElem_cons_succ, List.getElem_cons_zero, List.setIfInBounds_toArray, List.set_cons_zero, List.set_cons_succ])
  refine wpAnyH_take (i := 5) (v := ?_) rfl (by kernel_rfl) (by kernel_rfl) (by kernel_rfl) (fun _ _ _ h => h) (Or.inl ⟨by rfl, ?_⟩) hS ?_
  rotate_left
  · intro W hW; go_simp; try with_reducible rfl
  (try simp only [Act.put, List.getElem_toArray, List.getElem_cons_succ, List.getElem_cons_zero, List.setIfInBounds_toArray, List.set_cons_zero, List.set_cons_succ])
  refine wpAnyH_take (i := 6) (v := ?_) rfl (by kernel_rfl) (by kernel_rfl) (by kernel_rfl) (fun _ _ _ h => h) (Or.inl ⟨by rfl, ?_⟩) hS ?_
  rotate_left
  · intro W hW; (obtain ⟨c0, c1, c2, c3, c4, c5, c6, c7, c8, c9, c10, c11, c12, c13, c14, c15⟩ := cells16m (x := x) hW); go_simp; try with_reducible rfl
  (try simp only [Act.put, List.getElem_toArray, List.getElem_cons_succ, List.getElem_cons_zero, List.setIfInBounds_toArray, List.set_cons_zero, List.set_cons_succ])
  refine wpAnyH_ready (rs := [3]) (by kernel_rfl) (by simp) ?_
  refine AllReadyH.cons rfl (fun K hK => ?_) (AllReadyH.nil)
  all_goals (try simp only [List.getElem_toArray, List.getElem_cons_succ, List.getElem_cons_zero])
  go_simp
  go_at_call 43
  refine Calls.mono (HMK.out _) ?_
  rintro x_ w3 ⟨b2, a2, u2, rfl, ho, _, hk, _⟩
  have HA := Lib.hid (HA.out.on (beh_kept hk))
  have HO := Lib.hid ho
  refine hK.out _ _ ((HA.out.box _ _ (List.mem_cons_self ..)).1) (fun hS => ?_)
  clear hK K
  (try simp only [Act.put, List.getElem_toArray, List.getElem_cons_succ, List.getElem_cons_zero, List.setIfInBounds_toArray, List.set_cons_zero, List.set_cons_succ])
  clear ho hk
  refine wpAnyH_ready (rs := [4]) (by kernel_rfl) (by simp) ?_
  refine AllReadyH.cons rfl (fun K hK => ?_) (AllReadyH.nil)
  all_goals (try simp only [List.getElem_toArray, List.getElem_cons_succ, List.getElem_cons_zero])
  rw [if_pos (by rfl)]
  refine wp_append_bytes _ _ 25 rfl 5 i0 Tryz.underlying25 hi0 hz0 hz1 hz2 b1 a1 u1 L1 _ rfl (HA.out.own) rfl b2 a2 u2 LM LM.length rfl HO.out.src rfl (by omega) ?_
  intro b3_ a3 u3 w4 h2 h3 h4 h9
  obtain ⟨b3, h8⟩ := HA.out.app h2 h3 h4
  have HA := Lib.hid h8
  clear h2 h3 h4 h8 h9
  generalize hP3 : L1 ++ LM = P3 at HA ⊢
  have HP3 := Lib.hid hP3
  have p3l : P3.length ≤ 100 := by rw [← hP3, List.length_append]; omega
  clear hP3
  refine hK.out _ _ ((HA.out.box _ _ (List.mem_cons_self ..)).1) (fun hS => ?_)
  clear hK K
  (try simp only [Act.put, List.setIfInBounds_toArray, List.set_cons_zero, List.set_cons_succ])
  clear HO
  refine wpAnyH_ready (rs := [7]) (by kernel_rfl) (by simp) ?_
  refine AllReadyH.cons rfl (fun K hK => ?_) (AllReadyH.nil)
  all_goals (try simp only [List.getElem_toArray, List.getElem_cons_succ, List.getElem_cons_zero])
  go_simp
  go_at_call 44
  refine Calls.mono (HLI.out _ (hw0.trans (beh_kept HA.out.kept))) ?_
  rintro x_ w5 ⟨b4, a4, u4, rfl, ho, _, hk, _⟩
  have HA := Lib.hid (HA.out.on (beh_kept hk))
  have HO := Lib.hid ho
  refine hK.out _ _ ((HA.out.box _ _ (List.mem_cons_self ..)).1) (fun hS => ?_)
  clear hK K
  (try simp only [Act.put, List.getElem_toArray, List.getElem_cons_succ, List.getElem_cons_zero, List.setIfInBounds_toArray, List.set_cons_zero, List.set_cons_succ])
  clear ho hk
  refine wpAnyH_ready (rs := [8]) (by kernel_rfl) (by simp) ?_
  refine AllReadyH.cons rfl (fun K hK => ?_) (AllReadyH.nil)
  all_goals (try simp only [List.getElem_toArray, List.getElem_cons_succ, List.getElem_cons_zero])
  rw [if_pos (by rfl)]
  refine wp_append_bytes _ _ 25 rfl 5 i0 Tryz.underlying25 hi0 hz0 hz1 hz2 b3 a3 u3 P3 _ rfl (HA.out.own) rfl b4 a4 u4 L2 L2.length rfl HO.out.src rfl (by omega) ?_
  intro b5_ a5 u5 w6 h2 h3 h4 h9
  obtain ⟨b5, h8⟩ := HA.out.app h2 h3 h4
  have HA := Lib.hid h8
  clear h2 h3 h4 h8 h9
  generalize hP5 : P3 ++ L2 = P5 at HA ⊢
  have HP5 := Lib.hid hP5
  have p5l : P5.length ≤ 490200 := by rw [← hP5, List.length_append]; omega
  clear hP5
  refine hK.out _ _ ((HA.out.box _ _ (List.mem_cons_self ..)).1) (fun hS => ?_)
  clear hK K
  (try simp only [Act.put, List.setIfInBounds_toArray, List.set_cons_zero, List.set_cons_succ])
  clear HO
  refine wpAnyH_take (i := 9) (v := ?_) rfl (by kernel_rfl) (by kernel_rfl) (by kernel_rfl) (fun _ _ _ h => h) (Or.inl ⟨by rfl, ?_⟩) hS ?_
  rotate_left
  · intro W hW; go_simp; try with_reducible rfl
  (try simp only [Act.put, List.getElem_toArray, List.getElem_cons_succ, List.getElem_cons_zero, List.setIfInBounds_toArray, List.set_cons_zero, List.set_cons_succ])
  refine wpAnyH_done (by kernel_rfl) ?_ _
  go_wp2_with fail
  have HA := Lib.hid (HA.out.on (below_drew w6))
  refine wp_region_held_drew (S := fun W => W.heap[w.heap.size]? = some x.obj) (by kernel_rfl) ((HA.out.box _ _ (List.mem_cons_self ..)).1) (fun hS => ?_)
  generalize World.drew w6 = wd at HA hS ⊢
  (try simp only [Act.put, List.getElem_toArray, List.getElem_cons_succ, List.getElem_cons_zero, List.setIfInBounds_toArray, List.set_cons_zero, List.set_cons_succ])
  refine wpAnyH_take (i := 0) (v := ?_) rfl (by kernel_rfl) (by kernel_rfl) (by kernel_rfl) (fun _ _ _ h => h) (Or.inl ⟨by rfl, ?_⟩) hS ?_
  rotate_left
  · intro W hW; go_simp; try with_reducible rfl
  (try simp only [Act.put, List.getElem_toArray, List.getElem_cons_zero, List.setIfInBounds_toArray, List.set_cons_zero, List.set_cons_succ])
  refine wpAnyH_take (i := 1) (v := ?_) rfl (by kernel_rfl) (by kernel_rfl) (by kernel_rfl) (fun _ _ _ h => h) (Or.inl ⟨by rfl, ?_⟩) hS ?_
  rotate_left
  · intro W hW; go_simp; try with_reducible rfl
  (try simp only [Act.put, List.getElem_toArray, List.getElem_cons_succ, List.getElem_cons_zero, List.setIfInBounds_toArray, List.set_cons_zero, List.set_cons_succ])
  refine wpAnyH_take (i := 2) (v := ?_) rfl (by kernel_rfl) (by kernel_rfl) (by kernel_rfl) (fun _ _ _ h => h) (Or.inl ⟨by rfl, ?_⟩) hS ?_
  rotate_left
  · intro W hW; (obtain ⟨c0, c1, c2, c3, c4, c5, c6, c7, c8, c9, c10, c11, c12, c13, c14, c15⟩ := cells16m (x := x) hW); go_simp; try with_reducible rfl
  (try simp only [Act.put, List.getElem_toArray, List.getElem_cons_succ, List.getElem_cons_zero, List.setIfInBounds_toArray, List.set_cons_zero, List.set_cons_succ])
  refine wpAnyH_take (i := 5) (v := ?_) rfl (by kernel_rfl) (by kernel_rfl) (by kernel_rfl) (fun _ _ _ h => h) (Or.inl ⟨by rfl, ?_⟩) hS ?_
  rotate_left
  · intro W hW; go_simp; try with_reducible rfl
  (try simp only [Act.put, List.getElem_toArray, List.getElem_cons_succ, List.getElem_cons_zero, List.setIfInBounds_toArray, List.set_cons_zero, List.set_cons_succ])
  refine wpAnyH_take (i := 6) (v := ?_) rfl (by kernel_rfl) (by kernel_rfl) (by kernel_rfl) (fun _ _ _ h => h) (Or.inl ⟨by rfl, ?_⟩) hS ?_
  rotate_left
  · intro W hW; (obtain ⟨c0, c1, c2, c3, c4, c5, c6, c7, c8, c9, c10, c11, c12, c13, c14, c15⟩ := cells16m (x := x) hW); go_simp; try with_reducible rfl
  (try simp only [Act.put, List.getElem_toArray, List.getElem_cons_succ, List.getElem_cons_zero, List.setIfInBounds_toArray, List.set_cons_zero, List.set_cons_succ])
  refine wpAnyH_ready (rs := [3]) (by kernel_rfl) (by simp) ?_
  refine AllReadyH.cons rfl (fun K hK => ?_) (AllReadyH.nil)
  all_goals (try simp only [List.getElem_toArray, List.getElem_cons_succ, List.getElem_cons_zero])
  go_simp
  go_at_call 45
  refine Calls.mono (HCF.out _) ?_
  rintro x_ w7 ⟨b6, a6, u6, rfl, ho, _, hk, _⟩
  have HA := Lib.hid (HA.out.on (beh_kept hk))
  have HO := Lib.hid ho
  refine hK.out _ _ ((HA.out.box _ _ (List.mem_cons_self ..)).1) (fun hS => ?_)
  clear hK K
  (try simp only [Act.put, List.getElem_toArray, List.getElem_cons_succ, List.getElem_cons_zero, List.setIfInBounds_toArray, List.set_cons_zero, List.set_cons_succ])
  clear ho hk
  refine wpAnyH_ready (rs := [4]) (by kernel_rfl) (by simp) ?_
  refine AllReadyH.cons rfl (fun K hK => ?_) (AllReadyH.nil)
  all_goals (try simp only [List.getElem_toArray, List.getElem_cons_succ, List.getElem_cons_zero])
  rw [if_pos (by rfl)]
  refine wp_append_bytes _ _ 25 rfl 5 i0 Tryz.underlying25 hi0 hz0 hz1 hz2 b5 a5 u5 P5 _ rfl (HA.out.own) rfl b6 a6 u6 L3 L3.length rfl HO.out.src rfl (by omega) ?_
  intro b7_ a7 u7 w8 h2 h3 h4 h9
  obtain ⟨b7, h8⟩ := HA.out.app h2 h3 h4
  have HA := Lib.hid h8
  clear h2 h3 h4 h8 h9
  generalize hP7 : P5 ++ L3 = P7 at HA ⊢
  have HP7 := Lib.hid hP7
  have p7l : P7.length ≤ 490300 := by rw [← hP7, List.length_append]; omega
  clear hP7
  refine hK.out _ _ ((HA.out.box _ _ (List.mem_cons_self ..)).1) (fun hS => ?_)
  clear hK K
  (try simp only [Act.put, List.setIfInBounds_toArray, List.set_cons_zero, List.set_cons_succ])
  clear HO
  refine wpAnyH_ready (rs := [7]) (by kernel_rfl) (by simp) ?_
  refine AllReadyH.cons rfl (fun K hK => ?_) (AllReadyH.nil)
  all_goals (try simp only [List.getElem_toArray, List.getElem_cons_succ, List.getElem_cons_zero])
  go_simp
  go_at_call 46
  refine Calls.mono (HTX.out _ (hw0.trans (beh_kept HA.out.kept))) ?_
  rintro x_ w9 ⟨b8, a8, u8, rfl, ho, _, hk, _⟩
  have HA := Lib.hid (HA.out.on (beh_kept hk))
  have HO := Lib.hid ho
  refine hK.out _ _ ((HA.out.box _ _ (List.mem_cons_self ..)).1) (fun hS => ?_)
  clear hK K
  (try simp only [Act.put, List.getElem_toArray, List.getElem_cons_succ, List.getElem_cons_zero, List.setIfInBounds_toArray, List.set_cons_zero, List.set_cons_succ])
  clear ho hk
  refine wpAnyH_ready (rs := [8]) (by kernel_rfl) (by simp) ?_
  refine AllReadyH.cons rfl (fun K hK => ?_) (AllReadyH.nil)
  all_goals (try simp only [List.getElem_toArray, List.getElem_cons_succ, List.getElem_cons_zero])
  rw [if_pos (by rfl)]
  refine wp_append_bytes _ _ 25 rfl 5 i0 Tryz.underlying25 hi0 hz0 hz1 hz2 b7 a7 u7 P7 _ rfl (HA.out.own) rfl b8 a8 u8 L4 L4.length rfl HO.out.src rfl (by omega) ?_
  intro b9_ a9 u9 w10 h2 h3 h4 h9
  obtain ⟨b9, h8⟩ := HA.out.app h2 h3 h4
  have HA := Lib.hid h8
  clear h2 h3 h4 h8 h9
  generalize hP9 : P7 ++ L4 = P9 at HA ⊢
  have HP9 := Lib.hid hP9
  have p9l : P9.length ≤ 510000 := by rw [← hP9, List.length_append]; omega
  clear hP9
  refine hK.out _ _ ((HA.out.box _ _ (List.mem_cons_self ..)).1) (fun hS => ?_)
  clear hK K
  (try simp only [Act.put, List.setIfInBounds_toArray, List.set_cons_zero, List.set_cons_succ])
  clear HO
  refine wpAnyH_take (i := 9) (v := ?_) rfl (by kernel_rfl) (by kernel_rfl) (by kernel_rfl) (fun _ _ _ h => h) (Or.inl ⟨by rfl, ?_⟩) hS ?_
  rotate_left
  · intro W hW; go_simp; try with_reducible rfl
  (try simp only [Act.put, List.getElem_toArray, List.getElem_cons_succ, List.getElem_cons_zero, List.setIfInBounds_toArray, List.set_cons_zero, List.set_cons_succ])
  refine wpAnyH_done (by kernel_rfl) ?_ _
  go_wp2_with fail
  go_ret
  rw [HP3.out, HP5.out, HP7.out, HP9.out]
  exact HA.out.new ((Kept.refl _ w).alloc _)
end Go.Proofs.YtaengjgmchpabaaGreat.Wr
end
section
/- The reference's writers: a message. -/
namespace Go.Proofs.YtaengjgmchpabaaGreat.Wr
open Go Go.RowKit Vl Kv Ss Cn Mem Lg Nm
attribute [local go_sem] Nm.run_bits Nm.run_frombits run_store_float
theorem hb_le {f : Fl} (h : FitR f) (h8 : f.ents.length ≤ 8) (hs : f.snap.length ≤ 16384) : (mHead f ++ Pk.textB f.snap).length ≤ 520000 := by
  rw [List.length_append]
  have h1 := mHead_le h h8
  have h2 := textB_len f.snap
  omega
theorem mR_bytes {x : Mr} {L : List Mr} (hn : L.length = x.2.n) (h : mayM x L) (hs : snapsOk x L) : mR (some []) x L 16 = some (some (((mHead x.1 ++ Pk.textB x.1.snap) ++ Pk.intB x.2.n) ++ (L.map Prod.fst).flatMap cInner.enc)) := by
  rw [mR_yes hn h hs]
  have e1 : cMsg.enc (me x L) = cHead.enc x.1 ++ (Pk.intB x.2.n ++ (L.map Prod.fst).flatMap cInner.enc) := by
    show cHead.enc x.1 ++ (cList cInner (fun n => decide (n ≤ 16))).enc (L.map Prod.fst) = _
    rw [cList_enc cInner (by rw [List.length_map]; exact decide_eq_true (by have := h.2.1; omega)), List.length_map, hn]
  rw [e1, cHead_enc (okF_len h.1)]
  simp only [List.append_assoc]
theorem take_fst {L : List Mr} {k : Nat} (hk : k < L.length) : ((L.take (k + 1)).map Prod.fst).flatMap cInner.enc = ((L.take k).map Prod.fst).flatMap cInner.enc ++ cInner.enc (L.getD k Mr.zero).1 := by
  have e : L.getD k Mr.zero = L[k] := by simp [hk]
  rw [e, List.take_succ_eq_append_getElem hk, List.map_append, List.flatMap_append]
  simp
set_option maxHeartbeats 12800000 in
set_option maxRecDepth 100000 in
theorem refMsgW (x : Mr) (L : List Mr) (w : World) (hp : MsgAt w x L) (hf : FitMs x L) : Calls Tryz.prog 6 #[x.val] w (EncTold (mR (some []) x L 16) w) := by
  obtain ⟨i0, hi0, hz0, hz1, hz2⟩ := info_parts Pk.infoU8
  have HB := Lib.hid (Bh.Bx.one w x.obj)
  have HMY : Hid (∀ W, Kv.Beh w W → Calls Tryz.prog 18 #[x.val] W fun e w' => e = .returned (.bool (mayB x L)) ∧ Below W.heap.size W w') := fun W hW => refMayM x L W (hp.on hW) hf.head.len (fun y hy => (hf.all y hy).1.len)
  have HLG : Hid (∀ W, Kv.Beh w W → Calls Tryz.prog 19 #[x.val] W fun e w' => e = .returned (.bool (longB x L)) ∧ Below W.heap.size W w') := fun W hW => refLongM x L W (hp.on hW)
  cases hq : mayB x L
  case false => as_aux_lemma =>
    have e1 : mR (some []) x L 16 = none := mR_no fun h => by rw [(mayB_iff hf.len).2 h] at hq; cases hq
    rw [e1]
    rw [hq] at HMY
    clear hp hf hq e1 HLG
    go_enter Tryz.func6, Tryz.ntmps6
    go_wp2_with (first | (go_at_call 18; refine Calls.mono (HMY.out _ HB.out.beh) ?_; rintro e wy ⟨rfl, hb⟩; (have HB := Lib.hid (HB.out.on hb)); clear hb) | (apply Bh.load_bx 0 HB.out Tryz.underlying28; rfl; rfl; rfl; rfl; rfl; kernel_rfl))
    go_ret2
    exact ⟨HB.out.beh, rfl⟩
  have hmay := (mayB_iff hf.len).1 hq
  rw [hq] at HMY
  cases hg : longB x L
  case true => as_aux_lemma =>
    have e1 : mR (some []) x L 16 = some none := mR_long hmay fun h => by rw [longB_iff.2 h] at hg; cases hg
    rw [e1]
    rw [hg] at HLG
    clear hp hf hq hg e1 hmay
    go_enter Tryz.func6, Tryz.ntmps6
    go_wp2_with (first | (go_at_call 18; refine Calls.mono (HMY.out _ HB.out.beh) ?_; rintro e wy ⟨rfl, hb⟩; (have HB := Lib.hid (HB.out.on hb)); clear hb) | (go_at_call 19; refine Calls.mono (HLG.out _ HB.out.beh) ?_; rintro e wy ⟨rfl, hb⟩; (have HB := Lib.hid (HB.out.on hb)); clear hb) | (apply Bh.load_bx 0 HB.out Tryz.underlying28; rfl; rfl; rfl; rfl; rfl; kernel_rfl))
    go_ret2
    exact ⟨HB.out.beh, rfl⟩
  have hsn := longB_iff.1 hg
  rw [hg] at HLG
  have h16 : L.length ≤ 16 := by have := hmay.2.1; have := hf.len; omega
  obtain ⟨H0, hH0⟩ : ∃ H0, H0 = mHead x.1 ++ Pk.textB x.1.snap := ⟨_, rfl⟩
  obtain ⟨I0, hI0⟩ : ∃ I0, I0 = Pk.intB x.2.n := ⟨_, rfl⟩
  obtain ⟨Z0, hZ0⟩ : ∃ Z0, Z0 = Pk.intB 0 := ⟨_, rfl⟩
  have hl0 : H0.length ≤ 520000 := by rw [hH0]; exact hb_le hf.head (okF_len hmay.1) hsn.1
  have hl1 : I0.length ≤ 10 := by rw [hI0]; exact (Pk.intB_len _).2
  have hlz : Z0.length ≤ 10 := by rw [hZ0]; exact (Pk.intB_len _).2
  have HE : Hid (mR (some []) x L 16 = some (some ((H0 ++ I0) ++ (L.map Prod.fst).flatMap cInner.enc))) := Lib.hid (by rw [mR_bytes hf.len hmay hsn, hH0, hI0])
  have HHD : Hid (∀ W, Kv.Beh w W → Calls Tryz.prog 20 #[x.val] W (Pk.NewB H0 W)) := fun W hW => by rw [hH0]; exact refHeadM x W (hp.flat.on hW) hf.head hmay.1 hsn.1
  have HIN : Hid (∀ W, Calls Tryz.prog 21 #[.int .i64 (x.2.n : Int)] W (Pk.NewB I0 W)) := fun W => by rw [hI0]; exact Pk.refInt_any (x.2.n : Int) W (by omega) (by have := hf.len; omega)
  have HZ0 : Hid (∀ W, Calls Tryz.prog 21 #[.int .i64 0] W (Pk.NewB Z0 W)) := fun W => by rw [hZ0]; exact Pk.refInt_any 0 W (by omega) (by omega)
  have HALL : Hid (∀ y ∈ L, (∀ W, Kv.Beh w W → Calls Tryz.prog 20 #[y.val] W (Pk.NewB (mHead y.1 ++ Pk.textB y.1.snap) W)) ∧ (mHead y.1 ++ Pk.textB y.1.snap).length ≤ 520000 ∧ cInner.enc y.1 = (mHead y.1 ++ Pk.textB y.1.snap) ++ Z0) := fun y hy =>
    have hk := (okI_flat hmay.2.2 y hy).1
    ⟨fun W hW => refHeadM y W ((hp.all y hy).on hW) (hf.all y hy).1 hk (hsn.2 y hy), hb_le (hf.all y hy).1 (okF_len hk) (hsn.2 y hy), by rw [cInner_enc (okF_len hk), hZ0, List.append_assoc]⟩
  have HLI := Lib.hid hp.list
  have HNL := Lib.hid hf.len
  obtain ⟨B0, hB0⟩ : ∃ B0, B0 = (H0 ++ I0) ++ (L.map Prod.fst).flatMap cInner.enc := ⟨_, rfl⟩
  rw [HE.out, ← hB0]
  have HB0 := Lib.hid hB0
  clear hp hf hq hg hmay hsn hH0 hI0 hZ0 HE hB0
  obtain ⟨f, ⟨ea, ec, sb, sa, sc, ia, n, ic⟩⟩ := x
  have hn : L.length = n := HNL.out
  subst hn
  clear HNL
  dsimp only at HIN HLI
  go_enter Tryz.func6, Tryz.ntmps6
  go_wp2_with (first | (go_at_call 18; refine Calls.mono (HMY.out _ HB.out.beh) ?_; rintro e wy ⟨rfl, hb⟩; (have HB := Lib.hid (HB.out.on hb)); clear hb) | (go_at_call 19; refine Calls.mono (HLG.out _ HB.out.beh) ?_; rintro e wy ⟨rfl, hb⟩; (have HB := Lib.hid (HB.out.on hb)); clear hb) | (apply Bh.load_bx 0 HB.out Tryz.underlying28; rfl; rfl; rfl; rfl; rfl; kernel_rfl))
  clear HMY HLG
  have HB := Lib.hid (HB.out.on (below_drew wy))
  refine wp_region_held_drew (S := fun W => W.heap[w.heap.size]? = some (Mr.obj (f, ⟨ea, ec, sb, sa, sc, ia, L.length, ic⟩))) (by kernel_rfl) (HB.out.b0) (fun hS => ?_)
  generalize World.drew wy = wd at HB hS ⊢
  (try simp only [Act.put, List.getElem_toArray, List.getElem_cons_succ, List.getElem_cons_zero, List.setIfInBounds_toArray, List.set_cons_zero, List.set_cons_succ])
  refine wpAnyH_take (i := 0) (v := ?_) rfl (by kernel_rfl) (by kernel_rfl) (by kernel_rfl) (fun _ _ _ h => h) (Or.inl ⟨by rfl, ?_⟩) hS ?_
  rotate_left
  · intro W hW; (obtain ⟨c0, c1, c2, c3, c4, c5, c6, c7, c8, c9, c10, c11, c12, c13, c14, c15⟩ := cells16m (x := (f, ⟨ea, ec, sb, sa, sc, ia, L.length, ic⟩)) hW); go_simp; try with_reducible rfl
  (try simp only [Act.put, List.getElem_toArray, List.getElem_cons_zero, List.setIfInBounds_toArray, List.set_cons_zero, List.set_cons_succ])
  refine wpAnyH_take (i := 2) (v := ?_) rfl (by kernel_rfl) (by kernel_rfl) (by kernel_rfl) (fun _ _ _ h => h) (Or.inl ⟨by rfl, ?_⟩) hS ?_
  rotate_left
  · intro W hW; go_simp; try with_reducible rfl
  (try simp only [Act.put, List.getElem_toArray, List.getElem_cons_succ, List.getElem_cons_zero, List.setIfInBounds_toArray, List.set_cons_zero, List.set_cons_succ])
  refine wpAnyH_take (i := 3) (v := ?_) rfl (by kernel_rfl) (by kernel_rfl) (by kernel_rfl) (fun _ _ _ h => h) (Or.inl ⟨by rfl, ?_⟩) hS ?_
  rotate_left
  · intro W hW; (obtain ⟨c0, c1, c2, c3, c4, c5, c6, c7, c8, c9, c10, c11, c12, c13, c14, c15⟩ := cells16m (x := (f, ⟨ea, ec, sb, sa, sc, ia, L.length, ic⟩)) hW); go_simp; try with_reducible rfl
  (try simp only [Act.put, List.getElem_toArray, List.getElem_cons_succ, List.getElem_cons_zero, List.setIfInBounds_toArray, List.set_cons_zero, List.set_cons_succ])
  refine wpAnyH_take (i := 4) (v := ?_) rfl (by kernel_rfl) (by kernel_rfl) (by kernel_rfl) (fun _ _ _ h => h) (Or.inl ⟨by rfl, ?_⟩) hS ?_
  rotate_left
  · intro W hW; go_simp; try with_reducible rfl
  (try simp only [Act.put, List.getElem_toArray, List.getElem_cons_succ, List.getElem_cons_zero, List.setIfInBounds_toArray, List.set_cons_zero, List.set_cons_succ])
  refine wpAnyH_ready (rs := [1]) (by kernel_rfl) (by simp) ?_
  refine AllReadyH.cons rfl (fun K hK => ?_) (AllReadyH.nil)
  all_goals (try simp only [List.getElem_toArray, List.getElem_cons_succ, List.getElem_cons_zero])
  go_simp
  go_at_call 20
  refine Calls.mono (HHD.out _ HB.out.beh) ?_
  rintro x_ w3 ⟨b1, a1, u1, rfl, ho, hb, hk, hb2⟩
  have HA := Lib.hid (Ac.start (w0 := wd) ho hb hk hb2 [(w.heap.size, (Mr.obj (f, ⟨ea, ec, sb, sa, sc, ia, L.length, ic⟩)))] (fun n o hn => by rw [List.mem_singleton] at hn; injection hn with h1 h2; subst h1 h2; exact HB.out.b0))
  refine hK.out _ _ ((HA.out.box _ _ (List.mem_cons_self ..)).1) (fun hS => ?_)
  clear hK K
  (try simp only [Act.put, List.getElem_toArray, List.getElem_cons_succ, List.getElem_cons_zero, List.setIfInBounds_toArray, List.set_cons_zero, List.set_cons_succ])
  clear ho hb hk hb2
  refine wpAnyH_ready (rs := [5]) (by kernel_rfl) (by simp) ?_
  refine AllReadyH.cons rfl (fun K hK => ?_) (AllReadyH.nil)
  all_goals (try simp only [List.getElem_toArray, List.getElem_cons_succ, List.getElem_cons_zero])
  go_simp
  go_at_call 21
  refine Calls.mono (HIN.out _) ?_
  rintro x_ w4 ⟨b2, a2, u2, rfl, ho, _, hk, _⟩
  have HA := Lib.hid (HA.out.on (beh_kept hk))
  have HO := Lib.hid ho
  refine hK.out _ _ ((HA.out.box _ _ (List.mem_cons_self ..)).1) (fun hS => ?_)
  clear hK K
  (try simp only [Act.put, List.getElem_toArray, List.getElem_cons_succ, List.getElem_cons_zero, List.setIfInBounds_toArray, List.set_cons_zero, List.set_cons_succ])
  clear ho hk
  refine wpAnyH_ready (rs := [6]) (by kernel_rfl) (by simp) ?_
  refine AllReadyH.cons rfl (fun K hK => ?_) (AllReadyH.nil)
  all_goals (try simp only [List.getElem_toArray, List.getElem_cons_succ, List.getElem_cons_zero])
  rw [if_pos (by rfl)]
  refine wp_append_bytes _ _ 25 rfl 5 i0 Tryz.underlying25 hi0 hz0 hz1 hz2 b1 a1 u1 H0 _ rfl (HA.out.own) rfl b2 a2 u2 I0 I0.length rfl HO.out.src rfl (by omega) ?_
  intro b3_ a3 u3 w5 h2 h3 h4 h9
  obtain ⟨b3, h8⟩ := HA.out.app h2 h3 h4
  have HA := Lib.hid h8
  clear h2 h3 h4 h8 h9
  generalize hP3 : H0 ++ I0 = P3 at HA ⊢
  have HP3 := Lib.hid hP3
  have p3l : P3.length ≤ 520010 := by rw [← hP3, List.length_append]; omega
  clear hP3
  refine hK.out _ _ ((HA.out.box _ _ (List.mem_cons_self ..)).1) (fun hS => ?_)
  clear hK K
  (try simp only [Act.put, List.setIfInBounds_toArray, List.set_cons_zero, List.set_cons_succ])
  clear HO
  refine wpAnyH_take (i := 7) (v := ?_) rfl (by kernel_rfl) (by kernel_rfl) (by kernel_rfl) (fun _ _ _ h => h) (Or.inl ⟨by rfl, ?_⟩) hS ?_
  rotate_left
  · intro W hW; go_simp; try with_reducible rfl
  (try simp only [Act.put, List.getElem_toArray, List.getElem_cons_succ, List.getElem_cons_zero, List.setIfInBounds_toArray, List.set_cons_zero, List.set_cons_succ])
  refine wpAnyH_done (by kernel_rfl) ?_ _
  go_wp2_with fail
  go_loopw [4, 5] (fun v i wr => ∃ k : Nat, k ≤ L.length ∧ i = .int .i64 k ∧ ∃ (P : List Nat) (b : Nat) (a : Option Addr) (u : Nat), v = .slice a P.length u ∧ P.length ≤ 520010 + k * 530000 ∧ Hid (P = (H0 ++ I0) ++ ((L.take k).map Prod.fst).flatMap cInner.enc) ∧ Hid (Ac wd wr P b u a [(w.heap.size, (Mr.obj (f, ⟨ea, ec, sb, sa, sc, ia, L.length, ic⟩)))])) (fun _ i _ => L.length - (intOf i).toNat)
  case atStart => exact ⟨0, by omega, rfl, P3, b3, a3, u3, rfl, by omega, Lib.hid (by rw [HP3.out]; simp), HA.out⟩
  case round =>
    clear HA HP3 p3l
    obtain ⟨k, hk, rfl, P, b2, a2, u2, rfl, hpl, HP, HA⟩ := hrel
    have hb : Below w.heap.size w wr := HB.out.beh.trans (beh_kept HA.out.kept)
    by_cases hlt : k < L.length
    · obtain ⟨cS, oS, rfl, _⟩ := MsgsAt.cells HLI.out (by omega)
      obtain ⟨_, _, he, hc⟩ := MsgsAt.cells (HLI.out.below hb) (by omega)
      cases he
      have hc := hc k hlt
      obtain ⟨hy1, hy2, hy3⟩ := HALL.out _ (getD_mem hlt)
      have HT := Lib.hid (take_fst hlt)
      have HBW := Lib.hid hb
      (obtain ⟨c0, c1, c2, c3, c4, c5, c6, c7, c8, c9, c10, c11, c12, c13, c14, c15⟩ := cells16m (x := (f, ⟨ea, ec, sb, sa, sc, (some ⟨cS, oS, none⟩), L.length, ic⟩)) (HA.out.box _ _ (List.mem_cons_self ..)).1)
      clear hb
      generalize L.getD k Mr.zero = y at *
      obtain ⟨Q, hQ⟩ : ∃ Q, Q = mHead y.1 ++ Pk.textB y.1.snap := ⟨_, rfl⟩
      rw [← hQ] at hy2 hy3
      have HK : Hid (Calls Tryz.prog 20 #[y.val] wr (Pk.NewB Q wr)) := by rw [hQ]; exact hy1 wr HBW.out
      have HTT : Hid ((P ++ Q) ++ Z0 = (H0 ++ I0) ++ ((L.take (k + 1)).map Prod.fst).flatMap cInner.enc) := Lib.hid (by rw [HT.out, hy3, HP.out]; simp only [List.append_assoc])
      clear hy1 hy3 hQ HT HP
      obtain ⟨d0, d1, d2, d3, d4, d5, d6, d7, d8, d9, d10, d11, d12, d13, d14, d15⟩ := hc
      go_wp2_with fail
      refine Calls.mono HK.out ?_
      rintro e w3 ⟨b3, a3, u3, rfl, ho, hb, hk3, hb2⟩
      have HA := Lib.hid (HA.out.on (beh_kept hk3))
      have HO := Lib.hid ho
      clear ho hb hk3 hb2 HK c0 c1 c2 c3 c4 c5 c6 c7 c8 c9 c10 c11 c12 c13 c14 c15 d0 d1 d2 d3 d4 d5 d6 d7 d8 d9 d10 d11 d12 d13 d14 d15
      go_wp2_with (at_builtin; refine wpList_append_bytes rfl _ _ 25 rfl 5 i0 Tryz.underlying25 hi0 hz0 hz1 hz2 b2 a2 u2 _ _ rfl (HA.out).own rfl b3 a3 u3 _ _ rfl HO.out.src rfl (by omega) ?_; (intro b4_ a4 u4 w4 h2 h3 h4 h9); (obtain ⟨b4, h5⟩ := HA.out.app h2 h3 h4); (have HA := Lib.hid h5); (clear h2 h3 h4 h5 h9); (generalize hP : P ++ Q = P4 at HA ⊢); (have HP4 := Lib.hid hP); (have p4l : P4.length ≤ 520010 + k * 530000 + 520000 := by rw [← hP, List.length_append]; omega); (clear hP))
      refine Calls.mono (HZ0.out _) ?_
      rintro e w5 ⟨b5, a5, u5, rfl, ho, hb, hk3, hb2⟩
      have HA := Lib.hid (HA.out.on (beh_kept hk3))
      have HO := Lib.hid ho
      clear ho hb hk3 hb2
      go_wp2_with (at_builtin; refine wpList_append_bytes rfl _ _ 25 rfl 5 i0 Tryz.underlying25 hi0 hz0 hz1 hz2 b4 a4 u4 _ _ rfl (HA.out).own rfl b5 a5 u5 _ _ rfl HO.out.src rfl (by omega) ?_; (intro b6_ a6 u6 w6 h2 h3 h4 h9); (obtain ⟨b6, h5⟩ := HA.out.app h2 h3 h4); (have HA := Lib.hid h5); (clear h2 h3 h4 h5 h9); (generalize hP : P4 ++ Z0 = P6 at HA ⊢); (have HP6 := Lib.hid hP); (have p6l : P6.length ≤ 520010 + k * 530000 + 520010 := by rw [← hP, List.length_append]; omega); (clear hP))
      go_roundw
      case rel => exact ⟨k + 1, by omega, by go_num, P6, b6, a6, u6, rfl, by omega, Lib.hid (by rw [← HP6.out, ← HP4.out]; exact HTT.out), HA.out⟩
      case measure => simp [intOf]; omega
    · obtain rfl : k = L.length := by omega
      have HQ : Hid (P = B0) := Lib.hid (by have := HP.out; rw [List.take_length] at this; rw [this, HB0.out])
      have hp9 : P.length ≤ 9100000 := by omega
      (obtain ⟨c0, c1, c2, c3, c4, c5, c6, c7, c8, c9, c10, c11, c12, c13, c14, c15⟩ := cells16m (x := (f, ⟨ea, ec, sb, sa, sc, ia, L.length, ic⟩)) (HA.out.box _ _ (List.mem_cons_self ..)).1)
      clear HP hpl hb
      go_wp2_with fail
      by_cases hn : P.length ≤ 16384
      · refine Calls.mono (sized_yes hn _) ?_
        rintro e w8 ⟨rfl, rfl⟩
        go_wp2_with fail
        go_ret2
        rw [← HQ.out]
        exact enc_yes hn HA.out.own (by have := HA.out.lo; have := HB.out.beh.size; omega) (HB.out.beh.trans (beh_kept HA.out.kept))
      · refine Calls.mono (sized_no hn _) ?_
        rintro e w8 ⟨rfl, rfl⟩
        go_wp2_with fail
        go_ret2
        rw [← HQ.out]
        exact enc_no hn (HB.out.beh.trans (beh_kept HA.out.kept))
end Go.Proofs.YtaengjgmchpabaaGreat.Wr
end
section
/- A message that came in and is not too heavy fits. -/
namespace Go.Proofs.YtaengjgmchpabaaGreat.Wr
open Go Go.RowKit Vl Kv Ss Cn Lg Li
theorem MsgIn.on {w w' : World} {x : Mr} {L : List Mr} (h : MsgIn w x L) (hb : Below w.heap.size w w') : MsgIn w' x L := ⟨h.flat.on hb, h.len, h.list.below hb, fun y hy => by
  obtain ⟨h1, K, h2, h3, h4⟩ := h.all y hy
  exact ⟨h1.on hb, K, h2, h3.below hb, fun z hz => (h4 z hz).on hb⟩⟩
theorem MsgIn.at_ {w : World} {x : Mr} {L : List Mr} (h : MsgIn w x L) : MsgAt w x L := ⟨h.flat, h.len, h.list, fun y hy => (h.all y hy).1⟩
theorem heavyF_no {f : Fl} (h : heavyF f = false) : heavyL f.ents = false ∧ f.snap.length ≤ 32768 := by
  unfold heavyF at h
  rw [Bool.or_eq_false_iff] at h
  exact ⟨h.1, by have := of_decide_eq_false h.2; omega⟩
theorem Light.fit {w : World} {x : Mr} {L : List Mr} (h : Light x L) (hm : MsgIn w x L) (rx : RF x.1) (rl : ∀ y ∈ L, RF y.1) : FitMs x L :=
  ⟨rx.fit (heavyF_no h.self).1 (heavyF_no h.self).2, hm.len, by have := h.len; omega, fun y hy => ⟨(rl y hy).fit (heavyF_no (h.all y hy).1).1 (heavyF_no (h.all y hy).1).2, by have := (h.all y hy).2; omega⟩⟩
end Go.Proofs.YtaengjgmchpabaaGreat.Wr
end
