import Derived.Test.YtaifjkilmdnfbaaLogPartM
import Derived.Test.YtaifjkilmdnfbaaMergeLgI
import Derived.Test.YtaifjkilmdnfbaaMergeLgO
import Derived.Test.YtaifjkilmdnfbaaMergeLgR
/- The law LogsParts. -/
namespace Go.Proofs.Ytaifjkilmdnfbaa.Lg
open Go Go.RowKit Vl Kv Ss Cn Mem Li Nm
attribute [local go_sem] Nm.run_bits Nm.run_frombits run_store_float
attribute [local irreducible] wpQuiet
set_option maxHeartbeats 12800000 in
set_option maxRecDepth 100000 in
theorem LogsParts_law (h : H) (p : Hp) (i : Int) (a : Option Addr) (cap : Nat) (l : List E) (at_ : Int) (w : World) (hh : HardAt w h p) (hl : EntAt w a cap l) :
    Calls Try.prog 9 #[h.val p, .int .i64 i, .slice a l.length cap, .int .i64 at_] w fun e w' => e = .returned (.bool true) ∧ Below w.heap.size w w' := by
  have HB := Lib.hid (Bh.Bx.one w (h.obj p))
  have HV1 : Hid (∀ W, Kv.Beh w W → Calls Try.prog 11 #[h.val p] W fun e w' => e = .returned (.bool (heavyL h.log || decide (32768 < (h.snap.length : Int)))) ∧ Below W.heap.size W w') := fun W hW => heavy_any h p W (hh.on hW)
  have HV2 : Hid (∀ W, Kv.Beh w W → Calls Try.prog 36 #[.slice a l.length cap] W fun e w' => e = .returned (.bool (heavyL l)) ∧ Below W.heap.size W w') := fun W hW => heavyEnts_any a cap l W (hl.below hW)
  have HWK := fun w => Lib.hid (wakes_any w)
  (obtain ⟨c0, c1, c2, c3, c4, c5, c6, c7, c8, c9⟩ := cells10h (h := h) (p := p) HB.out.b0)
  have HA1 : Hid (HardAt w h p ∧ EntAt w a cap l) := ⟨hh, hl⟩
  clear hh hl
  cases k1 : (heavyL h.log || decide (32768 < (h.snap.length : Int)))
  case true =>
    rw [k1] at HV1
    go_enter Try.func9, Try.ntmps9
    go_wp2_with (first
      | (go_at_call 11; (with_reducible refine Calls.mono (HV1.out _ ?_) ?_); exact HB.out.beh; rintro e wy ⟨rfl, hb⟩; (have HB := Lib.hid (HB.out.on hb)); clear hb; (obtain ⟨c0, c1, c2, c3, c4, c5, c6, c7, c8, c9⟩ := cells10h (h := h) (p := p) HB.out.b0))
      | (go_at_call 36; (with_reducible refine Calls.mono (HV2.out _ ?_) ?_); exact HB.out.beh; rintro e wy ⟨rfl, hb⟩; (have HB := Lib.hid (HB.out.on hb)); clear hb; (obtain ⟨c0, c1, c2, c3, c4, c5, c6, c7, c8, c9⟩ := cells10h (h := h) (p := p) HB.out.b0))
      | (apply Bh.load_bx 0 HB.out Try.underlying27; rfl; rfl; rfl; rfl; rfl; kernel_rfl))
    go_ret
    exact ⟨rfl, HB.out.beh⟩
  cases k2 : heavyL l
  case true =>
    rw [k1] at HV1
    rw [k2] at HV2
    go_enter Try.func9, Try.ntmps9
    go_wp2_with (first
      | (go_at_call 11; (with_reducible refine Calls.mono (HV1.out _ ?_) ?_); exact HB.out.beh; rintro e wy ⟨rfl, hb⟩; (have HB := Lib.hid (HB.out.on hb)); clear hb; (obtain ⟨c0, c1, c2, c3, c4, c5, c6, c7, c8, c9⟩ := cells10h (h := h) (p := p) HB.out.b0))
      | (go_at_call 36; (with_reducible refine Calls.mono (HV2.out _ ?_) ?_); exact HB.out.beh; rintro e wy ⟨rfl, hb⟩; (have HB := Lib.hid (HB.out.on hb)); clear hb; (obtain ⟨c0, c1, c2, c3, c4, c5, c6, c7, c8, c9⟩ := cells10h (h := h) (p := p) HB.out.b0))
      | (apply Bh.load_bx 0 HB.out Try.underlying27; rfl; rfl; rfl; rfl; rfl; kernel_rfl))
    go_ret
    exact ⟨rfl, HB.out.beh⟩
  have hl2 := played_l k2
  have hl1 := (played k1).log
  have hs1 := (played k1).snap
  rw [k1] at HV1
  rw [k2] at HV2
  have HP : Hid (∀ W, Kv.Beh w W → Calls Try.prog 42 #[h.val p, .int .i64 i, .slice a l.length cap] W (HardTold (h.put i l) (h.putOk i l) W)) := fun W hW => Put_any h p i a cap l W (HA1.out.1.on hW) (HA1.out.2.below hW) (by omega) (by omega) (by omega)
  clear k1 k2
  generalize hC : h.putOk i l = C at *
  by_cases hc : C = 0
  case neg =>
    have b1 := beq_eq_false_iff_ne.2 hc
    have b2 : (C != 0) = true := by rw [bne, b1]; rfl
    generalize h.put i l = X at *
    clear hc hC
    go_enter Try.func9, Try.ntmps9
    go_wp2_with (first
      | (go_at_call 11; (with_reducible refine Calls.mono (HV1.out _ ?_) ?_); exact HB.out.beh; rintro e wy ⟨rfl, hb⟩; (have HB := Lib.hid (HB.out.on hb)); clear hb; (obtain ⟨c0, c1, c2, c3, c4, c5, c6, c7, c8, c9⟩ := cells10h (h := h) (p := p) HB.out.b0))
      | (go_at_call 36; (with_reducible refine Calls.mono (HV2.out _ ?_) ?_); exact HB.out.beh; rintro e wy ⟨rfl, hb⟩; (have HB := Lib.hid (HB.out.on hb)); clear hb; (obtain ⟨c0, c1, c2, c3, c4, c5, c6, c7, c8, c9⟩ := cells10h (h := h) (p := p) HB.out.b0))
      | (apply Bh.load_bx 0 HB.out Try.underlying27; rfl; rfl; rfl; rfl; rfl; kernel_rfl))
    refine Calls.mono (HP.out _ HB.out.beh) ?_
    rintro e w1 ⟨xq, rfl, hm⟩
    have HB := Lib.hid (HB.out.on hm.beh)
    have HX := Lib.hid (Bh.Bx.one w1 (H.zero.obj Hp.none))
    clear hm HV1 HV2
    go_wp2_with (first
      | (apply Bh.store_bx 10 0 HX.out; rfl; rfl; rfl; rfl; rfl; rfl; kernel_rfl; rfl; rfl; intro wz hz; have HX := Lib.hid hz; (have HB := Lib.hid (HB.out.on hz.beh)); clear hz)
      | (go_at_call 35; refine ((HWK _).out).mono ?_; rintro e wy ⟨rfl, hb⟩; (have HB := Lib.hid (HB.out.on hb)); clear hb))
    go_ret
    exact ⟨rfl, HB.out.beh⟩
  subst hc
  -- the part's length
  have hu0 : 0 ≤ IntKind.u64.wrap at_ := by unfold IntKind.wrap; simp [IntKind.bits, IntKind.signed]; omega
  have hu1 : 0 ≤ IntKind.u64.wrap at_ % ((l.length : Int) + 1) := Int.emod_nonneg _ (by omega)
  have hu2 : IntKind.u64.wrap at_ % ((l.length : Int) + 1) < (l.length : Int) + 1 := Int.emod_lt_of_pos _ (by omega)
  obtain ⟨k, hk⟩ : ∃ k : Nat, wrap64 ((IntKind.u64.wrap at_).tmod ((l.length : Int) + 1)) = k := ⟨(IntKind.u64.wrap at_ % ((l.length : Int) + 1)).toNat, by
    rw [Int.tmod_eq_emod_of_nonneg hu0]
    unfold wrap64; omega⟩
  have hk2 : k ≤ l.length := by
    rw [Int.tmod_eq_emod_of_nonneg hu0] at hk
    unfold wrap64 at hk; omega
  obtain ⟨q1, q2, q3⟩ := put_parts hC hk2
  obtain ⟨hr, ht, hy⟩ := put_code hC
  obtain ⟨o1, o2⟩ := off_ok ht
  have n1 := right_num hr (by omega)
  have b1 := n1.lo
  have b2 := n1.hi
  have hYl := putL_length (L := h.log) (l := l.take k) o2
  have hXl := putL_length (L := h.log) (l := l) o2
  have hlt : (l.take k).length = k := by rw [List.length_take]; omega
  have eY : (h.put i (l.take k)).log.length ≤ 400 := by rw [put_is q1]; show (putL h.log (h.off i) (l.take k)).length ≤ 400; omega
  have eX : (h.put i l).log.length ≤ 400 := by rw [put_is hC]; show (putL h.log (h.off i) l).length ≤ 400; omega
  have eYs : (h.put i (l.take k)).snap.length ≤ 32768 := by rw [put_is q1]; exact hs1
  have eXs : (h.put i l).snap.length ≤ 32768 := by rw [put_is hC]; exact hs1
  obtain ⟨n', hs7, hn', he7⟩ := slice_to (n := l.length) HA1.out.2 k hk2
  obtain ⟨a3, n3, c3, hs10, hn3, he10⟩ := slice_from HA1.out.2 k hk2
  have HP2 : Hid (∀ W, Kv.Beh w W → Calls Try.prog 42 #[h.val p, .int .i64 i, .slice a n' cap] W (HardTold (h.put i (l.take k)) 0 W)) := fun W hW => by
    have := Put_any h p i a cap (l.take k) W (HA1.out.1.on hW) (he7 W hW) (by omega) (by omega) (by omega)
    rwa [q1, ← hn'] at this
  have HP3 : Hid (∀ W yq, Kv.Beh w W → HardAt W (h.put i (l.take k)) yq → Calls Try.prog 42 #[(h.put i (l.take k)).val yq, .int .i64 (i + (k : Int)), .slice a3 n3 c3] W (HardTold (h.put i l) 0 W)) := fun W yq hW hY => by
    have := Put_any (h.put i (l.take k)) yq (i + (k : Int)) a3 c3 (l.drop k) W hY (he10 W hW) (by omega) (by omega) (by rw [List.length_drop]; omega)
    rwa [q2, q3, ← hn3] at this
  have i1 : h.base ≤ i := by omega
  have i2 : i ≤ h.base + 200 := by omega
  clear hu0 q1 q2 q3 hr ht hy o1 o2 n1 hYl hXl hlt eY eYs hn' hn3 he7 he10 hu1 hu2 hC
  generalize h.put i l = X at *
  generalize h.put i (l.take k) = Y at *
  have w2 : IntKind.i64.wrap (i + (k : Int)) = i + (k : Int) := wrap_in (by omega) (by omega)
  have w1 : IntKind.u64.wrap ((l.length : Int) + 1) = (l.length : Int) + 1 := by unfold IntKind.wrap; simp [IntKind.bits]; omega
  go_enter Try.func9, Try.ntmps9
  go_wp2_with (first
    | (go_at_call 11; (with_reducible refine Calls.mono (HV1.out _ ?_) ?_); exact HB.out.beh; rintro e wy ⟨rfl, hb⟩; (have HB := Lib.hid (HB.out.on hb)); clear hb; (obtain ⟨c0, c1, c2, c3, c4, c5, c6, c7, c8, c9⟩ := cells10h (h := h) (p := p) HB.out.b0))
    | (go_at_call 36; (with_reducible refine Calls.mono (HV2.out _ ?_) ?_); exact HB.out.beh; rintro e wy ⟨rfl, hb⟩; (have HB := Lib.hid (HB.out.on hb)); clear hb; (obtain ⟨c0, c1, c2, c3, c4, c5, c6, c7, c8, c9⟩ := cells10h (h := h) (p := p) HB.out.b0))
    | (apply Bh.load_bx 0 HB.out Try.underlying27; rfl; rfl; rfl; rfl; rfl; kernel_rfl))
  refine Calls.mono (HP.out _ HB.out.beh) ?_
  rintro e w1 ⟨xq, rfl, hm⟩
  have HB := Lib.hid (HB.out.on hm.beh)
  have HX := Lib.hid (Bh.Bx.one w1 (H.zero.obj Hp.none))
  have HM := Lib.hid hm
  clear hm HV1 HV2
  go_wp2_with (first
    | (apply Bh.store_bx 10 0 HX.out; rfl; rfl; rfl; rfl; rfl; rfl; kernel_rfl; rfl; rfl; intro wz hz; have HX := Lib.hid hz; (have HB := Lib.hid (HB.out.on hz.beh)); clear hz; (obtain ⟨x0, x1, x2, x3, x4, x5, x6, x7, x8, x9⟩ := cells10h (h := X) (p := xq) HX.out.b0); (obtain ⟨c0, c1, c2, c3, c4, c5, c6, c7, c8, c9⟩ := cells10h (h := h) (p := p) HB.out.b0))
    | (apply Bh.load_bx 0 HX.out Try.underlying27; rfl; rfl; rfl; rfl; rfl; kernel_rfl))
  refine wp_region_held_drew (S := fun W => Bh.Bx w [h.obj p] W ∧ Bh.Bx w1 [X.obj xq] W) (by kernel_rfl) (⟨HB.out.drew, HX.out.drew⟩) (fun hS => ?_)
  generalize World.drew wz = wd at hS ⊢
  (try simp only [Act.put, List.getElem_toArray, List.getElem_cons_succ, List.getElem_cons_zero, List.setIfInBounds_toArray, List.set_cons_zero, List.set_cons_succ])
  refine wpAnyH_take (i := 1) (v := ?_) rfl (by kernel_rfl) (by kernel_rfl) (by kernel_rfl) (fun _ _ _ h => h) (Or.inl ⟨by rfl, ?_⟩) hS ?_
  rotate_left
  · intro W hW; go_simp; try with_reducible rfl
  (try simp only [Act.put, List.getElem_toArray, List.getElem_cons_succ, List.getElem_cons_zero, List.setIfInBounds_toArray, List.set_cons_zero, List.set_cons_succ])
  refine wpAnyH_take (i := 2) (v := ?_) rfl (by kernel_rfl) (by kernel_rfl) (by kernel_rfl) (fun _ _ _ h => h) (Or.inl ⟨by rfl, ?_⟩) hS ?_
  rotate_left
  · intro W hW; go_simp; try with_reducible rfl
  (try simp only [Act.put, List.getElem_toArray, List.getElem_cons_succ, List.getElem_cons_zero, List.setIfInBounds_toArray, List.set_cons_zero, List.set_cons_succ])
  refine wpAnyH_take (i := 3) (v := ?_) rfl (by kernel_rfl) (by kernel_rfl) (by kernel_rfl) (fun _ _ _ h => h) (Or.inl ⟨by rfl, ?_⟩) hS ?_
  rotate_left
  · intro W hW; go_simp; try with_reducible rfl
  (try simp only [Act.put, List.getElem_toArray, List.getElem_cons_succ, List.getElem_cons_zero, List.setIfInBounds_toArray, List.set_cons_zero, List.set_cons_succ])
  refine wpAnyH_take (i := 4) (v := ?_) rfl (by kernel_rfl) (by kernel_rfl) (by kernel_rfl) (fun _ _ _ h => h) (Or.inl ⟨by rfl, ?_⟩) hS ?_
  rotate_left
  · intro W hW; go_simp; try with_reducible rfl
  (try simp only [Act.put, List.getElem_toArray, List.getElem_cons_succ, List.getElem_cons_zero, List.setIfInBounds_toArray, List.set_cons_zero, List.set_cons_succ])
  refine' wpAnyH_take (i := 0) (v := _) rfl (by kernel_rfl) (by kernel_rfl) (by kernel_rfl) (fun _ _ _ h => h) (Bh.yif_load_bx 0 (fun _ h => h.1) Try.underlying27 rfl rfl rfl rfl rfl (by kernel_rfl)) hS ?_
  (try simp only [Act.put, List.getElem_toArray, List.getElem_cons_zero, List.setIfInBounds_toArray, List.set_cons_zero, List.set_cons_succ])
  refine wpAnyH_ready (rs := [5, 9]) (by kernel_rfl) (by simp) ?_
  refine AllReadyH.cons rfl (fun K hK => ?_) (AllReadyH.cons rfl (fun K hK => ?_) (AllReadyH.nil))
  all_goals (try simp only [List.getElem_toArray, List.getElem_cons_succ, List.getElem_cons_zero])
  focus
    go_simp
    go_at_call 42
    refine Calls.mono (HP2.out _ hS.1.beh) ?_
    rintro e wb ⟨yq, rfl, hm⟩
    have hb : Below _ _ _ := hm.beh
    refine hK.out _ _ (⟨hS.1.on hb, hS.2.on hb⟩) (fun hS => ?_)
    clear hK K
    (try simp only [Act.put, List.getElem_toArray, List.getElem_cons_succ, List.getElem_cons_zero, List.setIfInBounds_toArray, List.set_cons_zero, List.set_cons_succ])
    refine wpAnyH_take (i := 6) (v := ?_) rfl (by kernel_rfl) (by kernel_rfl) (by kernel_rfl) (fun _ _ _ h => h) (Or.inl ⟨by rfl, ?_⟩) hS ?_
    rotate_left
    · intro W hW; go_simp; try with_reducible rfl
    (try simp only [Act.put, List.getElem_toArray, List.getElem_cons_succ, List.getElem_cons_zero, List.setIfInBounds_toArray, List.set_cons_zero, List.set_cons_succ])
    refine wpAnyH_take (i := 7) (v := ?_) rfl (by kernel_rfl) (by kernel_rfl) (by kernel_rfl) (fun _ _ _ h => h) (Or.inl ⟨by rfl, ?_⟩) hS ?_
    rotate_left
    · intro W hW; go_simp; try with_reducible rfl
    (try simp only [Act.put, List.getElem_toArray, List.getElem_cons_succ, List.getElem_cons_zero, List.setIfInBounds_toArray, List.set_cons_zero, List.set_cons_succ])
    refine wpAnyH_take (i := 8) (v := ?_) rfl (by kernel_rfl) (by kernel_rfl) (by kernel_rfl) (fun _ _ _ h => h) (Or.inl ⟨by rfl, ?_⟩) hS ?_
    rotate_left
    · intro W hW; go_simp; try with_reducible rfl
    (try simp only [Act.put, List.getElem_toArray, List.getElem_cons_succ, List.getElem_cons_zero, List.setIfInBounds_toArray, List.set_cons_zero, List.set_cons_succ])
    refine wpAnyH_ready (rs := [9]) (by kernel_rfl) (by simp) ?_
    refine AllReadyH.cons rfl (fun K hK => ?_) (AllReadyH.nil)
    all_goals (try simp only [List.getElem_toArray, List.getElem_cons_succ, List.getElem_cons_zero])
    have hB := hS
    refine Bh.step_alloc_bx rfl (H.zero.obj Hp.none) (by go_simp; rfl) ?_
    intro wa ha
    refine hK.out _ _ (⟨hS.1.on ha.beh, hS.2.on ha.beh⟩) (fun hS => ?_)
    clear hK K
    (try simp only [Act.put, List.setIfInBounds_toArray, List.set_cons_zero, List.set_cons_succ])
    refine wpAnyH_ready (rs := [10]) (by kernel_rfl) (by simp) ?_
    refine AllReadyH.cons rfl (fun K hK => ?_) (AllReadyH.nil)
    all_goals (try simp only [List.getElem_toArray, List.getElem_cons_succ, List.getElem_cons_zero])
    (apply Bh.step_store_bx 10 0 ha; rfl; rfl; rfl; rfl; rfl; rfl; kernel_rfl; rfl; rfl)
    intro wz2 hz he
    refine hK.out _ _ (⟨hB.1.on hz.beh, hB.2.on hz.beh⟩) (fun hS => ?_)
    clear hK K
    (try simp only [Act.put])
    refine wpAnyH_take (i := 11) (v := ?_) rfl (by kernel_rfl) (by kernel_rfl) (by kernel_rfl) (fun _ _ _ h => h) (Or.inl ⟨by rfl, ?_⟩) hS ?_
    rotate_left
    · intro W hW; go_simp; try with_reducible rfl
    (try simp only [Act.put, List.getElem_toArray, List.getElem_cons_succ, List.getElem_cons_zero, List.setIfInBounds_toArray, List.set_cons_zero, List.set_cons_succ])
    refine wpAnyH_done (by kernel_rfl) ?_ _
    have HYA := Lib.hid (hm.later hz.beh)
    have HYB : Hid (Bh.Bx wb [Y.obj yq] wz2) := hz
    have HSS := Lib.hid hS
    clear hS hz he ha hb hm hB
  rotate_left
  focus
    have hD := hS
    refine Bh.step_alloc_bx rfl (H.zero.obj Hp.none) (by go_simp; rfl) ?_
    intro wa ha
    refine hK.out _ _ (⟨hS.1.on ha.beh, hS.2.on ha.beh⟩) (fun hS => ?_)
    clear hK K
    (try simp only [Act.put, List.setIfInBounds_toArray, List.set_cons_zero, List.set_cons_succ])
    refine wpAnyH_ready (rs := [5]) (by kernel_rfl) (by simp) ?_
    refine AllReadyH.cons rfl (fun K hK => ?_) (AllReadyH.nil)
    all_goals (try simp only [List.getElem_toArray, List.getElem_cons_succ, List.getElem_cons_zero])
    go_simp
    go_at_call 42
    refine Calls.mono (HP2.out _ hS.1.beh) ?_
    rintro e wc ⟨yq, rfl, hm⟩
    have hb : Below _ _ _ := hm.beh
    have ha2 := ha.on hb
    have hB := hS
    refine hK.out _ _ (⟨hS.1.on hb, hS.2.on hb⟩) (fun hS => ?_)
    clear hK K
    (try simp only [Act.put, List.getElem_toArray, List.getElem_cons_succ, List.getElem_cons_zero, List.setIfInBounds_toArray, List.set_cons_zero, List.set_cons_succ])
    refine wpAnyH_take (i := 6) (v := ?_) rfl (by kernel_rfl) (by kernel_rfl) (by kernel_rfl) (fun _ _ _ h => h) (Or.inl ⟨by rfl, ?_⟩) hS ?_
    rotate_left
    · intro W hW; go_simp; try with_reducible rfl
    (try simp only [Act.put, List.getElem_toArray, List.getElem_cons_succ, List.getElem_cons_zero, List.setIfInBounds_toArray, List.set_cons_zero, List.set_cons_succ])
    refine wpAnyH_take (i := 7) (v := ?_) rfl (by kernel_rfl) (by kernel_rfl) (by kernel_rfl) (fun _ _ _ h => h) (Or.inl ⟨by rfl, ?_⟩) hS ?_
    rotate_left
    · intro W hW; go_simp; try with_reducible rfl
    (try simp only [Act.put, List.getElem_toArray, List.getElem_cons_succ, List.getElem_cons_zero, List.setIfInBounds_toArray, List.set_cons_zero, List.set_cons_succ])
    refine wpAnyH_take (i := 8) (v := ?_) rfl (by kernel_rfl) (by kernel_rfl) (by kernel_rfl) (fun _ _ _ h => h) (Or.inl ⟨by rfl, ?_⟩) hS ?_
    rotate_left
    · intro W hW; go_simp; try with_reducible rfl
    (try simp only [Act.put, List.getElem_toArray, List.getElem_cons_succ, List.getElem_cons_zero, List.setIfInBounds_toArray, List.set_cons_zero, List.set_cons_succ])
    refine wpAnyH_ready (rs := [10]) (by kernel_rfl) (by simp) ?_
    refine AllReadyH.cons rfl (fun K hK => ?_) (AllReadyH.nil)
    all_goals (try simp only [List.getElem_toArray, List.getElem_cons_succ, List.getElem_cons_zero])
    (apply Bh.step_store_bx 10 0 ha2; rfl; rfl; rfl; rfl; rfl; rfl; kernel_rfl; rfl; rfl)
    intro wz2 hz he
    refine hK.out _ _ (⟨hS.1.els he hD.1.lt, hS.2.els he hD.2.lt⟩) (fun hS => ?_)
    clear hK K
    (try simp only [Act.put])
    refine wpAnyH_take (i := 11) (v := ?_) rfl (by kernel_rfl) (by kernel_rfl) (by kernel_rfl) (fun _ _ _ h => h) (Or.inl ⟨by rfl, ?_⟩) hS ?_
    rotate_left
    · intro W hW; go_simp; try with_reducible rfl
    (try simp only [Act.put, List.getElem_toArray, List.getElem_cons_succ, List.getElem_cons_zero, List.setIfInBounds_toArray, List.set_cons_zero, List.set_cons_succ])
    refine wpAnyH_done (by kernel_rfl) ?_ _
    have HYA := Lib.hid (hm.els he (by have := ha.lt; simp at this ⊢; omega))
    have HYB : Hid (Bh.Bx wd [Y.obj yq] wz2) := hz
    have HSS := Lib.hid hS
    clear hS hz he ha ha2 hb hm hB hD
    obtain ⟨wb, hwb⟩ : ∃ x, x = wd := ⟨wd, rfl⟩
    subst hwb
  all_goals
    go_wp2_with fail
    have HB0 := Lib.hid HSS.out.1
    have HX0 := Lib.hid HSS.out.2
    clear HSS HB HX
    refine wp_region_held_drew (S := fun W => Bh.Bx w [h.obj p] W ∧ Bh.Bx w1 [X.obj xq] W ∧ Bh.Bx wb [Y.obj yq] W ∧ Kv.Beh wz2 W) (by kernel_rfl) (⟨HB0.out.drew, HX0.out.drew, HYB.out.drew, (Beh.start wz2).drew⟩) (fun hS => ?_)
    clear HB0 HX0
    generalize World.drew wz2 = wd at hS ⊢
    (try simp only [Act.put, List.getElem_toArray, List.getElem_cons_succ, List.getElem_cons_zero, List.setIfInBounds_toArray, List.set_cons_zero, List.set_cons_succ])
    refine wpAnyH_take (i := 1) (v := ?_) rfl (by kernel_rfl) (by kernel_rfl) (by kernel_rfl) (fun _ _ _ h => h) (Or.inl ⟨by rfl, ?_⟩) hS ?_
    rotate_left
    · intro W hW; go_simp; try with_reducible rfl
    (try simp only [Act.put, List.getElem_toArray, List.getElem_cons_succ, List.getElem_cons_zero, List.setIfInBounds_toArray, List.set_cons_zero, List.set_cons_succ])
    refine wpAnyH_take (i := 2) (v := ?_) rfl (by kernel_rfl) (by kernel_rfl) (by kernel_rfl) (fun _ _ _ h => h) (Or.inl ⟨by rfl, ?_⟩) hS ?_
    rotate_left
    · intro W hW; go_simp; try with_reducible rfl
    (try simp only [Act.put, List.getElem_toArray, List.getElem_cons_succ, List.getElem_cons_zero, List.setIfInBounds_toArray, List.set_cons_zero, List.set_cons_succ])
    refine wpAnyH_take (i := 3) (v := ?_) rfl (by kernel_rfl) (by kernel_rfl) (by kernel_rfl) (fun _ _ _ h => h) (Or.inl ⟨by rfl, ?_⟩) hS ?_
    rotate_left
    · intro W hW; go_simp; try with_reducible rfl
    (try simp only [Act.put, List.getElem_toArray, List.getElem_cons_succ, List.getElem_cons_zero, List.setIfInBounds_toArray, List.set_cons_zero, List.set_cons_succ])
    refine wpAnyH_take (i := 4) (v := ?_) rfl (by kernel_rfl) (by kernel_rfl) (by kernel_rfl) (fun _ _ _ h => h) (Or.inl ⟨by rfl, ?_⟩) hS ?_
    rotate_left
    · intro W hW; go_simp; try with_reducible rfl
    (try simp only [Act.put, List.getElem_toArray, List.getElem_cons_succ, List.getElem_cons_zero, List.setIfInBounds_toArray, List.set_cons_zero, List.set_cons_succ])
    refine wpAnyH_take (i := 5) (v := ?_) rfl (by kernel_rfl) (by kernel_rfl) (by kernel_rfl) (fun _ _ _ h => h) (Or.inl ⟨by rfl, ?_⟩) hS ?_
    rotate_left
    · intro W hW; go_simp; try with_reducible rfl
    (try simp only [Act.put, List.getElem_toArray, List.getElem_cons_succ, List.getElem_cons_zero, List.setIfInBounds_toArray, List.set_cons_zero, List.set_cons_succ])
    refine wpAnyH_take (i := 6) (v := ?_) rfl (by kernel_rfl) (by kernel_rfl) (by kernel_rfl) (fun _ _ _ h => h) (Or.inl ⟨by rfl, ?_⟩) hS ?_
    rotate_left
    · intro W hW; go_simp; try with_reducible rfl
    (try simp only [Act.put, List.getElem_toArray, List.getElem_cons_succ, List.getElem_cons_zero, List.setIfInBounds_toArray, List.set_cons_zero, List.set_cons_succ])
    refine' wpAnyH_take (i := 0) (v := _) rfl (by kernel_rfl) (by kernel_rfl) (by kernel_rfl) (fun _ _ _ h => h) (Bh.yif_load_bx 0 (fun _ h => h.2.2.1) Try.underlying27 rfl rfl rfl rfl rfl (by kernel_rfl)) hS ?_
    (try simp only [Act.put, List.getElem_toArray, List.getElem_cons_zero, List.setIfInBounds_toArray, List.set_cons_zero, List.set_cons_succ])
    refine wpAnyH_ready (rs := [7, 11]) (by kernel_rfl) (by simp) ?_
    refine AllReadyH.cons rfl (fun K hK => ?_) (AllReadyH.cons rfl (fun K hK => ?_) (AllReadyH.nil))
    all_goals (try simp only [List.getElem_toArray, List.getElem_cons_succ, List.getElem_cons_zero])
    focus
      go_simp
      go_at_call 42
      refine Calls.mono (HP3.out _ yq hS.1.beh (HYA.out.on hS.2.2.2)) ?_
      rintro e wb3 ⟨zq, rfl, hm⟩
      have hb : Below _ _ _ := hm.beh
      refine hK.out _ _ (⟨hS.1.on hb, hS.2.1.on hb, hS.2.2.1.on hb, hS.2.2.2.on hb⟩) (fun hS => ?_)
      clear hK K
      (try simp only [Act.put, List.getElem_toArray, List.getElem_cons_succ, List.getElem_cons_zero, List.setIfInBounds_toArray, List.set_cons_zero, List.set_cons_succ])
      refine wpAnyH_take (i := 8) (v := ?_) rfl (by kernel_rfl) (by kernel_rfl) (by kernel_rfl) (fun _ _ _ h => h) (Or.inl ⟨by rfl, ?_⟩) hS ?_
      rotate_left
      · intro W hW; go_simp; try with_reducible rfl
      (try simp only [Act.put, List.getElem_toArray, List.getElem_cons_succ, List.getElem_cons_zero, List.setIfInBounds_toArray, List.set_cons_zero, List.set_cons_succ])
      refine wpAnyH_take (i := 9) (v := ?_) rfl (by kernel_rfl) (by kernel_rfl) (by kernel_rfl) (fun _ _ _ h => h) (Or.inl ⟨by rfl, ?_⟩) hS ?_
      rotate_left
      · intro W hW; go_simp; try with_reducible rfl
      (try simp only [Act.put, List.getElem_toArray, List.getElem_cons_succ, List.getElem_cons_zero, List.setIfInBounds_toArray, List.set_cons_zero, List.set_cons_succ])
      refine wpAnyH_take (i := 10) (v := ?_) rfl (by kernel_rfl) (by kernel_rfl) (by kernel_rfl) (fun _ _ _ h => h) (Or.inl ⟨by rfl, ?_⟩) hS ?_
      rotate_left
      · intro W hW; go_simp; try with_reducible rfl
      (try simp only [Act.put, List.getElem_toArray, List.getElem_cons_succ, List.getElem_cons_zero, List.setIfInBounds_toArray, List.set_cons_zero, List.set_cons_succ])
      refine wpAnyH_ready (rs := [11]) (by kernel_rfl) (by simp) ?_
      refine AllReadyH.cons rfl (fun K hK => ?_) (AllReadyH.nil)
      all_goals (try simp only [List.getElem_toArray, List.getElem_cons_succ, List.getElem_cons_zero])
      have hB := hS
      refine Bh.step_alloc_bx rfl (H.zero.obj Hp.none) (by go_simp; rfl) ?_
      intro wa ha
      refine hK.out _ _ (⟨hS.1.on ha.beh, hS.2.1.on ha.beh, hS.2.2.1.on ha.beh, hS.2.2.2.on ha.beh⟩) (fun hS => ?_)
      clear hK K
      (try simp only [Act.put, List.setIfInBounds_toArray, List.set_cons_zero, List.set_cons_succ])
      refine wpAnyH_ready (rs := [12]) (by kernel_rfl) (by simp) ?_
      refine AllReadyH.cons rfl (fun K hK => ?_) (AllReadyH.nil)
      all_goals (try simp only [List.getElem_toArray, List.getElem_cons_succ, List.getElem_cons_zero])
      (apply Bh.step_store_bx 10 0 ha; rfl; rfl; rfl; rfl; rfl; rfl; kernel_rfl; rfl; rfl)
      intro wz3 hz he
      refine hK.out _ _ (⟨hB.1.on hz.beh, hB.2.1.on hz.beh, hB.2.2.1.on hz.beh, hB.2.2.2.on hz.beh⟩) (fun hS => ?_)
      clear hK K
      (try simp only [Act.put])
      refine wpAnyH_take (i := 13) (v := ?_) rfl (by kernel_rfl) (by kernel_rfl) (by kernel_rfl) (fun _ _ _ h => h) (Or.inl ⟨by rfl, ?_⟩) hS ?_
      rotate_left
      · intro W hW; go_simp; try with_reducible rfl
      (try simp only [Act.put, List.getElem_toArray, List.getElem_cons_succ, List.getElem_cons_zero, List.setIfInBounds_toArray, List.set_cons_zero, List.set_cons_succ])
      refine wpAnyH_done (by kernel_rfl) ?_ _
      have HZA := Lib.hid (hm.later hz.beh)
      have HZB : Hid (Bh.Bx wb3 [X.obj zq] wz3) := hz
      have HSS := Lib.hid hS
      clear hS hz he ha hb hm hB
    rotate_left
    focus
      have hD := hS
      refine Bh.step_alloc_bx rfl (H.zero.obj Hp.none) (by go_simp; rfl) ?_
      intro wa ha
      refine hK.out _ _ (⟨hS.1.on ha.beh, hS.2.1.on ha.beh, hS.2.2.1.on ha.beh, hS.2.2.2.on ha.beh⟩) (fun hS => ?_)
      clear hK K
      (try simp only [Act.put, List.setIfInBounds_toArray, List.set_cons_zero, List.set_cons_succ])
      refine wpAnyH_ready (rs := [7]) (by kernel_rfl) (by simp) ?_
      refine AllReadyH.cons rfl (fun K hK => ?_) (AllReadyH.nil)
      all_goals (try simp only [List.getElem_toArray, List.getElem_cons_succ, List.getElem_cons_zero])
      go_simp
      go_at_call 42
      refine Calls.mono (HP3.out _ yq hS.1.beh (HYA.out.on hS.2.2.2)) ?_
      rintro e wc ⟨zq, rfl, hm⟩
      have hb : Below _ _ _ := hm.beh
      have ha2 := ha.on hb
      have hB := hS
      refine hK.out _ _ (⟨hS.1.on hb, hS.2.1.on hb, hS.2.2.1.on hb, hS.2.2.2.on hb⟩) (fun hS => ?_)
      clear hK K
      (try simp only [Act.put, List.getElem_toArray, List.getElem_cons_succ, List.getElem_cons_zero, List.setIfInBounds_toArray, List.set_cons_zero, List.set_cons_succ])
      refine wpAnyH_take (i := 8) (v := ?_) rfl (by kernel_rfl) (by kernel_rfl) (by kernel_rfl) (fun _ _ _ h => h) (Or.inl ⟨by rfl, ?_⟩) hS ?_
      rotate_left
      · intro W hW; go_simp; try with_reducible rfl
      (try simp only [Act.put, List.getElem_toArray, List.getElem_cons_succ, List.getElem_cons_zero, List.setIfInBounds_toArray, List.set_cons_zero, List.set_cons_succ])
      refine wpAnyH_take (i := 9) (v := ?_) rfl (by kernel_rfl) (by kernel_rfl) (by kernel_rfl) (fun _ _ _ h => h) (Or.inl ⟨by rfl, ?_⟩) hS ?_
      rotate_left
      · intro W hW; go_simp; try with_reducible rfl
      (try simp only [Act.put, List.getElem_toArray, List.getElem_cons_succ, List.getElem_cons_zero, List.setIfInBounds_toArray, List.set_cons_zero, List.set_cons_succ])
      refine wpAnyH_take (i := 10) (v := ?_) rfl (by kernel_rfl) (by kernel_rfl) (by kernel_rfl) (fun _ _ _ h => h) (Or.inl ⟨by rfl, ?_⟩) hS ?_
      rotate_left
      · intro W hW; go_simp; try with_reducible rfl
      (try simp only [Act.put, List.getElem_toArray, List.getElem_cons_succ, List.getElem_cons_zero, List.setIfInBounds_toArray, List.set_cons_zero, List.set_cons_succ])
      refine wpAnyH_ready (rs := [12]) (by kernel_rfl) (by simp) ?_
      refine AllReadyH.cons rfl (fun K hK => ?_) (AllReadyH.nil)
      all_goals (try simp only [List.getElem_toArray, List.getElem_cons_succ, List.getElem_cons_zero])
      (apply Bh.step_store_bx 10 0 ha2; rfl; rfl; rfl; rfl; rfl; rfl; kernel_rfl; rfl; rfl)
      intro wz3 hz he
      refine hK.out _ _ (⟨hS.1.els he hD.1.lt, hS.2.1.els he hD.2.1.lt, hS.2.2.1.els he hD.2.2.1.lt, else_beh hS.2.2.2 he hD.2.2.2.size⟩) (fun hS => ?_)
      clear hK K
      (try simp only [Act.put])
      refine wpAnyH_take (i := 13) (v := ?_) rfl (by kernel_rfl) (by kernel_rfl) (by kernel_rfl) (fun _ _ _ h => h) (Or.inl ⟨by rfl, ?_⟩) hS ?_
      rotate_left
      · intro W hW; go_simp; try with_reducible rfl
      (try simp only [Act.put, List.getElem_toArray, List.getElem_cons_succ, List.getElem_cons_zero, List.setIfInBounds_toArray, List.set_cons_zero, List.set_cons_succ])
      refine wpAnyH_done (by kernel_rfl) ?_ _
      have HZA := Lib.hid (hm.els he (by have := ha.lt; simp at this ⊢; omega))
      have HZB : Hid (Bh.Bx wd [X.obj zq] wz3) := hz
      have HSS := Lib.hid hS
      clear hS hz he ha ha2 hb hm hB hD
      obtain ⟨wb3, hwb⟩ : ∃ x, x = wd := ⟨wd, rfl⟩
      subst hwb
    all_goals
      have HB := Lib.hid HSS.out.1
      have HX := Lib.hid HSS.out.2.1
      clear HSS HYA HYB HP HP2 HP3
      have HKH : Hid (∀ W, Kv.Beh wz3 W → Kv.Beh w1 W → Calls Try.prog 34 #[X.val xq, X.val zq] W fun e w' => e = .returned (.bool true) ∧ Below W.heap.size W w') := fun W hW hW1 => keepHard_self X xq zq W (HM.out.on hW1).at_ (HZA.out.on hW) (by omega)
      (obtain ⟨x0, x1, x2, x3, x4, x5, x6, x7, x8, x9⟩ := cells10h (h := X) (p := xq) HX.out.b0)
      (obtain ⟨z0, z1, z2, z3, z4, z5, z6, z7, z8, z9⟩ := cells10h (h := X) (p := zq) HZB.out.b0)
      go_wp2_with (first
        | (go_at_call 34; refine Calls.mono (HKH.out _ (Beh.start _) HX.out.beh) ?_; rintro e wy ⟨rfl, hb⟩; (have HB := Lib.hid (HB.out.on hb)); clear hb)
        | (go_at_call 35; refine ((HWK _).out).mono ?_; rintro e wy ⟨rfl, hb⟩; (have HB := Lib.hid (HB.out.on hb)); clear hb))
      go_ret
      exact ⟨rfl, HB.out.beh⟩
end Go.Proofs.Ytaifjkilmdnfbaa.Lg
