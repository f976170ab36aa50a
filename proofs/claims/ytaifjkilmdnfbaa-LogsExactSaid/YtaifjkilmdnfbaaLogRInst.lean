import Derived.Test.YtaifjkilmdnfbaaLogInst
import Derived.Test.YtaifjkilmdnfbaaLogRef4
import Derived.Test.YtaifjkilmdnfbaaMergeLgF
import Derived.Test.YtaifjkilmdnfbaaLogSlice
/- The reference: Install. -/
namespace Go.Proofs.Ytaifjkilmdnfbaa.Lg
open Go Go.RowKit Vl Kv Ss Cn Mem Li Nm
attribute [local go_sem] Nm.run_bits Nm.run_frombits run_store_float
attribute [local irreducible] wpQuiet
set_option maxHeartbeats 12800000 in
set_option maxRecDepth 100000 in
theorem rInstall_any (h : H) (p : Hp) (i t : Int) (c : C) (b : Nat) (a : Option Addr) (cap : Nat) (s : List Nat) (w : World) (ha : HardAt w h p) (hl : Src w b a cap s) (hs : s.length ≤ 100000) (hn : h.log.length ≤ 100000) :
    Calls Try.prog 47 #[h.val p, .int .i64 i, .int .i64 t, c.val, .slice a s.length cap] w (HardTold (h.inst i t c s) (h.instOk i t c s) w) := by
  have HB := Lib.hid (Bh.Bx.three w (h.obj p) (Lg.C.obj c) (H.zero.obj Hp.none))
  have HA := Lib.hid ha
  have HC : Hid (∀ W, Kv.Beh w W → Calls Try.prog 19 #[h.val p] W fun e w' => e = .returned (.bool h.right) ∧ Below W.heap.size W w') := fun W hW => rHard_any h p W (ha.on hW)
  have HCC := fun w => Lib.hid (Cn.rConf_any c w)
  have HSN0 : Hid (∀ W, Kv.Beh w W → Calls Try.prog 41 #[.slice a s.length cap] W (Kp.NewB s W)) := fun W hW => Kp.Twin_any b a cap s W (hl.kept (Kept.of_below hW) (fun _ h => h)) (by omega)
  clear ha hl
  cases hr : h.right
  · obtain ⟨e1, e2⟩ := inst_bad (i := i) (t := t) (c := c) (s := s) hr
    rw [e1, e2]
    rw [hr] at HC
    clear e1 e2
    go_enter Try.func47, Try.ntmps47
    go_wp2_with (first
      | (apply Bh.load_bx 0 HB.out Try.underlying27; rfl; rfl; rfl; rfl; rfl; kernel_rfl)
      | (go_at_call 19; refine Calls.mono (HC.out _ HB.out.beh) ?_; rintro e wq ⟨rfl, hb⟩; (have HB := Lib.hid (HB.out.on hb)); clear hb; (obtain ⟨x0, x1, x2, x3, x4, x5, x6, x7, x8, x9⟩ := cells10h HB.out.b0))
      | (apply Bh.store_bx 10 2 HB.out; rfl; rfl; rfl; rfl; rfl; rfl; kernel_rfl; rfl; rfl; intro wz hz; have HB := Lib.hid hz; clear hz))
    (try simp only [Exit.inBlock, Exit.then])
    refine bodyPost_ret (Bh.results_cell_row2 rfl _ _ _ _ _ _ _ rfl HB.out.b2 Try.underlying27 rfl (by kernel_rfl)) rfl ?_
    exact HardTold.zero HB.out.beh
  have hnum := right_num hr hn
  have n1 := hnum.lo; have n2 := hnum.hi
  rw [hr] at HC
  have HP1 := Lib.hid (inst_arg (i := i) (t := t) (c := c) (s := s) hr)
  have HP2 := Lib.hid (inst_conf (i := i) (t := t) (c := c) (s := s) hr)
  have HP3 := Lib.hid (inst_long (i := i) (t := t) (c := c) (s := s) hr)
  have HP4 := Lib.hid (inst_ok (i := i) (t := t) (c := c) (s := s) hr)
  clear hr
  cases f1 : (decide (h.base + 1 ≤ i) && decide (i ≤ 1099511627776))
  case false =>
    obtain ⟨e1, e2⟩ := HP1.out (by rw [f1]; rfl)
    rw [e1, e2]
    clear e1 e2 HP1 HP2 HP3 HP4
    have f2 : true = true := rfl
    go_enter Try.func47, Try.ntmps47
    go_wp2_with (first
      | (apply Bh.load_bx 0 HB.out Try.underlying27; rfl; rfl; rfl; rfl; rfl; kernel_rfl)
      | (go_at_call 19; refine Calls.mono (HC.out _ HB.out.beh) ?_; rintro e wq ⟨rfl, hb⟩; (have HB := Lib.hid (HB.out.on hb)); clear hb; (obtain ⟨x0, x1, x2, x3, x4, x5, x6, x7, x8, x9⟩ := cells10h HB.out.b0))
      | (go_at_call 54; refine (rwithin_any _ _ _ _).mono ?_; rintro e w' ⟨rfl, rfl⟩; (first | rw [f1] | rw [f2] | skip))
      | (apply Bh.store_bx 10 2 HB.out; rfl; rfl; rfl; rfl; rfl; rfl; kernel_rfl; rfl; rfl; intro wz hz; have HB := Lib.hid hz; clear hz))
    (try simp only [Exit.inBlock, Exit.then])
    refine bodyPost_ret (Bh.results_cell_row2 rfl _ _ _ _ _ _ _ rfl HB.out.b2 Try.underlying27 rfl (by kernel_rfl)) rfl ?_
    exact HardTold.zero HB.out.beh
  cases f2 : (decide (max h.bterm 1 ≤ t) && decide (t ≤ h.term))
  case false =>
    obtain ⟨e1, e2⟩ := HP1.out (by rw [f1, f2]; rfl)
    rw [e1, e2]
    clear e1 e2 HP1 HP2 HP3 HP4
    go_enter Try.func47, Try.ntmps47
    go_wp2_with (first
      | (apply Bh.load_bx 0 HB.out Try.underlying27; rfl; rfl; rfl; rfl; rfl; kernel_rfl)
      | (go_at_call 19; refine Calls.mono (HC.out _ HB.out.beh) ?_; rintro e wq ⟨rfl, hb⟩; (have HB := Lib.hid (HB.out.on hb)); clear hb; (obtain ⟨x0, x1, x2, x3, x4, x5, x6, x7, x8, x9⟩ := cells10h HB.out.b0))
      | (go_at_call 54; refine (rwithin_any _ _ _ _).mono ?_; rintro e w' ⟨rfl, rfl⟩; (first | rw [f1] | rw [f2] | skip))
      | (apply Bh.store_bx 10 2 HB.out; rfl; rfl; rfl; rfl; rfl; rfl; kernel_rfl; rfl; rfl; intro wz hz; have HB := Lib.hid hz; clear hz))
    (try simp only [Exit.inBlock, Exit.then])
    refine bodyPost_ret (Bh.results_cell_row2 rfl _ _ _ _ _ _ _ rfl HB.out.b2 Try.underlying27 rfl (by kernel_rfl)) rfl ?_
    exact HardTold.zero HB.out.beh
  have f12 : (!(decide (h.base + 1 ≤ i) && decide (i ≤ 1099511627776)) || !(decide (max h.bterm 1 ≤ t) && decide (t ≤ h.term))) = false := by rw [f1, f2]; rfl
  have hi1 : h.base + 1 ≤ i := by rw [Bool.and_eq_true] at f1; exact of_decide_eq_true f1.1
  have hi2 : i ≤ 1099511627776 := by rw [Bool.and_eq_true] at f1; exact of_decide_eq_true f1.2
  cases hc : c.right
  case false =>
    obtain ⟨e1, e2⟩ := HP2.out f12 hc
    rw [e1, e2]
    simp only [hc] at HCC
    clear e1 e2 HP1 HP2 HP3 HP4 f12
    go_enter Try.func47, Try.ntmps47
    go_wp2_with (first
      | (apply Bh.load_bx 0 HB.out Try.underlying27; rfl; rfl; rfl; rfl; rfl; kernel_rfl)
      | (go_at_call 19; refine Calls.mono (HC.out _ HB.out.beh) ?_; rintro e wq ⟨rfl, hb⟩; (have HB := Lib.hid (HB.out.on hb)); clear hb; (obtain ⟨x0, x1, x2, x3, x4, x5, x6, x7, x8, x9⟩ := cells10h HB.out.b0))
      | (go_at_call 54; refine (rwithin_any _ _ _ _).mono ?_; rintro e w' ⟨rfl, rfl⟩; (first | rw [f1] | rw [f2] | skip))
      | (go_at_call 38; refine ((HCC _).out).mono ?_; rintro e wq ⟨rfl, hb⟩; (have HB := Lib.hid (HB.out.on hb)); clear hb; (obtain ⟨x0, x1, x2, x3, x4, x5, x6, x7, x8, x9⟩ := cells10h HB.out.b0))
      | (apply Bh.load_bx 1 HB.out Try.underlying23; rfl; rfl; rfl; rfl; rfl; kernel_rfl)
      | (apply Bh.store_bx 10 2 HB.out; rfl; rfl; rfl; rfl; rfl; rfl; kernel_rfl; rfl; rfl; intro wz hz; have HB := Lib.hid hz; clear hz))
    (try simp only [Exit.inBlock, Exit.then])
    refine bodyPost_ret (Bh.results_cell_row2 rfl _ _ _ _ _ _ _ rfl HB.out.b2 Try.underlying27 rfl (by kernel_rfl)) rfl ?_
    exact HardTold.zero HB.out.beh
  simp only [hc] at HCC
  by_cases hlen : 16384 < s.length
  · obtain ⟨e1, e2⟩ := HP3.out f12 hc hlen
    rw [e1, e2]
    have d1 : decide ((16384 : Int) < (s.length : Int)) = true := decide_eq_true (by omega)
    clear e1 e2 HP1 HP2 HP3 HP4 f12
    go_enter Try.func47, Try.ntmps47
    go_wp2_with (first
      | (apply Bh.load_bx 0 HB.out Try.underlying27; rfl; rfl; rfl; rfl; rfl; kernel_rfl)
      | (go_at_call 19; refine Calls.mono (HC.out _ HB.out.beh) ?_; rintro e wq ⟨rfl, hb⟩; (have HB := Lib.hid (HB.out.on hb)); clear hb; (obtain ⟨x0, x1, x2, x3, x4, x5, x6, x7, x8, x9⟩ := cells10h HB.out.b0))
      | (go_at_call 54; refine (rwithin_any _ _ _ _).mono ?_; rintro e w' ⟨rfl, rfl⟩; (first | rw [f1] | rw [f2] | skip))
      | (go_at_call 38; refine ((HCC _).out).mono ?_; rintro e wq ⟨rfl, hb⟩; (have HB := Lib.hid (HB.out.on hb)); clear hb; (obtain ⟨x0, x1, x2, x3, x4, x5, x6, x7, x8, x9⟩ := cells10h HB.out.b0))
      | (apply Bh.load_bx 1 HB.out Try.underlying23; rfl; rfl; rfl; rfl; rfl; kernel_rfl)
      | (apply Bh.store_bx 10 2 HB.out; rfl; rfl; rfl; rfl; rfl; rfl; kernel_rfl; rfl; rfl; intro wz hz; have HB := Lib.hid hz; clear hz))
    (try simp only [Exit.inBlock, Exit.then])
    refine bodyPost_ret (Bh.results_cell_row2 rfl _ _ _ _ _ _ _ rfl HB.out.b2 Try.underlying27 rfl (by kernel_rfl)) rfl ?_
    exact HardTold.zero HB.out.beh
  obtain ⟨e1, e2⟩ := HP4.out f12 hc hlen
  rw [e1, e2]
  have d1 : decide ((16384 : Int) < (s.length : Int)) = false := decide_eq_false (by omega)
  have HF : Hid (∀ W, Kv.Beh w W → Calls Try.prog 30 #[h.val p, .int .i64 i, .int .i64 t] W fun e w' => e = .returned (.bool (h.fits i t)) ∧ Below W.heap.size W w') := fun W hW => rFits_any h p i t W hnum (HA.out.on hW)
  cases hfit : h.fits i t
  case false =>
    rw [if_neg (by simp)]
    rw [hfit] at HF
    clear e1 e2 HP1 HP2 HP3 HP4 f12 hlen hfit
    go_enter Try.func47, Try.ntmps47
    go_wp2_with (first
      | (apply Bh.load_bx 0 HB.out Try.underlying27; rfl; rfl; rfl; rfl; rfl; kernel_rfl)
      | (go_at_call 19; refine Calls.mono (HC.out _ HB.out.beh) ?_; rintro e wq ⟨rfl, hb⟩; (have HB := Lib.hid (HB.out.on hb)); clear hb; (obtain ⟨x0, x1, x2, x3, x4, x5, x6, x7, x8, x9⟩ := cells10h HB.out.b0))
      | (go_at_call 54; refine (rwithin_any _ _ _ _).mono ?_; rintro e w' ⟨rfl, rfl⟩; (first | rw [f1] | rw [f2] | skip))
      | (go_at_call 38; refine ((HCC _).out).mono ?_; rintro e wq ⟨rfl, hb⟩; (have HB := Lib.hid (HB.out.on hb)); clear hb; (obtain ⟨x0, x1, x2, x3, x4, x5, x6, x7, x8, x9⟩ := cells10h HB.out.b0))
      | (apply Bh.load_bx 1 HB.out Try.underlying23; rfl; rfl; rfl; rfl; rfl; kernel_rfl)
      | (apply Bh.store_bx 10 2 HB.out; rfl; rfl; rfl; rfl; rfl; rfl; kernel_rfl; rfl; rfl; intro wz hz; have HB := Lib.hid hz; clear hz))
    refine wp_region_held_drew (S := fun W => Bh.Bx w [h.obj p, Lg.C.obj c, H.zero.obj Hp.none] W) (by kernel_rfl) (HB.out.drew) (fun hS => ?_)
    generalize World.drew wq = wd at hS ⊢
    (try simp only [Act.put, List.getElem_toArray, List.getElem_cons_succ, List.getElem_cons_zero, List.setIfInBounds_toArray, List.set_cons_zero, List.set_cons_succ])
    refine wpAnyH_take (i := 0) (v := ?_) rfl (by kernel_rfl) (by kernel_rfl) (by kernel_rfl) (fun _ _ _ h => h) (Or.inl ⟨by rfl, ?_⟩) hS ?_
    rotate_left
    · intro W hW; go_simp; try with_reducible rfl
    (try simp only [Act.put, List.getElem_toArray, List.getElem_cons_zero, List.setIfInBounds_toArray, List.set_cons_zero, List.set_cons_succ])
    refine wpAnyH_take (i := 1) (v := ?_) rfl (by kernel_rfl) (by kernel_rfl) (by kernel_rfl) (fun _ _ _ h => h) (Or.inl ⟨by rfl, ?_⟩) hS ?_
    rotate_left
    · intro W hW; (obtain ⟨x0, x1, x2, x3, x4, x5, x6, x7, x8, x9⟩ := cells10h hW.b0); go_simp; try with_reducible rfl
    (try simp only [Act.put, List.getElem_toArray, List.getElem_cons_succ, List.getElem_cons_zero, List.setIfInBounds_toArray, List.set_cons_zero, List.set_cons_succ])
    refine wpAnyH_take (i := 2) (v := ?_) rfl (by kernel_rfl) (by kernel_rfl) (by kernel_rfl) (fun _ _ _ h => h) (Or.inl ⟨by rfl, ?_⟩) hS ?_
    rotate_left
    · intro W hW; go_simp; try with_reducible rfl
    (try simp only [Act.put, List.getElem_toArray, List.getElem_cons_succ, List.getElem_cons_zero, List.setIfInBounds_toArray, List.set_cons_zero, List.set_cons_succ])
    refine wpAnyH_take (i := 3) (v := ?_) rfl (by kernel_rfl) (by kernel_rfl) (by kernel_rfl) (fun _ _ _ h => h) (Or.inl ⟨by rfl, ?_⟩) hS ?_
    rotate_left
    · intro W hW; (obtain ⟨x0, x1, x2, x3, x4, x5, x6, x7, x8, x9⟩ := cells10h hW.b0); go_simp; try with_reducible rfl
    (try simp only [Act.put, List.getElem_toArray, List.getElem_cons_succ, List.getElem_cons_zero, List.setIfInBounds_toArray, List.set_cons_zero, List.set_cons_succ])
    refine wpAnyH_take (i := 4) (v := ?_) rfl (by kernel_rfl) (by kernel_rfl) (by kernel_rfl) (fun _ _ _ h => h) (Or.inl ⟨by rfl, ?_⟩) hS ?_
    rotate_left
    · intro W hW; go_simp; try with_reducible rfl
    (try simp only [Act.put, List.getElem_toArray, List.getElem_cons_succ, List.getElem_cons_zero, List.setIfInBounds_toArray, List.set_cons_zero, List.set_cons_succ])
    refine wpAnyH_take (i := 5) (v := ?_) rfl (by kernel_rfl) (by kernel_rfl) (by kernel_rfl) (fun _ _ _ h => h) (Or.inl ⟨by rfl, ?_⟩) hS ?_
    rotate_left
    · intro W hW; go_simp; try with_reducible rfl
    (try simp only [Act.put, List.getElem_toArray, List.getElem_cons_succ, List.getElem_cons_zero, List.setIfInBounds_toArray, List.set_cons_zero, List.set_cons_succ])
    refine wpAnyH_take (i := 7) (v := ?_) rfl (by kernel_rfl) (by kernel_rfl) (by kernel_rfl) (fun _ _ _ h => h) (Or.inl ⟨by rfl, ?_⟩) hS ?_
    rotate_left
    · intro W hW; go_simp; try with_reducible rfl
    (try simp only [Act.put, List.getElem_toArray, List.getElem_cons_succ, List.getElem_cons_zero, List.setIfInBounds_toArray, List.set_cons_zero, List.set_cons_succ])
    refine' wpAnyH_take (i := 6) (v := _) rfl (by kernel_rfl) (by kernel_rfl) (by kernel_rfl) (fun _ _ _ h => h) (Bh.yif_load_bx 1 (fun _ h => h) Try.underlying23 rfl rfl rfl rfl rfl (by kernel_rfl)) hS ?_
    (try simp only [Act.put, List.getElem_toArray, List.getElem_cons_succ, List.getElem_cons_zero, List.setIfInBounds_toArray, List.set_cons_zero, List.set_cons_succ])
    refine wpAnyH_ready (rs := [8, 10]) (by kernel_rfl) (by simp) ?_
    refine AllReadyH.cons rfl (fun K hK => ?_) (AllReadyH.cons rfl (fun K hK => ?_) (AllReadyH.nil))
    all_goals (try simp only [List.getElem_toArray, List.getElem_cons_succ, List.getElem_cons_zero])
    focus
      go_simp
      go_at_call 41
      refine Calls.mono (HSN0.out _ hS.beh) ?_
      intro e wb hq
      obtain ⟨sb, sa, sc, rfl, hown, hb⟩ := OwnS.of (lo := w.heap.size + 3) hq hS.lt
      refine hK.out _ _ (hS.on hb) (fun hS => ?_)
      clear hK K
      (try simp only [Act.put, List.getElem_toArray, List.getElem_cons_succ, List.getElem_cons_zero, List.setIfInBounds_toArray, List.set_cons_zero, List.set_cons_succ])
      refine wpAnyH_take (i := 9) (v := ?_) rfl (by kernel_rfl) (by kernel_rfl) (by kernel_rfl) (fun _ _ _ h => h) (Or.inl ⟨by rfl, ?_⟩) hS ?_
      rotate_left
      · intro W hW; go_simp; try with_reducible rfl
      (try simp only [Act.put, List.getElem_toArray, List.getElem_cons_succ, List.getElem_cons_zero, List.setIfInBounds_toArray, List.set_cons_zero, List.set_cons_succ])
      refine wpAnyH_ready (rs := [10]) (by kernel_rfl) (by simp) ?_
      refine AllReadyH.cons rfl (fun K hK => ?_) (AllReadyH.nil)
      all_goals (try simp only [List.getElem_toArray, List.getElem_cons_succ, List.getElem_cons_zero])
      have hB := hS
      refine Bh.step_alloc_bx rfl (H.zero.obj Hp.none) (by go_simp; rfl) ?_
      intro wa ha
      refine hK.out _ _ (hS.on ha.beh) (fun hS => ?_)
      clear hK K
      (try simp only [Act.put, List.setIfInBounds_toArray, List.set_cons_zero, List.set_cons_succ])
      refine wpAnyH_ready (rs := [11]) (by kernel_rfl) (by simp) ?_
      refine AllReadyH.cons rfl (fun K hK => ?_) (AllReadyH.nil)
      all_goals (try simp only [List.getElem_toArray, List.getElem_cons_succ, List.getElem_cons_zero])
      (apply Bh.step_store_bx 10 0 ha; rfl; rfl; rfl; rfl; rfl; rfl; kernel_rfl; rfl; rfl)
      intro wz2 hz he
      refine hK.out _ _ (hB.on hz.beh) (fun hS => ?_)
      clear hK K
      (try simp only [Act.put])
      refine wpAnyH_done (by kernel_rfl) ?_ _
      have HSN := Lib.hid (hown.on hz.beh)
      have HNE : Hid (sa ≠ none → sb ≠ wb.heap.size) := fun h0 => Nat.ne_of_lt (hown.own.lt h0)
      have HN : Hid (Bh.Bx wb [(H.obj ⟨h.term, h.vote, i, t, c, s, []⟩ ⟨sb, sa, sc, 0, none, 0⟩)] wz2) := hz
      have HWB : w.heap.size + 3 ≤ wb.heap.size := hB.lt
      have HSS := Lib.hid hS
      clear hS hz he ha hb hB hown hq
    rotate_left
    focus
      have hD := hS
      refine Bh.step_alloc_bx rfl (H.zero.obj Hp.none) (by go_simp; rfl) ?_
      intro wa ha
      refine hK.out _ _ (hS.on ha.beh) (fun hS => ?_)
      clear hK K
      (try simp only [Act.put, List.setIfInBounds_toArray, List.set_cons_zero, List.set_cons_succ])
      refine wpAnyH_ready (rs := [8]) (by kernel_rfl) (by simp) ?_
      refine AllReadyH.cons rfl (fun K hK => ?_) (AllReadyH.nil)
      all_goals (try simp only [List.getElem_toArray, List.getElem_cons_succ, List.getElem_cons_zero])
      go_simp
      go_at_call 41
      refine Calls.mono (HSN0.out _ hS.beh) ?_
      intro e wc hq
      obtain ⟨sb, sa, sc, rfl, hown, hb⟩ := OwnS.of (lo := wd.heap.size + 1) hq ha.lt
      have ha2 := ha.on hb
      have hB := hS
      refine hK.out _ _ (hS.on hb) (fun hS => ?_)
      clear hK K
      (try simp only [Act.put, List.getElem_toArray, List.getElem_cons_succ, List.getElem_cons_zero, List.setIfInBounds_toArray, List.set_cons_zero, List.set_cons_succ])
      refine wpAnyH_take (i := 9) (v := ?_) rfl (by kernel_rfl) (by kernel_rfl) (by kernel_rfl) (fun _ _ _ h => h) (Or.inl ⟨by rfl, ?_⟩) hS ?_
      rotate_left
      · intro W hW; go_simp; try with_reducible rfl
      (try simp only [Act.put, List.getElem_toArray, List.getElem_cons_succ, List.getElem_cons_zero, List.setIfInBounds_toArray, List.set_cons_zero, List.set_cons_succ])
      refine wpAnyH_ready (rs := [11]) (by kernel_rfl) (by simp) ?_
      refine AllReadyH.cons rfl (fun K hK => ?_) (AllReadyH.nil)
      all_goals (try simp only [List.getElem_toArray, List.getElem_cons_succ, List.getElem_cons_zero])
      (apply Bh.step_store_bx 10 0 ha2; rfl; rfl; rfl; rfl; rfl; rfl; kernel_rfl; rfl; rfl)
      intro wz2 hz he
      refine hK.out _ _ (hS.els he hD.lt) (fun hS => ?_)
      clear hK K
      (try simp only [Act.put])
      refine wpAnyH_done (by kernel_rfl) ?_ _
      have HSN : Hid (OwnS (w.heap.size + 3) wz2 sb sa sc s) := ⟨(hown.els he (by show wd.heap.size + 0 < wd.heap.size + 1; omega)).own, by have h1 := hown.new; have h2 : w.heap.size + 3 ≤ wd.heap.size := hD.lt; omega⟩
      have HNE : Hid (sa ≠ none → sb ≠ wd.heap.size) := fun _ => by have h1 := hown.new; omega
      have HN : Hid (Bh.Bx wd [(H.obj ⟨h.term, h.vote, i, t, c, s, []⟩ ⟨sb, sa, sc, 0, none, 0⟩)] wz2) := hz
      have HWB : w.heap.size + 3 ≤ wd.heap.size := hD.lt
      have HSS := Lib.hid hS
      clear hS hz he ha ha2 hb hB hD hown hq
      obtain ⟨wb, hwb⟩ : ∃ x, x = wd := ⟨wd, rfl⟩
      subst hwb
    all_goals
      have HB := HSS
      clear HSS
      go_wp2_with (first
        | (apply Bh.load_bx 0 HB.out Try.underlying27; rfl; rfl; rfl; rfl; rfl; kernel_rfl)
        | (apply Bh.load_bx 0 HN.out Try.underlying27; rfl; rfl; rfl; rfl; rfl; kernel_rfl)
        | (go_at_call 30; refine Calls.mono (HF.out _ HB.out.beh) ?_; rintro e wy ⟨rfl, hb⟩; (have HB := Lib.hid (HB.out.on hb)); (have HN := Lib.hid (HN.out.on hb)); (have HSN := Lib.hid (HSN.out.on hb)); clear hb; (obtain ⟨x0, x1, x2, x3, x4, x5, x6, x7, x8, x9⟩ := cells10h HB.out.b0))
        | (apply Bh.store_bk 10 2 HB.out; rfl; rfl; rfl; rfl; rfl; rfl; kernel_rfl; rfl; rfl; intro wz hz he; (have HSN := Lib.hid (HSN.out.els he (by omega))); have HB := Lib.hid hz; clear hz he))
      (try simp only [Exit.inBlock, Exit.then])
      refine bodyPost_ret (Bh.results_cell_row2 rfl _ _ _ _ _ _ _ rfl HB.out.b2 Try.underlying27 rfl (by kernel_rfl)) rfl ?_
      exact ⟨⟨sb, sa, sc, w.heap.size, none, 0⟩, rfl, HSN.out.own, by have := HSN.out.new; show w.heap.size ≤ sb; omega, OwnC.nil _ _ _ _, Nat.le_refl _, HB.out.beh⟩
  case true =>
    rw [if_pos rfl]
    rw [hfit] at HF
    have hh2 := (has_iff.1 (fits_has (by omega) hfit).1).2
    have hok : i - h.base = (h.off i : Int) ∧ h.off i ≤ h.log.length := by unfold H.last at hh2; unfold H.off; omega
    obtain ⟨ho1, ho2⟩ := hok
    obtain ⟨a1, m1, c1, hs11, hm1, he1⟩ := slice_from HA.out.log (h.off i) ho2
    have HFR : Hid (∀ W, Kv.Beh w W → Calls Try.prog 40 #[.slice a1 m1 c1] W fun e w' => ∃ b' a' cap', e = .returned (.slice a' (h.log.drop (h.off i)).length cap') ∧ Made 40 W w' b' a' cap' (h.log.drop (h.off i))) := fun W hW => by
      rw [hm1]; exact twinEnts_any a1 c1 _ W (he1 W hW) (by rw [List.length_drop]; omega)
    clear e1 e2 HP1 HP2 HP3 HP4 f12 hlen hfit hh2 hm1 he1 ho2
    generalize h.log.drop (h.off i) = DL at *
    generalize h.off i = kk at *
    go_enter Try.func47, Try.ntmps47
    go_wp2_with (first
      | (apply Bh.load_bx 0 HB.out Try.underlying27; rfl; rfl; rfl; rfl; rfl; kernel_rfl)
      | (go_at_call 19; refine Calls.mono (HC.out _ HB.out.beh) ?_; rintro e wq ⟨rfl, hb⟩; (have HB := Lib.hid (HB.out.on hb)); clear hb; (obtain ⟨x0, x1, x2, x3, x4, x5, x6, x7, x8, x9⟩ := cells10h HB.out.b0))
      | (go_at_call 54; refine (rwithin_any _ _ _ _).mono ?_; rintro e w' ⟨rfl, rfl⟩; (first | rw [f1] | rw [f2] | skip))
      | (go_at_call 38; refine ((HCC _).out).mono ?_; rintro e wq ⟨rfl, hb⟩; (have HB := Lib.hid (HB.out.on hb)); clear hb; (obtain ⟨x0, x1, x2, x3, x4, x5, x6, x7, x8, x9⟩ := cells10h HB.out.b0))
      | (apply Bh.load_bx 1 HB.out Try.underlying23; rfl; rfl; rfl; rfl; rfl; kernel_rfl)
      | (apply Bh.store_bx 10 2 HB.out; rfl; rfl; rfl; rfl; rfl; rfl; kernel_rfl; rfl; rfl; intro wz hz; have HB := Lib.hid hz; clear hz))
    refine wp_region_held_drew (S := fun W => Bh.Bx w [h.obj p, Lg.C.obj c, H.zero.obj Hp.none] W) (by kernel_rfl) (HB.out.drew) (fun hS => ?_)
    generalize World.drew wq = wd at hS ⊢
    (try simp only [Act.put, List.getElem_toArray, List.getElem_cons_succ, List.getElem_cons_zero, List.setIfInBounds_toArray, List.set_cons_zero, List.set_cons_succ])
    refine wpAnyH_take (i := 0) (v := ?_) rfl (by kernel_rfl) (by kernel_rfl) (by kernel_rfl) (fun _ _ _ h => h) (Or.inl ⟨by rfl, ?_⟩) hS ?_
    rotate_left
    · intro W hW; go_simp; try with_reducible rfl
    (try simp only [Act.put, List.getElem_toArray, List.getElem_cons_zero, List.setIfInBounds_toArray, List.set_cons_zero, List.set_cons_succ])
    refine wpAnyH_take (i := 1) (v := ?_) rfl (by kernel_rfl) (by kernel_rfl) (by kernel_rfl) (fun _ _ _ h => h) (Or.inl ⟨by rfl, ?_⟩) hS ?_
    rotate_left
    · intro W hW; (obtain ⟨x0, x1, x2, x3, x4, x5, x6, x7, x8, x9⟩ := cells10h hW.b0); go_simp; try with_reducible rfl
    (try simp only [Act.put, List.getElem_toArray, List.getElem_cons_succ, List.getElem_cons_zero, List.setIfInBounds_toArray, List.set_cons_zero, List.set_cons_succ])
    refine wpAnyH_take (i := 2) (v := ?_) rfl (by kernel_rfl) (by kernel_rfl) (by kernel_rfl) (fun _ _ _ h => h) (Or.inl ⟨by rfl, ?_⟩) hS ?_
    rotate_left
    · intro W hW; go_simp; try with_reducible rfl
    (try simp only [Act.put, List.getElem_toArray, List.getElem_cons_succ, List.getElem_cons_zero, List.setIfInBounds_toArray, List.set_cons_zero, List.set_cons_succ])
    refine wpAnyH_take (i := 3) (v := ?_) rfl (by kernel_rfl) (by kernel_rfl) (by kernel_rfl) (fun _ _ _ h => h) (Or.inl ⟨by rfl, ?_⟩) hS ?_
    rotate_left
    · intro W hW; (obtain ⟨x0, x1, x2, x3, x4, x5, x6, x7, x8, x9⟩ := cells10h hW.b0); go_simp; try with_reducible rfl
    (try simp only [Act.put, List.getElem_toArray, List.getElem_cons_succ, List.getElem_cons_zero, List.setIfInBounds_toArray, List.set_cons_zero, List.set_cons_succ])
    refine wpAnyH_take (i := 4) (v := ?_) rfl (by kernel_rfl) (by kernel_rfl) (by kernel_rfl) (fun _ _ _ h => h) (Or.inl ⟨by rfl, ?_⟩) hS ?_
    rotate_left
    · intro W hW; go_simp; try with_reducible rfl
    (try simp only [Act.put, List.getElem_toArray, List.getElem_cons_succ, List.getElem_cons_zero, List.setIfInBounds_toArray, List.set_cons_zero, List.set_cons_succ])
    refine wpAnyH_take (i := 5) (v := ?_) rfl (by kernel_rfl) (by kernel_rfl) (by kernel_rfl) (fun _ _ _ h => h) (Or.inl ⟨by rfl, ?_⟩) hS ?_
    rotate_left
    · intro W hW; go_simp; try with_reducible rfl
    (try simp only [Act.put, List.getElem_toArray, List.getElem_cons_succ, List.getElem_cons_zero, List.setIfInBounds_toArray, List.set_cons_zero, List.set_cons_succ])
    refine wpAnyH_take (i := 7) (v := ?_) rfl (by kernel_rfl) (by kernel_rfl) (by kernel_rfl) (fun _ _ _ h => h) (Or.inl ⟨by rfl, ?_⟩) hS ?_
    rotate_left
    · intro W hW; go_simp; try with_reducible rfl
    (try simp only [Act.put, List.getElem_toArray, List.getElem_cons_succ, List.getElem_cons_zero, List.setIfInBounds_toArray, List.set_cons_zero, List.set_cons_succ])
    refine' wpAnyH_take (i := 6) (v := _) rfl (by kernel_rfl) (by kernel_rfl) (by kernel_rfl) (fun _ _ _ h => h) (Bh.yif_load_bx 1 (fun _ h => h) Try.underlying23 rfl rfl rfl rfl rfl (by kernel_rfl)) hS ?_
    (try simp only [Act.put, List.getElem_toArray, List.getElem_cons_succ, List.getElem_cons_zero, List.setIfInBounds_toArray, List.set_cons_zero, List.set_cons_succ])
    refine wpAnyH_ready (rs := [8, 10]) (by kernel_rfl) (by simp) ?_
    refine AllReadyH.cons rfl (fun K hK => ?_) (AllReadyH.cons rfl (fun K hK => ?_) (AllReadyH.nil))
    all_goals (try simp only [List.getElem_toArray, List.getElem_cons_succ, List.getElem_cons_zero])
    focus
      go_simp
      go_at_call 41
      refine Calls.mono (HSN0.out _ hS.beh) ?_
      intro e wb hq
      obtain ⟨sb, sa, sc, rfl, hown, hb⟩ := OwnS.of (lo := w.heap.size + 3) hq hS.lt
      refine hK.out _ _ (hS.on hb) (fun hS => ?_)
      clear hK K
      (try simp only [Act.put, List.getElem_toArray, List.getElem_cons_succ, List.getElem_cons_zero, List.setIfInBounds_toArray, List.set_cons_zero, List.set_cons_succ])
      refine wpAnyH_take (i := 9) (v := ?_) rfl (by kernel_rfl) (by kernel_rfl) (by kernel_rfl) (fun _ _ _ h => h) (Or.inl ⟨by rfl, ?_⟩) hS ?_
      rotate_left
      · intro W hW; go_simp; try with_reducible rfl
      (try simp only [Act.put, List.getElem_toArray, List.getElem_cons_succ, List.getElem_cons_zero, List.setIfInBounds_toArray, List.set_cons_zero, List.set_cons_succ])
      refine wpAnyH_ready (rs := [10]) (by kernel_rfl) (by simp) ?_
      refine AllReadyH.cons rfl (fun K hK => ?_) (AllReadyH.nil)
      all_goals (try simp only [List.getElem_toArray, List.getElem_cons_succ, List.getElem_cons_zero])
      have hB := hS
      refine Bh.step_alloc_bx rfl (H.zero.obj Hp.none) (by go_simp; rfl) ?_
      intro wa ha
      refine hK.out _ _ (hS.on ha.beh) (fun hS => ?_)
      clear hK K
      (try simp only [Act.put, List.setIfInBounds_toArray, List.set_cons_zero, List.set_cons_succ])
      refine wpAnyH_ready (rs := [11]) (by kernel_rfl) (by simp) ?_
      refine AllReadyH.cons rfl (fun K hK => ?_) (AllReadyH.nil)
      all_goals (try simp only [List.getElem_toArray, List.getElem_cons_succ, List.getElem_cons_zero])
      (apply Bh.step_store_bx 10 0 ha; rfl; rfl; rfl; rfl; rfl; rfl; kernel_rfl; rfl; rfl)
      intro wz2 hz he
      refine hK.out _ _ (hB.on hz.beh) (fun hS => ?_)
      clear hK K
      (try simp only [Act.put])
      refine wpAnyH_done (by kernel_rfl) ?_ _
      have HSN := Lib.hid (hown.on hz.beh)
      have HNE : Hid (sa ≠ none → sb ≠ wb.heap.size) := fun h0 => Nat.ne_of_lt (hown.own.lt h0)
      have HN : Hid (Bh.Bx wb [(H.obj ⟨h.term, h.vote, i, t, c, s, []⟩ ⟨sb, sa, sc, 0, none, 0⟩)] wz2) := hz
      have HWB : w.heap.size + 3 ≤ wb.heap.size := hB.lt
      have HSS := Lib.hid hS
      clear hS hz he ha hb hB hown hq
    rotate_left
    focus
      have hD := hS
      refine Bh.step_alloc_bx rfl (H.zero.obj Hp.none) (by go_simp; rfl) ?_
      intro wa ha
      refine hK.out _ _ (hS.on ha.beh) (fun hS => ?_)
      clear hK K
      (try simp only [Act.put, List.setIfInBounds_toArray, List.set_cons_zero, List.set_cons_succ])
      refine wpAnyH_ready (rs := [8]) (by kernel_rfl) (by simp) ?_
      refine AllReadyH.cons rfl (fun K hK => ?_) (AllReadyH.nil)
      all_goals (try simp only [List.getElem_toArray, List.getElem_cons_succ, List.getElem_cons_zero])
      go_simp
      go_at_call 41
      refine Calls.mono (HSN0.out _ hS.beh) ?_
      intro e wc hq
      obtain ⟨sb, sa, sc, rfl, hown, hb⟩ := OwnS.of (lo := wd.heap.size + 1) hq ha.lt
      have ha2 := ha.on hb
      have hB := hS
      refine hK.out _ _ (hS.on hb) (fun hS => ?_)
      clear hK K
      (try simp only [Act.put, List.getElem_toArray, List.getElem_cons_succ, List.getElem_cons_zero, List.setIfInBounds_toArray, List.set_cons_zero, List.set_cons_succ])
      refine wpAnyH_take (i := 9) (v := ?_) rfl (by kernel_rfl) (by kernel_rfl) (by kernel_rfl) (fun _ _ _ h => h) (Or.inl ⟨by rfl, ?_⟩) hS ?_
      rotate_left
      · intro W hW; go_simp; try with_reducible rfl
      (try simp only [Act.put, List.getElem_toArray, List.getElem_cons_succ, List.getElem_cons_zero, List.setIfInBounds_toArray, List.set_cons_zero, List.set_cons_succ])
      refine wpAnyH_ready (rs := [11]) (by kernel_rfl) (by simp) ?_
      refine AllReadyH.cons rfl (fun K hK => ?_) (AllReadyH.nil)
      all_goals (try simp only [List.getElem_toArray, List.getElem_cons_succ, List.getElem_cons_zero])
      (apply Bh.step_store_bx 10 0 ha2; rfl; rfl; rfl; rfl; rfl; rfl; kernel_rfl; rfl; rfl)
      intro wz2 hz he
      refine hK.out _ _ (hS.els he hD.lt) (fun hS => ?_)
      clear hK K
      (try simp only [Act.put])
      refine wpAnyH_done (by kernel_rfl) ?_ _
      have HSN : Hid (OwnS (w.heap.size + 3) wz2 sb sa sc s) := ⟨(hown.els he (by show wd.heap.size + 0 < wd.heap.size + 1; omega)).own, by have h1 := hown.new; have h2 : w.heap.size + 3 ≤ wd.heap.size := hD.lt; omega⟩
      have HNE : Hid (sa ≠ none → sb ≠ wd.heap.size) := fun _ => by have h1 := hown.new; omega
      have HN : Hid (Bh.Bx wd [(H.obj ⟨h.term, h.vote, i, t, c, s, []⟩ ⟨sb, sa, sc, 0, none, 0⟩)] wz2) := hz
      have HWB : w.heap.size + 3 ≤ wd.heap.size := hD.lt
      have HSS := Lib.hid hS
      clear hS hz he ha ha2 hb hB hD hown hq
      obtain ⟨wb, hwb⟩ : ∃ x, x = wd := ⟨wd, rfl⟩
      subst hwb
    all_goals
      have HB := HSS
      clear HSS
      go_wp2_with (first
        | (apply Bh.load_bx 0 HB.out Try.underlying27; rfl; rfl; rfl; rfl; rfl; kernel_rfl)
        | (apply Bh.load_bx 0 HN.out Try.underlying27; rfl; rfl; rfl; rfl; rfl; kernel_rfl)
        | (go_at_call 30; refine Calls.mono (HF.out _ HB.out.beh) ?_; rintro e wy ⟨rfl, hb⟩; (have HB := Lib.hid (HB.out.on hb)); (have HN := Lib.hid (HN.out.on hb)); (have HSN := Lib.hid (HSN.out.on hb)); clear hb; (obtain ⟨x0, x1, x2, x3, x4, x5, x6, x7, x8, x9⟩ := cells10h HB.out.b0))
        | (go_at_call 40; refine Calls.mono (HFR.out _ HB.out.beh) ?_; rintro e wf ⟨lb, la, lc, rfl, hml⟩; (have HLN := Lib.hid (OwnN.of (lo := wb.heap.size + 1) hml HN.out.lt)); (have HB := Lib.hid (HB.out.on hml.beh)); (have HN := Lib.hid (HN.out.on hml.beh)); (have HSN := Lib.hid (HSN.out.on hml.beh)); clear hml)
        | (apply Bh.store1_bk 0 9 HN.out; rfl; rfl; rfl; rfl; rfl; rfl; rfl; kernel_rfl; intro wz hz he; (have HLN := Lib.hid (HLN.out.els he (by omega))); (have HSN := Lib.hid (ownS_ne HSN.out he HNE.out)); (have HB := Lib.hid (HB.out.els he (by show w.heap.size + 3 ≤ wb.heap.size + 0; omega))); have HN := Lib.hid hz; clear hz he)
        | (apply Bh.store_bk 10 2 HB.out; rfl; rfl; rfl; rfl; rfl; rfl; kernel_rfl; rfl; rfl; intro wz hz he; (have HSN := Lib.hid (HSN.out.els he (by omega))); (have HLN := Lib.hid (HLN.out.els he (by omega))); have HB := Lib.hid hz; clear hz he))
      (try simp only [Exit.inBlock, Exit.then])
      refine bodyPost_ret (Bh.results_cell_row2 rfl _ _ _ _ _ _ _ rfl HB.out.b2 Try.underlying27 rfl (by kernel_rfl)) rfl ?_
      exact ⟨⟨sb, sa, sc, lb, la, lc⟩, rfl, HSN.out.own, by have := HSN.out.new; show w.heap.size ≤ sb; omega, HLN.out.own, by have := HLN.out.new; show w.heap.size ≤ lb; omega, HB.out.beh⟩
end Go.Proofs.Ytaifjkilmdnfbaa.Lg
