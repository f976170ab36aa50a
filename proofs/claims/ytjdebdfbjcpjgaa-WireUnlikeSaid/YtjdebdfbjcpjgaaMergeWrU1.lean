import Derived.Test.YtjdebdfbjcpjgaaWireKN
import Derived.Test.YtjdebdfbjcpjgaaWireHm
import Derived.Test.YtjdebdfbjcpjgaaWireMsgL
import Derived.Test.YtjdebdfbjcpjgaaWireCutP
section
/- Messages that may be written are the same to the keeper just if their bytes are the same. Plain. -/
namespace Go.Proofs.Ytjdebdfbjcpjgaa.Wr
open Go Go.RowKit Vl Kv Ss Cn Lg Li
theorem me_heads {x : Mr} {L : List Mr} (o : cMsg.ok (me x L)) : cHead.ok x.1 ∧ ∀ z ∈ L, cHead.ok z.1 := by
  have o : cHead.ok x.1 ∧ (cList cInner (fun n => decide (n ≤ 16))).ok (L.map Prod.fst) := o
  refine ⟨o.1, fun z hz => ?_⟩
  have h := ((cList_ok cInner).1 o.2).2.2 z.1 (List.mem_map_of_mem hz)
  exact (show cHead.ok z.1 ∧ _ from h).1
theorem msg_same_iff {x y : Mr} {L M : List Mr} (hx : L.length = x.2.n) (hy : M.length = y.2.n) (ox : okM x L) (oy : okM y M) : MsgSame x L y M ↔ cMsg.enc (me x L) = cMsg.enc (me y M) := by
  constructor
  · rintro ⟨h1, h2⟩
    unfold Mr.same at h1
    rw [Bool.and_eq_true, decide_eq_true_eq] at h1
    have e1 : x.1 = y.1 := fsame_eq h1.1 (me_heads ox.1).1 (me_heads oy.1).1
    have hl : L.length = M.length := by omega
    have e2 : L.map Prod.fst = M.map Prod.fst := by
      apply List.ext_getElem
      · rw [List.length_map, List.length_map, hl]
      · intro k h3 h4
        rw [List.length_map] at h3 h4
        rw [List.getElem_map, List.getElem_map]
        have h5 := h2 k h3
        have e3 : L.getD k Mr.zero = L[k] := by simp [h3]
        have e4 : M.getD k Mr.zero = M[k] := by simp [h4]
        rw [e3, e4] at h5
        unfold Mr.same at h5
        rw [Bool.and_eq_true] at h5
        exact fsame_eq h5.1 ((me_heads ox.1).2 _ (List.getElem_mem h3)) ((me_heads oy.1).2 _ (List.getElem_mem h4))
    unfold me
    rw [e1, e2]
  · intro e
    have h := (enc_inj cMsg ox.1 oy.1 (d := []) (by rw [List.append_nil]; exact e)).1
    have e1 : x.1 = y.1 := congrArg Me.head h
    have e2 : L.map Prod.fst = M.map Prod.fst := congrArg Me.inner h
    have hl : L.length = M.length := by
      have := congrArg List.length e2
      rwa [List.length_map, List.length_map] at this
    refine ⟨?_, fun k hk => ?_⟩
    · unfold Mr.same
      rw [Bool.and_eq_true, decide_eq_true_eq, e1]
      exact ⟨Fl.same_refl _, by omega⟩
    · have hk2 : k < M.length := by omega
      have e3 : L.getD k Mr.zero = L[k] := by simp [hk]
      have e4 : M.getD k Mr.zero = M[k] := by simp [hk2]
      have e5 : L[k].1 = M[k].1 := by
        have h6 : (L.map Prod.fst)[k]'(by rw [List.length_map]; exact hk) = (M.map Prod.fst)[k]'(by rw [List.length_map]; exact hk2) := by simp only [e2]
        rwa [List.getElem_map, List.getElem_map] at h6
      unfold Mr.same
      rw [e3, e4, Bool.and_eq_true, decide_eq_true_eq, e5, ox.2 _ (List.getElem_mem hk), oy.2 _ (List.getElem_mem hk2)]
      exact ⟨Fl.same_refl _, rfl⟩
end Go.Proofs.Ytjdebdfbjcpjgaa.Wr
end
section
/- The law WireUnlike. -/
namespace Go.Proofs.Ytjdebdfbjcpjgaa.Wr
open Go Go.RowKit Vl Kv Ss Cn Lg Nm Mem
attribute [local go_sem] Nm.run_bits Nm.run_frombits run_store_float
attribute [local irreducible] wpQuiet
theorem Light.snaps {x : Mr} {L : List Mr} (h : Light x L) : x.1.snap.length ≤ 100000 ∧ ∀ z ∈ L, z.1.snap.length ≤ 100000 :=
  ⟨by have := (heavyF_no h.self).2; omega, fun z hz => by have := (heavyF_no (h.all z hz).1).2; omega⟩
set_option maxHeartbeats 12800000 in
set_option maxRecDepth 100000 in
theorem WireUnlike_law (x y : Mr) (L M : List Mr) (w : World) (hx : MsgIn w x L) (rx : RF x.1) (rl : ∀ z ∈ L, RF z.1) (hy : MsgIn w y M) (ry : RF y.1) (rm : ∀ z ∈ M, RF z.1) :
    Calls Try.prog 8 #[x.val, y.val] w fun e w' => e = .returned (.bool true) ∧ Below w.heap.size w w' := by
  have HB := Lib.hid (Bh.Bx.two w x.obj y.obj)
  have HWK := fun w => Lib.hid (wakes_any w)
  have HV1 : Hid (∀ W, Kv.Beh w W → Calls Try.prog 26 #[x.val] W (HvTold x L W)) := fun W hW => heavyMsg_any x L W (hx.on hW)
  have HV2 : Hid (∀ W, Kv.Beh w W → Calls Try.prog 26 #[y.val] W (HvTold y M W)) := fun W hW => heavyMsg_any y M W (hy.on hW)
  have HT1 : Hid (Light x L → ∀ W, Kv.Beh w W → Calls Try.prog 27 #[x.val] W (Told (okM x L) (cMsg.enc (me x L)) W)) := fun hl W hW => Msg_told (hx.on hW).at_ (hl.fit hx rx rl)
  have HT2 : Hid (Light y M → ∀ W, Kv.Beh w W → Calls Try.prog 27 #[y.val] W (Told (okM y M) (cMsg.enc (me y M)) W)) := fun hl W hW => Msg_told (hy.on hW).at_ (hl.fit hy ry rm)
  have HKM0 : Hid (Light x L → Light y M → okM x L → okM y M → ∀ W, Kv.Beh w W → Calls Try.prog 29 #[x.val, y.val] W fun e w' => e = .returned (.bool (decide (cMsg.enc (me x L) = cMsg.enc (me y M)))) ∧ Below W.heap.size W w') := fun l1 l2 o1 o2 W hW =>
    (keepMsg_any x y L M W (hx.on hW).at_ (hy.on hW).at_ l1.snaps.1 l2.snaps.1 l1.snaps.2 l2.snaps.2).mono fun e w' h => ⟨by rw [h.1]; congr 2; exact decide_eq_decide.2 (msg_same_iff hx.len hy.len o1 o2), h.2⟩
  clear hx hy rx ry rl rm
  (obtain ⟨c0, c1, c2, c3, c4, c5, c6, c7, c8, c9, c10, c11, c12, c13, c14, c15⟩ := cells16m (x := x) HB.out.b0); (obtain ⟨d0, d1, d2, d3, d4, d5, d6, d7, d8, d9, d10, d11, d12, d13, d14, d15⟩ := cells16m (x := y) HB.out.b1)
  go_enter Try.func8, Try.ntmps8
  go_wp2_with (first | (apply Bh.load_bx 0 HB.out Try.underlying61; rfl; rfl; rfl; rfl; rfl; kernel_rfl) | (apply Bh.load_bx 1 HB.out Try.underlying61; rfl; rfl; rfl; rfl; rfl; kernel_rfl))
  refine Calls.mono (HV1.out _ HB.out.beh) ?_
  rintro e wv ⟨q, rfl, hb, hq⟩
  have HB := Lib.hid (HB.out.on hb)
  clear hb
  clear c0 c1 c2 c3 c4 c5 c6 c7 c8 c9 c10 c11 c12 c13 c14 c15 d0 d1 d2 d3 d4 d5 d6 d7 d8 d9 d10 d11 d12 d13 d14 d15
  (obtain ⟨c0, c1, c2, c3, c4, c5, c6, c7, c8, c9, c10, c11, c12, c13, c14, c15⟩ := cells16m (x := x) HB.out.b0); (obtain ⟨d0, d1, d2, d3, d4, d5, d6, d7, d8, d9, d10, d11, d12, d13, d14, d15⟩ := cells16m (x := y) HB.out.b1)
  cases q
  case true => as_aux_lemma =>
    clear hq
    go_wp2_with (first | (apply Bh.load_bx 0 HB.out Try.underlying61; rfl; rfl; rfl; rfl; rfl; kernel_rfl) | (apply Bh.load_bx 1 HB.out Try.underlying61; rfl; rfl; rfl; rfl; rfl; kernel_rfl))
    go_ret
    exact ⟨rfl, HB.out.beh⟩
  have HT1 := Lib.hid (HT1.out (hq rfl))
  have HKM0 := Lib.hid (HKM0.out (hq rfl))
  clear hq
  go_wp2_with (first | (apply Bh.load_bx 0 HB.out Try.underlying61; rfl; rfl; rfl; rfl; rfl; kernel_rfl) | (apply Bh.load_bx 1 HB.out Try.underlying61; rfl; rfl; rfl; rfl; rfl; kernel_rfl))
  refine Calls.mono (HV2.out _ HB.out.beh) ?_
  rintro e wu ⟨q, rfl, hb, hq⟩
  have HB := Lib.hid (HB.out.on hb)
  clear hb
  clear c0 c1 c2 c3 c4 c5 c6 c7 c8 c9 c10 c11 c12 c13 c14 c15 d0 d1 d2 d3 d4 d5 d6 d7 d8 d9 d10 d11 d12 d13 d14 d15
  cases q
  case true => as_aux_lemma =>
    clear hq
    go_wp2_with fail
    go_ret
    exact ⟨rfl, HB.out.beh⟩
  have HT2 := Lib.hid (HT2.out (hq rfl))
  have HKM0 := Lib.hid (HKM0.out (hq rfl))
  clear hq HV1 HV2
  (obtain ⟨c0, c1, c2, c3, c4, c5, c6, c7, c8, c9, c10, c11, c12, c13, c14, c15⟩ := cells16m (x := x) HB.out.b0); (obtain ⟨d0, d1, d2, d3, d4, d5, d6, d7, d8, d9, d10, d11, d12, d13, d14, d15⟩ := cells16m (x := y) HB.out.b1)
  go_wp2_with (first | (apply Bh.load_bx 0 HB.out Try.underlying61; rfl; rfl; rfl; rfl; rfl; kernel_rfl) | (apply Bh.load_bx 1 HB.out Try.underlying61; rfl; rfl; rfl; rfl; rfl; kernel_rfl))
  refine Calls.mono (HT1.out _ HB.out.beh) ?_
  rintro e w1 ⟨hb, hx⟩
  have HB := Lib.hid (HB.out.on hb)
  clear hb
  clear c0 c1 c2 c3 c4 c5 c6 c7 c8 c9 c10 c11 c12 c13 c14 c15 d0 d1 d2 d3 d4 d5 d6 d7 d8 d9 d10 d11 d12 d13 d14 d15
  (obtain ⟨c0, c1, c2, c3, c4, c5, c6, c7, c8, c9, c10, c11, c12, c13, c14, c15⟩ := cells16m (x := x) HB.out.b0); (obtain ⟨d0, d1, d2, d3, d4, d5, d6, d7, d8, d9, d10, d11, d12, d13, d14, d15⟩ := cells16m (x := y) HB.out.b1)
  rcases hx with ⟨ok, hl, b, a, cap, rfl, ho, _⟩ | ⟨_, c, hc, rfl⟩
  rotate_left
  focus as_aux_lemma =>
    have b1 : (c == 0) = false := beq_eq_false_iff_ne.2 hc
    have b2 : (c != 0) = true := by unfold bne; rw [b1]; rfl
    clear hc HKM0
    go_wp2_with (first | (apply Bh.load_bx 0 HB.out Try.underlying61; rfl; rfl; rfl; rfl; rfl; kernel_rfl) | (apply Bh.load_bx 1 HB.out Try.underlying61; rfl; rfl; rfl; rfl; rfl; kernel_rfl))
    refine Calls.mono (HT2.out _ HB.out.beh) ?_
    rintro e w2 ⟨hb, hx⟩
    have HB := Lib.hid (HB.out.on hb)
    clear hb
    clear c0 c1 c2 c3 c4 c5 c6 c7 c8 c9 c10 c11 c12 c13 c14 c15 d0 d1 d2 d3 d4 d5 d6 d7 d8 d9 d10 d11 d12 d13 d14 d15
    rcases hx with ⟨_, hl, b, a, cap, rfl, _, _⟩ | ⟨_, f, _, rfl⟩
    · as_aux_lemma =>
        generalize (cMsg.enc (me y M)).length = nb at *
        go_wp2_with fail
        have HBZ := Lib.hid (HB.out)
        clear HB
        refine wp_region_quiet (C := Kv.Beh w2) (by kernel_rfl) (by kernel_rfl) (Beh.start _).drew ?_
        repeat (first
          | (refine BigFrame.wpQuiet_skip (by exact Eq.refl false) ?_
             ((try simp only [Act.put]); (try simp only [List.setIfInBounds_toArray]); (try simp only [List.set_cons_zero, List.set_cons_succ])))
          | (refine BigFrame.wpQuiet_want (by exact Eq.refl true) (fun K hK => ?_)
             first
             | (refine quiet_move2 _ rfl (by go_simp; rfl) ?_; refine hK _ ?_)
             | (apply Exists.intro
                refine ⟨fun wq hq => ?_, hK _ ?_⟩
                · ((have HTQ := HBZ.out.on hq); (obtain ⟨c0, c1, c2, c3, c4, c5, c6, c7, c8, c9, c10, c11, c12, c13, c14, c15⟩ := cells16m (x := x) HTQ.b0); (obtain ⟨d0, d1, d2, d3, d4, d5, d6, d7, d8, d9, d10, d11, d12, d13, d14, d15⟩ := cells16m (x := y) HTQ.b1); clear HTQ
                   have HQ := Lib.hid hq
                   clear hq
                   unfold Oper.quietAt
                   go_simp
                   (try simp only [b2])
                   first
                   | rfl
                   | (go_at_call 17; exact ((HWK _).out).mono (fun e w' ⟨he, hb⟩ => ⟨he, HQ.out.on hb⟩))))
             clear hK K
             ((try simp only [Act.put]); (try simp only [List.setIfInBounds_toArray]); (try simp only [List.set_cons_zero, List.set_cons_succ]))))
        refine wpQuiet_nil ?_
        intro wq hq
        have HB := Lib.hid (HBZ.out.on hq)
        clear hq
        go_wp2_with fail
        go_ret
        exact ⟨rfl, HB.out.beh⟩
    · as_aux_lemma =>
        go_wp2_with fail
        have HBZ := Lib.hid (HB.out)
        clear HB
        refine wp_region_quiet (C := Kv.Beh w2) (by kernel_rfl) (by kernel_rfl) (Beh.start _).drew ?_
        repeat (first
          | (refine BigFrame.wpQuiet_skip (by exact Eq.refl false) ?_
             ((try simp only [Act.put]); (try simp only [List.setIfInBounds_toArray]); (try simp only [List.set_cons_zero, List.set_cons_succ])))
          | (refine BigFrame.wpQuiet_want (by exact Eq.refl true) (fun K hK => ?_)
             first
             | (refine quiet_move2 _ rfl (by go_simp; rfl) ?_; refine hK _ ?_)
             | (apply Exists.intro
                refine ⟨fun wq hq => ?_, hK _ ?_⟩
                · ((have HTQ := HBZ.out.on hq); (obtain ⟨c0, c1, c2, c3, c4, c5, c6, c7, c8, c9, c10, c11, c12, c13, c14, c15⟩ := cells16m (x := x) HTQ.b0); (obtain ⟨d0, d1, d2, d3, d4, d5, d6, d7, d8, d9, d10, d11, d12, d13, d14, d15⟩ := cells16m (x := y) HTQ.b1); clear HTQ
                   have HQ := Lib.hid hq
                   clear hq
                   unfold Oper.quietAt
                   go_simp
                   (try simp only [b2])
                   first
                   | rfl
                   | (go_at_call 17; exact ((HWK _).out).mono (fun e w' ⟨he, hb⟩ => ⟨he, HQ.out.on hb⟩))))
             clear hK K
             ((try simp only [Act.put]); (try simp only [List.setIfInBounds_toArray]); (try simp only [List.set_cons_zero, List.set_cons_succ]))))
        refine wpQuiet_nil ?_
        intro wq hq
        have HB := Lib.hid (HBZ.out.on hq)
        clear hq
        go_wp2_with fail
        go_ret
        exact ⟨rfl, HB.out.beh⟩
  have HL1 : Hid ((cMsg.enc (me x L)).length ≤ 16384) := hl
  have HO1 : Hid (OwnB 5 w1 b a cap (cMsg.enc (me x L))) := ho
  have HKM0 := Lib.hid (HKM0.out ok)
  clear hl ho ok HT1
  generalize cMsg.enc (me x L) = B1 at *
  have hn1 : ∃ n1 : Nat, n1 = B1.length := ⟨_, rfl⟩
  obtain ⟨n1, hn1⟩ := hn1
  have HN1 := Lib.hid hn1
  rw [← hn1]
  clear hn1
  go_wp2_with (first | (apply Bh.load_bx 0 HB.out Try.underlying61; rfl; rfl; rfl; rfl; rfl; kernel_rfl) | (apply Bh.load_bx 1 HB.out Try.underlying61; rfl; rfl; rfl; rfl; rfl; kernel_rfl))
  refine Calls.mono (HT2.out _ HB.out.beh) ?_
  rintro e w2 ⟨hb, hx⟩
  have HB := Lib.hid (HB.out.on hb)
  have HO1 := Lib.hid (HO1.out.kept (kept_beh hb) (fun _ h => h.elim))
  clear hb
  clear c0 c1 c2 c3 c4 c5 c6 c7 c8 c9 c10 c11 c12 c13 c14 c15 d0 d1 d2 d3 d4 d5 d6 d7 d8 d9 d10 d11 d12 d13 d14 d15
  rcases hx with ⟨ok, hl, b2, a2, cap2, rfl, ho, _⟩ | ⟨_, c, hc, rfl⟩
  rotate_left
  focus as_aux_lemma =>
    have b1 : (c == 0) = false := beq_eq_false_iff_ne.2 hc
    have b2 : (c != 0) = true := by unfold bne; rw [b1]; rfl
    clear hc HKM0 HO1
    go_wp2_with fail
    have HBZ := Lib.hid (HB.out)
    clear HB
    refine wp_region_quiet (C := Kv.Beh w2) (by kernel_rfl) (by kernel_rfl) (Beh.start _).drew ?_
    repeat (first
      | (refine BigFrame.wpQuiet_skip (by exact Eq.refl false) ?_
         ((try simp only [Act.put]); (try simp only [List.setIfInBounds_toArray]); (try simp only [List.set_cons_zero, List.set_cons_succ])))
      | (refine BigFrame.wpQuiet_want (by exact Eq.refl true) (fun K hK => ?_)
         first
         | (refine quiet_move2 _ rfl (by go_simp; rfl) ?_; refine hK _ ?_)
         | (apply Exists.intro
            refine ⟨fun wq hq => ?_, hK _ ?_⟩
            · ((have HTQ := HBZ.out.on hq); (obtain ⟨c0, c1, c2, c3, c4, c5, c6, c7, c8, c9, c10, c11, c12, c13, c14, c15⟩ := cells16m (x := x) HTQ.b0); (obtain ⟨d0, d1, d2, d3, d4, d5, d6, d7, d8, d9, d10, d11, d12, d13, d14, d15⟩ := cells16m (x := y) HTQ.b1); clear HTQ
               have HQ := Lib.hid hq
               clear hq
               unfold Oper.quietAt
               go_simp
               (try simp only [b2])
               first
               | rfl
               | (go_at_call 17; exact ((HWK _).out).mono (fun e w' ⟨he, hb⟩ => ⟨he, HQ.out.on hb⟩))))
         clear hK K
         ((try simp only [Act.put]); (try simp only [List.setIfInBounds_toArray]); (try simp only [List.set_cons_zero, List.set_cons_succ]))))
    refine wpQuiet_nil ?_
    intro wq hq
    have HB := Lib.hid (HBZ.out.on hq)
    clear hq
    go_wp2_with fail
    go_ret
    exact ⟨rfl, HB.out.beh⟩
  have HKM0 := Lib.hid (HKM0.out ok)
  have HKB : Hid (∀ W, Kv.Beh w2 W → Calls Try.prog 13 #[.slice a n1 cap, .slice a2 (cMsg.enc (me y M)).length cap2] W fun e w' => e = .returned (.bool (decide (B1 = cMsg.enc (me y M)))) ∧ Below W.heap.size W w') := fun W hW => by
    rw [HN1.out]
    exact (Kp.KBytes_any b a cap B1 b2 a2 cap2 _ W (HO1.out.kept (kept_beh hW) (fun _ h => h.elim)).src (ho.kept (kept_beh hW) (fun _ h => h.elim)).src (by have := HL1.out; omega) (by omega)).mono fun e w' h => by
      obtain ⟨h1, n, rfl⟩ := h
      exact ⟨h1, Bh.below_drewN (Below.refl _ _) _⟩
  have HKM : Hid (∀ W, Kv.Beh w2 W → Calls Try.prog 29 #[x.val, y.val] W fun e w' => e = .returned (.bool (decide (B1 = cMsg.enc (me y M)))) ∧ Below W.heap.size W w') := fun W hW => HKM0.out W (HB.out.beh.trans hW)
  clear ok hl ho HT2 HKM0 HO1 HL1
  generalize decide (B1 = cMsg.enc (me y M)) = q at *
  generalize (cMsg.enc (me y M)).length = n2 at *
  cases q
  · as_aux_lemma =>
      go_wp2_with fail
      have HBZ := Lib.hid (HB.out)
      clear HB
      refine wp_region_quiet (C := Kv.Beh w2) (by kernel_rfl) (by kernel_rfl) (Beh.start _).drew ?_
      repeat (first
        | (refine BigFrame.wpQuiet_skip (by exact Eq.refl false) ?_
           ((try simp only [Act.put]); (try simp only [List.setIfInBounds_toArray]); (try simp only [List.set_cons_zero, List.set_cons_succ])))
        | (refine BigFrame.wpQuiet_want (by exact Eq.refl true) (fun K hK => ?_)
           first
           | (refine quiet_move2 _ rfl (by go_simp; rfl) ?_; refine hK _ ?_)
           | (apply Exists.intro
              refine ⟨fun wq hq => ?_, hK _ ?_⟩
              · ((have HTQ := HBZ.out.on hq); (obtain ⟨c0, c1, c2, c3, c4, c5, c6, c7, c8, c9, c10, c11, c12, c13, c14, c15⟩ := cells16m (x := x) HTQ.b0); (obtain ⟨d0, d1, d2, d3, d4, d5, d6, d7, d8, d9, d10, d11, d12, d13, d14, d15⟩ := cells16m (x := y) HTQ.b1); clear HTQ
                 have HQ := Lib.hid hq
                 clear hq
                 unfold Oper.quietAt
                 go_simp
                 first
                 | rfl
                 | (go_at_call 13; exact (HKB.out _ HQ.out).mono (fun e w' ⟨he, hb⟩ => ⟨he, HQ.out.on hb⟩))
                 | (go_at_call 29; exact (HKM.out _ HQ.out).mono (fun e w' ⟨he, hb⟩ => ⟨he, HQ.out.on hb⟩))
                 | (go_at_call 17; exact ((HWK _).out).mono (fun e w' ⟨he, hb⟩ => ⟨he, HQ.out.on hb⟩))))
           clear hK K
           ((try simp only [Act.put]); (try simp only [List.setIfInBounds_toArray]); (try simp only [List.set_cons_zero, List.set_cons_succ]))))
      refine wpQuiet_nil ?_
      intro wq hq
      have HB := Lib.hid (HBZ.out.on hq)
      clear hq
      go_wp2_with fail
      go_ret
      exact ⟨rfl, HB.out.beh⟩
  · as_aux_lemma =>
      go_wp2_with fail
      have HBZ := Lib.hid (HB.out)
      clear HB
      refine wp_region_quiet (C := Kv.Beh w2) (by kernel_rfl) (by kernel_rfl) (Beh.start _).drew ?_
      repeat (first
        | (refine BigFrame.wpQuiet_skip (by exact Eq.refl false) ?_
           ((try simp only [Act.put]); (try simp only [List.setIfInBounds_toArray]); (try simp only [List.set_cons_zero, List.set_cons_succ])))
        | (refine BigFrame.wpQuiet_want (by exact Eq.refl true) (fun K hK => ?_)
           first
           | (refine quiet_move2 _ rfl (by go_simp; rfl) ?_; refine hK _ ?_)
           | (apply Exists.intro
              refine ⟨fun wq hq => ?_, hK _ ?_⟩
              · ((have HTQ := HBZ.out.on hq); (obtain ⟨c0, c1, c2, c3, c4, c5, c6, c7, c8, c9, c10, c11, c12, c13, c14, c15⟩ := cells16m (x := x) HTQ.b0); (obtain ⟨d0, d1, d2, d3, d4, d5, d6, d7, d8, d9, d10, d11, d12, d13, d14, d15⟩ := cells16m (x := y) HTQ.b1); clear HTQ
                 have HQ := Lib.hid hq
                 clear hq
                 unfold Oper.quietAt
                 go_simp
                 first
                 | rfl
                 | (go_at_call 13; exact (HKB.out _ HQ.out).mono (fun e w' ⟨he, hb⟩ => ⟨he, HQ.out.on hb⟩))
                 | (go_at_call 29; exact (HKM.out _ HQ.out).mono (fun e w' ⟨he, hb⟩ => ⟨he, HQ.out.on hb⟩))
                 | (go_at_call 17; exact ((HWK _).out).mono (fun e w' ⟨he, hb⟩ => ⟨he, HQ.out.on hb⟩))))
           clear hK K
           ((try simp only [Act.put]); (try simp only [List.setIfInBounds_toArray]); (try simp only [List.set_cons_zero, List.set_cons_succ]))))
      refine wpQuiet_nil ?_
      intro wq hq
      have HB := Lib.hid (HBZ.out.on hq)
      clear hq
      go_wp2_with fail
      go_ret
      exact ⟨rfl, HB.out.beh⟩
end Go.Proofs.Ytjdebdfbjcpjgaa.Wr
end
section
/- WireUnlike, in the form that its card wants. -/
namespace Go.Proofs.Ytjdebdfbjcpjgaa.Wr
open Go Go.RowKit Lg
theorem WireUnlike_told (x y : Mr) (w : World) (hx : MsgD w 2 x) (hy : MsgD w 2 y) :
    Calls Try.prog 8 #[x.val, y.val] w fun e w' => e = .returned (.bool true) ∧ Below w.heap.size w w' := by
  obtain ⟨L, h1, h2, h3⟩ := hx.open_
  obtain ⟨M, g1, g2, g3⟩ := hy.open_
  exact WireUnlike_law x y L M w h1 h2 h3 g1 g2 g3
end Go.Proofs.Ytjdebdfbjcpjgaa.Wr
end
