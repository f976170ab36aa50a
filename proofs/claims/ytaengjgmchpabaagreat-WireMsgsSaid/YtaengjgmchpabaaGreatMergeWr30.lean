import Derived.Test.YtaengjgmchpabaaGreatMergeWr15
import Derived.Test.YtaengjgmchpabaaGreatMergeWr2
import Derived.Test.YtaengjgmchpabaaGreatMergeWr29
import Derived.Test.YtaengjgmchpabaaGreatMergeWr11
import Derived.Test.YtaengjgmchpabaaGreatMergeWr6
import Derived.Test.YtaengjgmchpabaaGreatWireW2
section
/- The keeper's Cmd, Call, Entry. -/
namespace Go.Proofs.YtaengjgmchpabaaGreat.Lg
open Go Go.RowKit Vl Kv Ss Cn Mem Li Nm
attribute [local go_sem] Nm.run_bits Nm.run_frombits run_store_float
attribute [local irreducible] wpQuiet

theorem Cm.same_told (a b : Cm) : Cm.same a b = ((a.kind == b.kind) && (a.key.toList == b.key.toList) && a.old.same b.old && a.val.same b.val) := by
  unfold Cm.same; rw [key_test]
set_option maxHeartbeats 1600000 in
set_option maxRecDepth 100000 in
theorem keepCmd_any (a b : Cm) (w : World) :
    Calls Tryz.prog 99 #[a.agg, b.agg] w fun e w' => e = .returned (.bool (Cm.same a b)) ∧ Below w.heap.size w w' := by
  have HC := Lib.hid (Cm.same_told a b)
  have HT := Lib.hid (Bh.Two.start w a.obj b.obj)
  obtain ⟨ka, ya, oa, va⟩ := a
  obtain ⟨kb, yb, ob, vb⟩ := b
  unfold Cm.obj at HT
  dsimp only at HT HC
  cases h1 : ka == kb
  · go_enter Tryz.func99, Tryz.ntmps99
    go_wp2_with fail
    go_ret
    exact ⟨ret_bool (by rw [HC.out, h1]; rfl), HT.out.beh⟩
  cases h2 : (ya.toList == yb.toList)
  · go_enter Tryz.func99, Tryz.ntmps99
    go_wp2_with fail
    go_ret
    exact ⟨ret_bool (by rw [HC.out, h1, h2]; rfl), HT.out.beh⟩
  obtain ⟨ok, on, os⟩ := oa
  obtain ⟨ok', on', os'⟩ := ob
  obtain ⟨vk, vn, vs⟩ := va
  obtain ⟨vk', vn', vs'⟩ := vb
  dsimp only at HT
  cases h3 : (V.mk ok on os).same ⟨ok', on', os'⟩
  all_goals
    go_enter Tryz.func99, Tryz.ntmps99
    go_wp2_with (first | (go_at_call 108; refine (keepValue_any ⟨_, _, _⟩ ⟨_, _, _⟩ _).mono ?_; rintro e w' ⟨rfl, hb⟩; (first | rw [h3] | skip); (have HT := Lib.hid (HT.out.on hb)); clear hb; (obtain ⟨c0, c1, c2, c3, c4, c5, c6, c7⟩ := cells8 HT.out.a); (obtain ⟨d0, d1, d2, d3, d4, d5, d6, d7⟩ := cells8 HT.out.b)))
    go_ret
    exact ⟨ret_bool (by rw [HC.out, h1, h2, h3]; simp), HT.out.beh⟩
theorem cells10c {w : World} {b : Nat} {c : Cl} (h : w.heap[b]? = some c.obj) :
    w.cell? ⟨b, 0, none⟩ = some (.int .i64 c.client) ∧ w.cell? ⟨b, 1, none⟩ = some (.int .i64 c.seq) ∧ w.cell? ⟨b, 2, none⟩ = some (.int .i64 c.cmd.kind) ∧ w.cell? ⟨b, 3, none⟩ = some (.string c.cmd.key) ∧ w.cell? ⟨b, 4, none⟩ = some (.int .i64 c.cmd.old.kind) ∧ w.cell? ⟨b, 5, none⟩ = some (.float .f64 c.cmd.old.num) ∧ w.cell? ⟨b, 6, none⟩ = some (.string c.cmd.old.text) ∧ w.cell? ⟨b, 7, none⟩ = some (.int .i64 c.cmd.val.kind) ∧ w.cell? ⟨b, 8, none⟩ = some (.float .f64 c.cmd.val.num) ∧ w.cell? ⟨b, 9, none⟩ = some (.string c.cmd.val.text) := cells10 h
set_option maxHeartbeats 1600000 in
set_option maxRecDepth 100000 in
theorem keepCall_any (a b : Cl) (w : World) :
    Calls Tryz.prog 90 #[a.agg, b.agg] w fun e w' => e = .returned (.bool (Cl.same a b)) ∧ Below w.heap.size w w' := by
  have HC := Lib.hid (show Cl.same a b = ((a.client == b.client) && (a.seq == b.seq) && Cm.same a.cmd b.cmd) from rfl)
  have HT := Lib.hid (Bh.Two.start w a.obj b.obj)
  have HK := Lib.hid (keepCmd_any a.cmd b.cmd)
  obtain ⟨ca, sa, da⟩ := a
  obtain ⟨cb, sb, db⟩ := b
  unfold Cl.obj at HT
  dsimp only at HT HC HK
  generalize Cm.same da db = q at *
  cases h1 : ca == cb
  · go_enter Tryz.func90, Tryz.ntmps90
    go_wp2_with fail
    go_ret
    exact ⟨ret_bool (by rw [HC.out, h1]; rfl), HT.out.beh⟩
  cases h2 : sa == sb
  · go_enter Tryz.func90, Tryz.ntmps90
    go_wp2_with fail
    go_ret
    exact ⟨ret_bool (by rw [HC.out, h1, h2]; rfl), HT.out.beh⟩
  go_enter Tryz.func90, Tryz.ntmps90
  go_wp2_with (first | (go_at_call 99; refine (HK.out _).mono ?_; rintro e w' ⟨rfl, hb⟩; (have HT := Lib.hid (HT.out.on hb)); clear hb))
  go_ret
  exact ⟨ret_bool (by rw [HC.out, h1, h2]; rfl), HT.out.beh⟩
set_option maxHeartbeats 1600000 in
set_option maxRecDepth 100000 in
theorem keepEntry_self (x : E) (w : World) :
    Calls Tryz.prog 79 #[x.agg, x.agg] w fun e w' => e = .returned (.bool true) ∧ Below w.heap.size w w' := by
  have HT := Lib.hid (Bh.Two.start w x.obj x.obj)
  have HK : Hid (∀ w, Calls Tryz.prog 90 #[x.call.agg, x.call.agg] w fun e w' => e = .returned (.bool true) ∧ Below w.heap.size w w') := fun w => by
    have := keepCall_any x.call x.call w
    rwa [Cl.same_refl] at this
  have HN : Hid (∀ w, Calls Tryz.prog 63 #[x.conf.val, x.conf.val] w fun e w' => e = .returned (.bool true) ∧ Below w.heap.size w w') := fun w => by
    have := keepConf_any x.conf x.conf w
    rwa [decide_eq_true rfl] at this
  unfold E.obj at HT
  go_enter Tryz.func79, Tryz.ntmps79
  go_wp2_with (first
    | (go_at_call 90; refine (HK.out _).mono ?_; rintro e w' ⟨rfl, hb⟩; (have HT := Lib.hid (HT.out.on hb)); clear hb; (obtain ⟨c0, c1, c2, c3, c4, c5, c6, c7, c8, c9, c10, c11, c12, c13, c14, c15⟩ := cells16 HT.out.a); (obtain ⟨d0, d1, d2, d3, d4, d5, d6, d7, d8, d9, d10, d11, d12, d13, d14, d15⟩ := cells16 HT.out.b))
    | (go_at_call 63; refine (HN.out _).mono ?_; rintro e w' ⟨rfl, hb⟩; (have HT := Lib.hid (HT.out.on hb)); clear hb))
  go_ret
  exact ⟨rfl, HT.out.beh⟩
end Go.Proofs.YtaengjgmchpabaaGreat.Lg
end
section
/- The reference's writers: what may be written. -/
namespace Go.Proofs.YtaengjgmchpabaaGreat.Wr
open Go Go.RowKit Vl Kv Ss Cn Lg Li Nm
attribute [local go_sem] Nm.run_bits Nm.run_frombits run_store_float
attribute [local irreducible] wpQuiet
set_option maxHeartbeats 1600000 in
set_option maxRecDepth 100000 in
theorem zeroCallW (c : Cl) (w : World) :
    Calls Tryz.prog 93 #[c.agg] w fun e w' => e = .returned (.bool (noCall c)) ∧ Below w.heap.size w w' := by
  have HB := Lib.hid (Bh.Bx.one w c.obj)
  have HN : ∀ w, Hid (Calls Tryz.prog 90 #[c.agg, Cl.zero.agg] w fun e w' => e = .returned (.bool (noCall c)) ∧ Below w.heap.size w w') := fun w => keepCall_any c Cl.zero w
  generalize noCall c = n at *
  unfold Cl.obj at HB
  obtain ⟨c0, c1, c2, c3, c4, c5, c6, c7, c8, c9⟩ := Lg.cells10c (c := c) HB.out.b0
  go_enter Tryz.func93, Tryz.ntmps93
  go_wp2_with (first | (go_at_call 90; refine ((HN _).out).mono ?_; rintro e w' ⟨rfl, hb⟩; (have HB := Lib.hid (HB.out.on hb)); clear hb))
  go_ret
  exact ⟨rfl, HB.out.beh⟩
set_option maxHeartbeats 1600000 in
set_option maxRecDepth 100000 in
theorem zeroConfW (c : C) (w : World) :
    Calls Tryz.prog 94 #[c.val] w fun e w' => e = .returned (.bool (decide (c = C.zero))) ∧ Below w.heap.size w w' := by
  have HB := Lib.hid (Bh.Bx.one w (Lg.C.obj c))
  have HN : ∀ w, Hid (Calls Tryz.prog 63 #[c.val, C.zero.val] w fun e w' => e = .returned (.bool (decide (c = C.zero))) ∧ Below w.heap.size w w') := fun w => keepConf_any c C.zero w
  generalize decide (c = C.zero) = n at *
  unfold Lg.C.obj at HB
  obtain ⟨c0, c1, c2, c3⟩ := Bh.cells4 HB.out.b0
  go_enter Tryz.func94, Tryz.ntmps94
  go_wp2_with (first | (go_at_call 63; refine ((HN _).out).mono ?_; rintro e w' ⟨rfl, hb⟩; (have HB := Lib.hid (HB.out.on hb)); clear hb))
  go_ret
  exact ⟨rfl, HB.out.beh⟩
theorem nat_zeq (n : Nat) : ((n : Int) == 0) = (n == 0) := by rw [Bool.eq_iff_iff, beq_iff_eq, beq_iff_eq]; omega
theorem nat_beqs (n m : Nat) : ((n : Int) == (m : Int)) = (m == n) := by rw [Bool.eq_iff_iff, beq_iff_eq, beq_iff_eq]; omega
theorem okV_out {v : V} (h : v.kind < 0 ∨ 2 < v.kind) : okV v = false := by
  unfold okV
  rcases h with h | h
  · rw [decide_eq_false (by omega : ¬ 0 ≤ v.kind)]; rfl
  · rw [decide_eq_false (by omega : ¬ v.kind ≤ 2)]; simp
set_option maxHeartbeats 3200000 in
set_option maxRecDepth 100000 in
theorem refValOk (v : V) (w : World) :
    Calls Tryz.prog 95 #[v.val] w fun e w' => e = .returned (.bool (okV v)) ∧ Below w.heap.size w w' := by
  have HB := Lib.hid (Bh.Bx.one w (.cells #[.int .i64 v.kind, .float .f64 v.num, .string v.text] 64))
  have HO := fun h => okV_out (v := v) h
  have HE : Hid (okV v = (decide (0 ≤ v.kind) && decide (v.kind ≤ 2) && (decide (v.kind = 2) || decide (v.text = ⟨#[]⟩)) && (if v.kind = 1 then Nm.canon v.num == v.num else v.num == 0))) := rfl
  generalize okV v = q at *
  obtain ⟨k, n, t⟩ := v
  dsimp only at HB HO HE
  obtain ⟨c0, c1, c2, _⟩ := cells3 HB.out.b0
  by_cases h1 : k < 0
  · have HX := Lib.hid (HO (.inl h1))
    have d1 : decide (k < 0) = true := decide_eq_true h1
    clear HO h1
    go_enter Tryz.func95, Tryz.ntmps95
    go_wp2_with fail
    go_ret
    exact ⟨ret_bool HX.out.symm, HB.out.beh⟩
  by_cases h2 : 2 < k
  · have HX := Lib.hid (HO (.inr h2))
    have d1 : decide (k < 0) = false := decide_eq_false h1
    have d2 : decide (2 < k) = true := decide_eq_true h2
    clear HO h1 h2
    go_enter Tryz.func95, Tryz.ntmps95
    go_wp2_with fail
    go_ret
    exact ⟨ret_bool HX.out.symm, HB.out.beh⟩
  clear HO
  have ht := text_nil t
  have hte := text_emp t
  obtain ⟨q1, hq1⟩ : ∃ q, decide (t = ⟨#[]⟩) = q := ⟨_, rfl⟩
  rw [hq1] at ht hte HE
  clear hq1
  have HE := Lib.hid HE.out
  obtain rfl | rfl | rfl : k = 0 ∨ k = 1 ∨ k = 2 := by omega
  · clear h1 h2
    cases q1
    · have HX : Hid (q = false) := Lib.hid (by rw [HE.out]; simp)
      go_enter Tryz.func95, Tryz.ntmps95
      go_wp2_with fail
      go_ret
      exact ⟨ret_bool (by rw [HX.out]), HB.out.beh⟩
    · have HX : Hid (q = (n == 0)) := Lib.hid (by rw [HE.out]; simp)
      go_enter Tryz.func95, Tryz.ntmps95
      go_wp2_with fail
      go_quiet ((go_at_call 103; exact Calls.quiet_of_same (Pk.refCanon_any _ _)))
      go_wp2_with fail
      go_ret
      exact ⟨ret_bool (by rw [HX.out]; first | rfl | exact nat_zeq n), Bh.below_drewN HB.out.beh _⟩
  · clear h1 h2
    cases q1
    · have HX : Hid (q = false) := Lib.hid (by rw [HE.out]; simp)
      go_enter Tryz.func95, Tryz.ntmps95
      go_wp2_with fail
      go_ret
      exact ⟨ret_bool (by rw [HX.out]), HB.out.beh⟩
    · have HX : Hid (q = (Nm.canon n == n)) := Lib.hid (by rw [HE.out]; simp)
      have h3 := nat_beqs n (Nm.canon n)
      cases hq : (Nm.canon n == n)
      all_goals
        rw [hq] at HX h3
        clear hq
        go_enter Tryz.func95, Tryz.ntmps95
        go_wp2_with fail
        have HCN := Lib.hid (Pk.refCanon_any n)
        refine wp_region_quiet (C := Bh.Bx w [(.cells #[.int .i64 1, .float .f64 n, .string t] 64)]) (by kernel_rfl) (by kernel_rfl) (HB.out.drew) ?_
        repeat (first
          | (refine BigFrame.wpQuiet_skip (by exact Eq.refl false) ?_
             ((try simp only [Act.put]); (try simp only [List.setIfInBounds_toArray]); (try simp only [List.set_cons_zero, List.set_cons_succ])))
          | (refine BigFrame.wpQuiet_want (by exact Eq.refl true) (fun K hK => ?_)
             first
             | (refine quiet_move2 _ rfl (by go_simp; rfl) ?_; refine hK _ ?_)
             | (apply Exists.intro
                refine ⟨fun wq hq => ?_, hK _ ?_⟩
                · ((obtain ⟨c0, c1, c2, _⟩ := cells3 hq.b0)
                   have HQ := Lib.hid hq
                   clear hq
                   unfold Oper.quietAt
                   go_simp
                   first
                   | rfl
                   | (go_at_call 103; exact (HCN.out _).mono (fun e w' ⟨he, he2⟩ => ⟨he, he2 ▸ HQ.out⟩))))
             clear hK K
             ((try simp only [Act.put]); (try simp only [List.setIfInBounds_toArray]); (try simp only [List.set_cons_zero, List.set_cons_succ]))))
        refine wpQuiet_nil ?_
        intro wq hq
        have HB := Lib.hid hq
        clear hq
        go_wp2_with fail
        go_ret
        exact ⟨ret_bool (by rw [HX.out]), HB.out.beh⟩
  · clear h1 h2 ht hte
    have HX : Hid (q = (n == 0)) := Lib.hid (by rw [HE.out]; simp)
    go_enter Tryz.func95, Tryz.ntmps95
    go_wp2_with fail
    go_quiet ((go_at_call 103; exact Calls.quiet_of_same (Pk.refCanon_any _ _)))
    go_wp2_with fail
    go_ret
    exact ⟨ret_bool (by rw [HX.out]; first | rfl | exact nat_zeq n), Bh.below_drewN HB.out.beh _⟩
end Go.Proofs.YtaengjgmchpabaaGreat.Wr
end
section
/- The reference's writers: entry, entries. -/
namespace Go.Proofs.YtaengjgmchpabaaGreat.Wr
open Go Go.RowKit Vl Kv Ss Cn Lg Li Nm
attribute [local go_sem] Nm.run_bits Nm.run_frombits run_store_float
set_option maxHeartbeats 6400000 in
set_option maxRecDepth 100000 in
theorem refEntOk (x : E) (w : World) :
    Calls Tryz.prog 82 #[x.agg] w fun e w' => e = .returned (.bool (okE x)) ∧ Below w.heap.size w w' := by
  have HB := Lib.hid (Bh.Bx.one w x.obj)
  have HN := fun w => Lib.hid (zeroCallW x.call w)
  have HZC := fun w => Lib.hid (zeroConfW x.conf w)
  have HE := Lib.hid (show okE x = (decide (0 ≤ x.kind) && decide (x.kind ≤ 2) && (decide (x.kind = 1) || noCall x.call) && (decide (x.kind = 2) || decide (x.conf = C.zero)) && (!decide (x.kind = 1) || (okV x.call.cmd.old && okV x.call.cmd.val))) from rfl)
  generalize okE x = q at *
  generalize noCall x.call = n at *
  generalize decide (x.conf = C.zero) = z at *
  generalize hv1 : okV x.call.cmd.old = v1 at *
  generalize hv2 : okV x.call.cmd.val = v2 at *
  unfold E.obj at HB
  obtain ⟨tm, kd, ⟨cl, sq, ⟨ck, ky, ⟨o1, o2, o3⟩, ⟨u1, u2, u3⟩⟩⟩, ⟨f, wt, l, xx⟩⟩ := x
  dsimp only at HB HN HZC hv1 hv2 HE
  (obtain ⟨c0, c1, c2, c3, c4, c5, c6, c7, c8, c9, c10, c11, c12, c13, c14, c15⟩ := Lg.cells16 HB.out.b0)
  by_cases h1 : kd < 0
  · have HX : Hid (q = false) := Lib.hid (by rw [HE.out, decide_eq_false (by omega : ¬ 0 ≤ kd)]; rfl)
    have d1 : decide (kd < 0) = true := decide_eq_true h1
    clear h1 HE
    go_enter Tryz.func82, Tryz.ntmps82
    go_wp2_with (first | (go_at_call 94; refine ((HZC _).out).mono ?_; rintro e w' ⟨rfl, hb⟩; (have HB := Lib.hid (HB.out.on hb)); clear hb; (obtain ⟨c0, c1, c2, c3, c4, c5, c6, c7, c8, c9, c10, c11, c12, c13, c14, c15⟩ := Lg.cells16 HB.out.b0)) | (go_at_call 93; refine ((HN _).out).mono ?_; rintro e w' ⟨rfl, hb⟩; (have HB := Lib.hid (HB.out.on hb)); clear hb; (obtain ⟨c0, c1, c2, c3, c4, c5, c6, c7, c8, c9, c10, c11, c12, c13, c14, c15⟩ := Lg.cells16 HB.out.b0)) | (go_at_call 95; refine (refValOk ⟨_, _, _⟩ _).mono ?_; rintro e w' ⟨rfl, hb⟩; (first | rw [hv1] | rw [hv2]); (have HB := Lib.hid (HB.out.on hb)); clear hb; (obtain ⟨c0, c1, c2, c3, c4, c5, c6, c7, c8, c9, c10, c11, c12, c13, c14, c15⟩ := Lg.cells16 HB.out.b0)))
    go_ret
    exact ⟨ret_bool (by first | (rw [HX.out]; done) | (rw [HX.out]; rfl) | (rw [HX.out]; simp)), HB.out.beh⟩
  by_cases h2 : 2 < kd
  · have HX : Hid (q = false) := Lib.hid (by rw [HE.out, decide_eq_false (by omega : ¬ kd ≤ 2)]; simp)
    have d1 : decide (kd < 0) = false := decide_eq_false h1
    have d2 : decide (2 < kd) = true := decide_eq_true h2
    clear h1 h2 HE
    go_enter Tryz.func82, Tryz.ntmps82
    go_wp2_with (first | (go_at_call 94; refine ((HZC _).out).mono ?_; rintro e w' ⟨rfl, hb⟩; (have HB := Lib.hid (HB.out.on hb)); clear hb; (obtain ⟨c0, c1, c2, c3, c4, c5, c6, c7, c8, c9, c10, c11, c12, c13, c14, c15⟩ := Lg.cells16 HB.out.b0)) | (go_at_call 93; refine ((HN _).out).mono ?_; rintro e w' ⟨rfl, hb⟩; (have HB := Lib.hid (HB.out.on hb)); clear hb; (obtain ⟨c0, c1, c2, c3, c4, c5, c6, c7, c8, c9, c10, c11, c12, c13, c14, c15⟩ := Lg.cells16 HB.out.b0)) | (go_at_call 95; refine (refValOk ⟨_, _, _⟩ _).mono ?_; rintro e w' ⟨rfl, hb⟩; (first | rw [hv1] | rw [hv2]); (have HB := Lib.hid (HB.out.on hb)); clear hb; (obtain ⟨c0, c1, c2, c3, c4, c5, c6, c7, c8, c9, c10, c11, c12, c13, c14, c15⟩ := Lg.cells16 HB.out.b0)))
    go_ret
    exact ⟨ret_bool (by first | (rw [HX.out]; done) | (rw [HX.out]; rfl) | (rw [HX.out]; simp)), HB.out.beh⟩
  obtain rfl | rfl | rfl : kd = 0 ∨ kd = 1 ∨ kd = 2 := by omega
  · clear h1 h2 hv1 hv2
    have HX : Hid (q = (n && z)) := Lib.hid (by rw [HE.out]; simp)
    clear HE
    cases n
    · go_enter Tryz.func82, Tryz.ntmps82
      go_wp2_with (first | (go_at_call 94; refine ((HZC _).out).mono ?_; rintro e w' ⟨rfl, hb⟩; (have HB := Lib.hid (HB.out.on hb)); clear hb; (obtain ⟨c0, c1, c2, c3, c4, c5, c6, c7, c8, c9, c10, c11, c12, c13, c14, c15⟩ := Lg.cells16 HB.out.b0)) | (go_at_call 93; refine ((HN _).out).mono ?_; rintro e w' ⟨rfl, hb⟩; (have HB := Lib.hid (HB.out.on hb)); clear hb; (obtain ⟨c0, c1, c2, c3, c4, c5, c6, c7, c8, c9, c10, c11, c12, c13, c14, c15⟩ := Lg.cells16 HB.out.b0)) | (go_at_call 95; refine (refValOk ⟨_, _, _⟩ _).mono ?_; rintro e w' ⟨rfl, hb⟩; (first | rw [hv1] | rw [hv2]); (have HB := Lib.hid (HB.out.on hb)); clear hb; (obtain ⟨c0, c1, c2, c3, c4, c5, c6, c7, c8, c9, c10, c11, c12, c13, c14, c15⟩ := Lg.cells16 HB.out.b0)))
      go_ret
      exact ⟨ret_bool (by first | (rw [HX.out]; done) | (rw [HX.out]; rfl) | (rw [HX.out]; simp)), HB.out.beh⟩
    cases z
    · go_enter Tryz.func82, Tryz.ntmps82
      go_wp2_with (first | (go_at_call 94; refine ((HZC _).out).mono ?_; rintro e w' ⟨rfl, hb⟩; (have HB := Lib.hid (HB.out.on hb)); clear hb; (obtain ⟨c0, c1, c2, c3, c4, c5, c6, c7, c8, c9, c10, c11, c12, c13, c14, c15⟩ := Lg.cells16 HB.out.b0)) | (go_at_call 93; refine ((HN _).out).mono ?_; rintro e w' ⟨rfl, hb⟩; (have HB := Lib.hid (HB.out.on hb)); clear hb; (obtain ⟨c0, c1, c2, c3, c4, c5, c6, c7, c8, c9, c10, c11, c12, c13, c14, c15⟩ := Lg.cells16 HB.out.b0)) | (go_at_call 95; refine (refValOk ⟨_, _, _⟩ _).mono ?_; rintro e w' ⟨rfl, hb⟩; (first | rw [hv1] | rw [hv2]); (have HB := Lib.hid (HB.out.on hb)); clear hb; (obtain ⟨c0, c1, c2, c3, c4, c5, c6, c7, c8, c9, c10, c11, c12, c13, c14, c15⟩ := Lg.cells16 HB.out.b0)))
      go_ret
      exact ⟨ret_bool (by first | (rw [HX.out]; done) | (rw [HX.out]; rfl) | (rw [HX.out]; simp)), HB.out.beh⟩
    · go_enter Tryz.func82, Tryz.ntmps82
      go_wp2_with (first | (go_at_call 94; refine ((HZC _).out).mono ?_; rintro e w' ⟨rfl, hb⟩; (have HB := Lib.hid (HB.out.on hb)); clear hb; (obtain ⟨c0, c1, c2, c3, c4, c5, c6, c7, c8, c9, c10, c11, c12, c13, c14, c15⟩ := Lg.cells16 HB.out.b0)) | (go_at_call 93; refine ((HN _).out).mono ?_; rintro e w' ⟨rfl, hb⟩; (have HB := Lib.hid (HB.out.on hb)); clear hb; (obtain ⟨c0, c1, c2, c3, c4, c5, c6, c7, c8, c9, c10, c11, c12, c13, c14, c15⟩ := Lg.cells16 HB.out.b0)) | (go_at_call 95; refine (refValOk ⟨_, _, _⟩ _).mono ?_; rintro e w' ⟨rfl, hb⟩; (first | rw [hv1] | rw [hv2]); (have HB := Lib.hid (HB.out.on hb)); clear hb; (obtain ⟨c0, c1, c2, c3, c4, c5, c6, c7, c8, c9, c10, c11, c12, c13, c14, c15⟩ := Lg.cells16 HB.out.b0)))
      go_ret
      exact ⟨ret_bool (by first | (rw [HX.out]; done) | (rw [HX.out]; rfl) | (rw [HX.out]; simp)), HB.out.beh⟩
  · clear h1 h2
    have HX : Hid (q = (z && (v1 && v2))) := Lib.hid (by rw [HE.out]; simp)
    clear HE
    cases z
    · go_enter Tryz.func82, Tryz.ntmps82
      go_wp2_with (first | (go_at_call 94; refine ((HZC _).out).mono ?_; rintro e w' ⟨rfl, hb⟩; (have HB := Lib.hid (HB.out.on hb)); clear hb; (obtain ⟨c0, c1, c2, c3, c4, c5, c6, c7, c8, c9, c10, c11, c12, c13, c14, c15⟩ := Lg.cells16 HB.out.b0)) | (go_at_call 93; refine ((HN _).out).mono ?_; rintro e w' ⟨rfl, hb⟩; (have HB := Lib.hid (HB.out.on hb)); clear hb; (obtain ⟨c0, c1, c2, c3, c4, c5, c6, c7, c8, c9, c10, c11, c12, c13, c14, c15⟩ := Lg.cells16 HB.out.b0)) | (go_at_call 95; refine (refValOk ⟨_, _, _⟩ _).mono ?_; rintro e w' ⟨rfl, hb⟩; (first | rw [hv1] | rw [hv2]); (have HB := Lib.hid (HB.out.on hb)); clear hb; (obtain ⟨c0, c1, c2, c3, c4, c5, c6, c7, c8, c9, c10, c11, c12, c13, c14, c15⟩ := Lg.cells16 HB.out.b0)))
      go_ret
      exact ⟨ret_bool (by first | (rw [HX.out]; done) | (rw [HX.out]; rfl) | (rw [HX.out]; simp)), HB.out.beh⟩
    cases v1
    · go_enter Tryz.func82, Tryz.ntmps82
      go_wp2_with (first | (go_at_call 94; refine ((HZC _).out).mono ?_; rintro e w' ⟨rfl, hb⟩; (have HB := Lib.hid (HB.out.on hb)); clear hb; (obtain ⟨c0, c1, c2, c3, c4, c5, c6, c7, c8, c9, c10, c11, c12, c13, c14, c15⟩ := Lg.cells16 HB.out.b0)) | (go_at_call 93; refine ((HN _).out).mono ?_; rintro e w' ⟨rfl, hb⟩; (have HB := Lib.hid (HB.out.on hb)); clear hb; (obtain ⟨c0, c1, c2, c3, c4, c5, c6, c7, c8, c9, c10, c11, c12, c13, c14, c15⟩ := Lg.cells16 HB.out.b0)) | (go_at_call 95; refine (refValOk ⟨_, _, _⟩ _).mono ?_; rintro e w' ⟨rfl, hb⟩; (first | rw [hv1] | rw [hv2]); (have HB := Lib.hid (HB.out.on hb)); clear hb; (obtain ⟨c0, c1, c2, c3, c4, c5, c6, c7, c8, c9, c10, c11, c12, c13, c14, c15⟩ := Lg.cells16 HB.out.b0)))
      go_ret
      exact ⟨ret_bool (by first | (rw [HX.out]; done) | (rw [HX.out]; rfl) | (rw [HX.out]; simp)), HB.out.beh⟩
    cases v2
    · go_enter Tryz.func82, Tryz.ntmps82
      go_wp2_with (first | (go_at_call 94; refine ((HZC _).out).mono ?_; rintro e w' ⟨rfl, hb⟩; (have HB := Lib.hid (HB.out.on hb)); clear hb; (obtain ⟨c0, c1, c2, c3, c4, c5, c6, c7, c8, c9, c10, c11, c12, c13, c14, c15⟩ := Lg.cells16 HB.out.b0)) | (go_at_call 93; refine ((HN _).out).mono ?_; rintro e w' ⟨rfl, hb⟩; (have HB := Lib.hid (HB.out.on hb)); clear hb; (obtain ⟨c0, c1, c2, c3, c4, c5, c6, c7, c8, c9, c10, c11, c12, c13, c14, c15⟩ := Lg.cells16 HB.out.b0)) | (go_at_call 95; refine (refValOk ⟨_, _, _⟩ _).mono ?_; rintro e w' ⟨rfl, hb⟩; (first | rw [hv1] | rw [hv2]); (have HB := Lib.hid (HB.out.on hb)); clear hb; (obtain ⟨c0, c1, c2, c3, c4, c5, c6, c7, c8, c9, c10, c11, c12, c13, c14, c15⟩ := Lg.cells16 HB.out.b0)))
      go_ret
      exact ⟨ret_bool (by first | (rw [HX.out]; done) | (rw [HX.out]; rfl) | (rw [HX.out]; simp)), HB.out.beh⟩
    · go_enter Tryz.func82, Tryz.ntmps82
      go_wp2_with (first | (go_at_call 94; refine ((HZC _).out).mono ?_; rintro e w' ⟨rfl, hb⟩; (have HB := Lib.hid (HB.out.on hb)); clear hb; (obtain ⟨c0, c1, c2, c3, c4, c5, c6, c7, c8, c9, c10, c11, c12, c13, c14, c15⟩ := Lg.cells16 HB.out.b0)) | (go_at_call 93; refine ((HN _).out).mono ?_; rintro e w' ⟨rfl, hb⟩; (have HB := Lib.hid (HB.out.on hb)); clear hb; (obtain ⟨c0, c1, c2, c3, c4, c5, c6, c7, c8, c9, c10, c11, c12, c13, c14, c15⟩ := Lg.cells16 HB.out.b0)) | (go_at_call 95; refine (refValOk ⟨_, _, _⟩ _).mono ?_; rintro e w' ⟨rfl, hb⟩; (first | rw [hv1] | rw [hv2]); (have HB := Lib.hid (HB.out.on hb)); clear hb; (obtain ⟨c0, c1, c2, c3, c4, c5, c6, c7, c8, c9, c10, c11, c12, c13, c14, c15⟩ := Lg.cells16 HB.out.b0)))
      go_ret
      exact ⟨ret_bool (by first | (rw [HX.out]; done) | (rw [HX.out]; rfl) | (rw [HX.out]; simp)), HB.out.beh⟩
  · clear h1 h2 hv1 hv2
    have HX : Hid (q = n) := Lib.hid (by rw [HE.out]; simp)
    clear HE
    cases n
    · go_enter Tryz.func82, Tryz.ntmps82
      go_wp2_with (first | (go_at_call 94; refine ((HZC _).out).mono ?_; rintro e w' ⟨rfl, hb⟩; (have HB := Lib.hid (HB.out.on hb)); clear hb; (obtain ⟨c0, c1, c2, c3, c4, c5, c6, c7, c8, c9, c10, c11, c12, c13, c14, c15⟩ := Lg.cells16 HB.out.b0)) | (go_at_call 93; refine ((HN _).out).mono ?_; rintro e w' ⟨rfl, hb⟩; (have HB := Lib.hid (HB.out.on hb)); clear hb; (obtain ⟨c0, c1, c2, c3, c4, c5, c6, c7, c8, c9, c10, c11, c12, c13, c14, c15⟩ := Lg.cells16 HB.out.b0)) | (go_at_call 95; refine (refValOk ⟨_, _, _⟩ _).mono ?_; rintro e w' ⟨rfl, hb⟩; (first | rw [hv1] | rw [hv2]); (have HB := Lib.hid (HB.out.on hb)); clear hb; (obtain ⟨c0, c1, c2, c3, c4, c5, c6, c7, c8, c9, c10, c11, c12, c13, c14, c15⟩ := Lg.cells16 HB.out.b0)))
      go_ret
      exact ⟨ret_bool (by first | (rw [HX.out]; done) | (rw [HX.out]; rfl) | (rw [HX.out]; simp)), HB.out.beh⟩
    · go_enter Tryz.func82, Tryz.ntmps82
      go_wp2_with (first | (go_at_call 94; refine ((HZC _).out).mono ?_; rintro e w' ⟨rfl, hb⟩; (have HB := Lib.hid (HB.out.on hb)); clear hb; (obtain ⟨c0, c1, c2, c3, c4, c5, c6, c7, c8, c9, c10, c11, c12, c13, c14, c15⟩ := Lg.cells16 HB.out.b0)) | (go_at_call 93; refine ((HN _).out).mono ?_; rintro e w' ⟨rfl, hb⟩; (have HB := Lib.hid (HB.out.on hb)); clear hb; (obtain ⟨c0, c1, c2, c3, c4, c5, c6, c7, c8, c9, c10, c11, c12, c13, c14, c15⟩ := Lg.cells16 HB.out.b0)) | (go_at_call 95; refine (refValOk ⟨_, _, _⟩ _).mono ?_; rintro e w' ⟨rfl, hb⟩; (first | rw [hv1] | rw [hv2]); (have HB := Lib.hid (HB.out.on hb)); clear hb; (obtain ⟨c0, c1, c2, c3, c4, c5, c6, c7, c8, c9, c10, c11, c12, c13, c14, c15⟩ := Lg.cells16 HB.out.b0)))
      go_ret
      exact ⟨ret_bool (by first | (rw [HX.out]; done) | (rw [HX.out]; rfl) | (rw [HX.out]; simp)), HB.out.beh⟩
theorem all_take_next {α : Type} [Inhabited α] (f : α → Bool) {L : List α} {k : Nat} (z : α) (hk : k < L.length) (h : (L.take k).all f = true) (hx : f (L.getD k z) = true) : (L.take (k + 1)).all f = true := by
  have e : L.getD k z = L[k] := by simp [hk]
  rw [e] at hx
  rw [List.take_succ_eq_append_getElem hk, List.all_append, h]
  simp [hx]
theorem all_hit {α : Type} (f : α → Bool) {L : List α} {k : Nat} (z : α) (hk : k < L.length) (hx : f (L.getD k z) = false) : L.all f = false := by
  have e : L.getD k z = L[k] := by simp [hk]
  rw [e] at hx
  rw [List.all_eq_false]
  exact ⟨_, List.getElem_mem hk, by rw [hx]; decide⟩
set_option maxHeartbeats 3200000 in
set_option maxRecDepth 100000 in
theorem refEntsOk (a : Option Addr) (cap : Nat) (L : List E) (w : World) (h : EntAt w a cap L) (hm : L.length ≤ 100000) :
    Calls Tryz.prog 71 #[.slice a L.length cap] w fun e w' => e = .returned (.bool (okL L)) ∧ Below w.heap.size w w' := by
  have HI := Lib.hid h
  have HB := Lib.hid (Beh.start w)
  clear h
  go_enter Tryz.func71, Tryz.ntmps71
  go_wp2_with fail
  go_loopw [3] (fun i wr => ∃ k : Nat, k ≤ L.length ∧ i = .int .i64 k ∧ Hid ((L.take k).all okE = true) ∧ Hid (Kv.Beh w wr)) (fun i _ => L.length - (intOf i).toNat)
  case atStart => exact ⟨0, by omega, rfl, rfl, HB.out⟩
  case round =>
    clear HB
    obtain ⟨k, hk, rfl, HU, HB⟩ := hrel
    by_cases hlt : k < L.length
    · obtain ⟨cS, oS, rfl, _⟩ := EntAt.cells HI.out (by omega)
      obtain ⟨_, _, he, hc⟩ := EntAt.cells (HI.out.below HB.out) (by omega)
      cases he
      have hc := hc k hlt
      obtain ⟨c0, c1, c2, c3, c4, c5, c6, c7, c8, c9, c10, c11, c12, c13, c14, c15⟩ := hc
      have HK : Hid (∀ W, Calls Tryz.prog 82 #[(L.getD k E.zero).agg] W fun e w' => e = .returned (.bool (okE (L.getD k E.zero))) ∧ Below W.heap.size W w') := fun W => refEntOk _ W
      have HNX := Lib.hid (fun hx => all_take_next okE E.zero hlt HU.out hx)
      have HHT := Lib.hid (fun hx => all_hit okE (L := L) E.zero hlt hx)
      clear HU
      generalize L.getD k E.zero = x at *
      cases hq : okE x
      · rw [hq] at HK HHT
        have HH := Lib.hid (HHT.out rfl)
        clear HNX HHT hq
        go_wp2_with (go_at_call 82; refine Calls.mono (HK.out _) ?_; rintro e w' ⟨rfl, hb⟩; (have HB := Lib.hid (HB.out.on hb)); clear hb)
        go_ret
        exact ⟨ret_bool (by show false = L.all okE; rw [HH.out]), HB.out⟩
      · rw [hq] at HK HNX
        have HN := Lib.hid (HNX.out rfl)
        clear HNX HHT hq
        go_wp2_with (go_at_call 82; refine Calls.mono (HK.out _) ?_; rintro e w' ⟨rfl, hb⟩; (have HB := Lib.hid (HB.out.on hb)); clear hb)
        go_roundw
        case rel => exact ⟨k + 1, by omega, by go_num, HN, HB.out⟩
        case measure => simp [intOf]; omega
    · obtain rfl : k = L.length := by omega
      have HH := Lib.hid (show L.all okE = true by have := HU.out; rwa [List.take_length] at this)
      go_wp2_with fail
      go_ret
      exact ⟨ret_bool (by show true = L.all okE; rw [HH.out]), HB.out⟩
end Go.Proofs.YtaengjgmchpabaaGreat.Wr
end
