import Derived.Test.YtjdebdfbjcpjgaaMergeWr10
import Derived.Test.YtjdebdfbjcpjgaaConfC2
import Derived.Test.YtjdebdfbjcpjgaaMergeWrHv
import Derived.Test.YtjdebdfbjcpjgaaMergeWr6
import Derived.Test.YtjdebdfbjcpjgaaWireW2
import Derived.Test.YtjdebdfbjcpjgaaMergeWr20
import Derived.Test.YtjdebdfbjcpjgaaMergeWrF1
import Derived.Test.YtjdebdfbjcpjgaaWireW6
import Derived.Test.YtjdebdfbjcpjgaaMergeWr35
import Derived.Test.YtjdebdfbjcpjgaaMergeWr23
section
/- The reference's writers: what may be written. -/
namespace Go.Proofs.Ytjdebdfbjcpjgaa.Wr
open Go Go.RowKit Vl Kv Ss Cn Lg Li Nm
attribute [local go_sem] Nm.run_bits Nm.run_frombits run_store_float
attribute [local irreducible] wpQuiet
set_option maxHeartbeats 1600000 in
set_option maxRecDepth 100000 in
theorem zeroCallW (c : Cl) (w : World) :
    Calls Try.prog 72 #[c.agg] w fun e w' => e = .returned (.bool (noCall c)) ∧ Below w.heap.size w w' := by
  have HB := Lib.hid (Bh.Bx.one w c.obj)
  have HN : ∀ w, Hid (Calls Try.prog 41 #[c.agg, Cl.zero.agg] w fun e w' => e = .returned (.bool (noCall c)) ∧ Below w.heap.size w w') := fun w => keepCall_any c Cl.zero w
  generalize noCall c = n at *
  unfold Cl.obj at HB
  obtain ⟨c0, c1, c2, c3, c4, c5, c6, c7, c8, c9⟩ := Lg.cells10c (c := c) HB.out.b0
  go_enter Try.func72, Try.ntmps72
  go_wp2_with (first | (go_at_call 41; refine ((HN _).out).mono ?_; rintro e w' ⟨rfl, hb⟩; (have HB := Lib.hid (HB.out.on hb)); clear hb))
  go_ret
  exact ⟨rfl, HB.out.beh⟩
set_option maxHeartbeats 1600000 in
set_option maxRecDepth 100000 in
theorem zeroConfW (c : C) (w : World) :
    Calls Try.prog 73 #[c.val] w fun e w' => e = .returned (.bool (decide (c = C.zero))) ∧ Below w.heap.size w w' := by
  have HB := Lib.hid (Bh.Bx.one w (Lg.C.obj c))
  have HN : ∀ w, Hid (Calls Try.prog 42 #[c.val, C.zero.val] w fun e w' => e = .returned (.bool (decide (c = C.zero))) ∧ Below w.heap.size w w') := fun w => keepConf_any c C.zero w
  generalize decide (c = C.zero) = n at *
  unfold Lg.C.obj at HB
  obtain ⟨c0, c1, c2, c3⟩ := Bh.cells4 HB.out.b0
  go_enter Try.func73, Try.ntmps73
  go_wp2_with (first | (go_at_call 42; refine ((HN _).out).mono ?_; rintro e w' ⟨rfl, hb⟩; (have HB := Lib.hid (HB.out.on hb)); clear hb))
  go_ret
  exact ⟨rfl, HB.out.beh⟩
theorem nat_zeq (n : Nat) : ((n : Int) == 0) = (n == 0) := by rw [Bool.eq_iff_iff, beq_iff_eq, beq_iff_eq]; omega
theorem nat_beqs (n m : Nat) : ((n : Int) == (m : Int)) = (m == n) := by rw [Bool.eq_iff_iff, beq_iff_eq, beq_iff_eq]; omega
theorem okV_out {v : V} (h : v.kind < 0 ∨ 2 < v.kind) : okV v = false := by
  unfold okV
  rcases h with h | h
  · rw [decide_eq_false (by omega : ¬ 0 ≤ v.kind)]; rfl
  · rw [decide_eq_false (by omega : ¬ v.kind ≤ 2)]; simp
set_option maxHeartbeats 3200000 in
set_option maxRecDepth 100000 in
theorem refValOk (v : V) (w : World) :
    Calls Try.prog 74 #[v.val] w fun e w' => e = .returned (.bool (okV v)) ∧ Below w.heap.size w w' := by
  have HB := Lib.hid (Bh.Bx.one w (.cells #[.int .i64 v.kind, .float .f64 v.num, .string v.text] 24))
  have HO := fun h => okV_out (v := v) h
  have HE : Hid (okV v = (decide (0 ≤ v.kind) && decide (v.kind ≤ 2) && (decide (v.kind = 2) || decide (v.text = ⟨#[]⟩)) && (if v.kind = 1 then Nm.canon v.num == v.num else v.num == 0))) := rfl
  generalize okV v = q at *
  obtain ⟨k, n, t⟩ := v
  dsimp only at HB HO HE
  obtain ⟨c0, c1, c2, _⟩ := cells3 HB.out.b0
  by_cases h1 : k < 0
  · have HX := Lib.hid (HO (.inl h1))
    have d1 : decide (k < 0) = true := decide_eq_true h1
    clear HO h1
    go_enter Try.func74, Try.ntmps74
    go_wp2_with fail
    go_ret
    exact ⟨ret_bool HX.out.symm, HB.out.beh⟩
  by_cases h2 : 2 < k
  · have HX := Lib.hid (HO (.inr h2))
    have d1 : decide (k < 0) = false := decide_eq_false h1
    have d2 : decide (2 < k) = true := decide_eq_true h2
    clear HO h1 h2
    go_enter Try.func74, Try.ntmps74
    go_wp2_with fail
    go_ret
    exact ⟨ret_bool HX.out.symm, HB.out.beh⟩
  clear HO
  have ht := text_nil t
  have hte := text_emp t
  obtain ⟨q1, hq1⟩ : ∃ q, decide (t = ⟨#[]⟩) = q := ⟨_, rfl⟩
  rw [hq1] at ht hte HE
  clear hq1
  have HE := Lib.hid HE.out
  obtain rfl | rfl | rfl : k = 0 ∨ k = 1 ∨ k = 2 := by omega
  · clear h1 h2
    cases q1
    · have HX : Hid (q = false) := Lib.hid (by rw [HE.out]; simp)
      go_enter Try.func74, Try.ntmps74
      go_wp2_with fail
      go_ret
      exact ⟨ret_bool (by rw [HX.out]), HB.out.beh⟩
    · have HX : Hid (q = (n == 0)) := Lib.hid (by rw [HE.out]; simp)
      go_enter Try.func74, Try.ntmps74
      go_wp2_with fail
      go_quiet ((go_at_call 104; exact Calls.quiet_of_same (Pk.refCanon_any _ _)))
      go_wp2_with fail
      go_ret
      exact ⟨ret_bool (by rw [HX.out]; first | rfl | exact nat_zeq n), Bh.below_drewN HB.out.beh _⟩
  · clear h1 h2
    cases q1
    · have HX : Hid (q = false) := Lib.hid (by rw [HE.out]; simp)
      go_enter Try.func74, Try.ntmps74
      go_wp2_with fail
      go_ret
      exact ⟨ret_bool (by rw [HX.out]), HB.out.beh⟩
    · have HX : Hid (q = (Nm.canon n == n)) := Lib.hid (by rw [HE.out]; simp)
      have h3 := nat_beqs n (Nm.canon n)
      cases hq : (Nm.canon n == n)
      all_goals
        rw [hq] at HX h3
        clear hq
        go_enter Try.func74, Try.ntmps74
        go_wp2_with fail
        have HCN := Lib.hid (Pk.refCanon_any n)
        refine wp_region_quiet (C := Bh.Bx w [(.cells #[.int .i64 1, .float .f64 n, .string t] 24)]) (by kernel_rfl) (by kernel_rfl) (HB.out.drew) ?_
        repeat (first
          | (refine BigFrame.wpQuiet_skip (by exact Eq.refl false) ?_
             ((try simp only [Act.put]); (try simp only [List.setIfInBounds_toArray]); (try simp only [List.set_cons_zero, List.set_cons_succ])))
          | (refine BigFrame.wpQuiet_want (by exact Eq.refl true) (fun K hK => ?_)
             first
             | (refine quiet_move2 _ rfl (by go_simp; rfl) ?_; refine hK _ ?_)
             | (apply Exists.intro
                refine ⟨fun wq hq => ?_, hK _ ?_⟩
                · ((obtain ⟨c0, c1, c2, _⟩ := cells3 hq.b0)
                   have HQ := Lib.hid hq
                   clear hq
                   unfold Oper.quietAt
                   go_simp
                   first
                   | rfl
                   | (go_at_call 104; exact (HCN.out _).mono (fun e w' ⟨he, he2⟩ => ⟨he, he2 ▸ HQ.out⟩))))
             clear hK K
             ((try simp only [Act.put]); (try simp only [List.setIfInBounds_toArray]); (try simp only [List.set_cons_zero, List.set_cons_succ]))))
        refine wpQuiet_nil ?_
        intro wq hq
        have HB := Lib.hid hq
        clear hq
        go_wp2_with fail
        go_ret
        exact ⟨ret_bool (by rw [HX.out]), HB.out.beh⟩
  · clear h1 h2 ht hte
    have HX : Hid (q = (n == 0)) := Lib.hid (by rw [HE.out]; simp)
    go_enter Try.func74, Try.ntmps74
    go_wp2_with fail
    go_quiet ((go_at_call 104; exact Calls.quiet_of_same (Pk.refCanon_any _ _)))
    go_wp2_with fail
    go_ret
    exact ⟨ret_bool (by rw [HX.out]; first | rfl | exact nat_zeq n), Bh.below_drewN HB.out.beh _⟩
end Go.Proofs.Ytjdebdfbjcpjgaa.Wr
end
section
/- The reference's writers: entry, entries. -/
namespace Go.Proofs.Ytjdebdfbjcpjgaa.Wr
open Go Go.RowKit Vl Kv Ss Cn Lg Li Nm
attribute [local go_sem] Nm.run_bits Nm.run_frombits run_store_float
set_option maxHeartbeats 6400000 in
set_option maxRecDepth 100000 in
theorem refEntOk (x : E) (w : World) :
    Calls Try.prog 34 #[x.agg] w fun e w' => e = .returned (.bool (okE x)) ∧ Below w.heap.size w w' := by
  have HB := Lib.hid (Bh.Bx.one w x.obj)
  have HN := fun w => Lib.hid (zeroCallW x.call w)
  have HZC := fun w => Lib.hid (zeroConfW x.conf w)
  have HE := Lib.hid (show okE x = (decide (0 ≤ x.kind) && decide (x.kind ≤ 2) && (decide (x.kind = 1) || noCall x.call) && (decide (x.kind = 2) || decide (x.conf = C.zero)) && (!decide (x.kind = 1) || (okV x.call.cmd.old && okV x.call.cmd.val))) from rfl)
  generalize okE x = q at *
  generalize noCall x.call = n at *
  generalize decide (x.conf = C.zero) = z at *
  generalize hv1 : okV x.call.cmd.old = v1 at *
  generalize hv2 : okV x.call.cmd.val = v2 at *
  unfold E.obj at HB
  obtain ⟨tm, kd, ⟨cl, sq, ⟨ck, ky, ⟨o1, o2, o3⟩, ⟨u1, u2, u3⟩⟩⟩, ⟨f, wt, l, xx⟩⟩ := x
  dsimp only at HB HN HZC hv1 hv2 HE
  (obtain ⟨c0, c1, c2, c3, c4, c5, c6, c7, c8, c9, c10, c11, c12, c13, c14, c15⟩ := Lg.cells16 HB.out.b0)
  by_cases h1 : kd < 0
  · have HX : Hid (q = false) := Lib.hid (by rw [HE.out, decide_eq_false (by omega : ¬ 0 ≤ kd)]; rfl)
    have d1 : decide (kd < 0) = true := decide_eq_true h1
    clear h1 HE
    go_enter Try.func34, Try.ntmps34
    go_wp2_with (first | (go_at_call 73; refine ((HZC _).out).mono ?_; rintro e w' ⟨rfl, hb⟩; (have HB := Lib.hid (HB.out.on hb)); clear hb; (obtain ⟨c0, c1, c2, c3, c4, c5, c6, c7, c8, c9, c10, c11, c12, c13, c14, c15⟩ := Lg.cells16 HB.out.b0)) | (go_at_call 72; refine ((HN _).out).mono ?_; rintro e w' ⟨rfl, hb⟩; (have HB := Lib.hid (HB.out.on hb)); clear hb; (obtain ⟨c0, c1, c2, c3, c4, c5, c6, c7, c8, c9, c10, c11, c12, c13, c14, c15⟩ := Lg.cells16 HB.out.b0)) | (go_at_call 74; refine (refValOk ⟨_, _, _⟩ _).mono ?_; rintro e w' ⟨rfl, hb⟩; (first | rw [hv1] | rw [hv2]); (have HB := Lib.hid (HB.out.on hb)); clear hb; (obtain ⟨c0, c1, c2, c3, c4, c5, c6, c7, c8, c9, c10, c11, c12, c13, c14, c15⟩ := Lg.cells16 HB.out.b0)))
    go_ret
    exact ⟨ret_bool (by first | (rw [HX.out]; done) | (rw [HX.out]; rfl) | (rw [HX.out]; simp)), HB.out.beh⟩
  by_cases h2 : 2 < kd
  · have HX : Hid (q = false) := Lib.hid (by rw [HE.out, decide_eq_false (by omega : ¬ kd ≤ 2)]; simp)
    have d1 : decide (kd < 0) = false := decide_eq_false h1
    have d2 : decide (2 < kd) = true := decide_eq_true h2
    clear h1 h2 HE
    go_enter Try.func34, Try.ntmps34
    go_wp2_with (first | (go_at_call 73; refine ((HZC _).out).mono ?_; rintro e w' ⟨rfl, hb⟩; (have HB := Lib.hid (HB.out.on hb)); clear hb; (obtain ⟨c0, c1, c2, c3, c4, c5, c6, c7, c8, c9, c10, c11, c12, c13, c14, c15⟩ := Lg.cells16 HB.out.b0)) | (go_at_call 72; refine ((HN _).out).mono ?_; rintro e w' ⟨rfl, hb⟩; (have HB := Lib.hid (HB.out.on hb)); clear hb; (obtain ⟨c0, c1, c2, c3, c4, c5, c6, c7, c8, c9, c10, c11, c12, c13, c14, c15⟩ := Lg.cells16 HB.out.b0)) | (go_at_call 74; refine (refValOk ⟨_, _, _⟩ _).mono ?_; rintro e w' ⟨rfl, hb⟩; (first | rw [hv1] | rw [hv2]); (have HB := Lib.hid (HB.out.on hb)); clear hb; (obtain ⟨c0, c1, c2, c3, c4, c5, c6, c7, c8, c9, c10, c11, c12, c13, c14, c15⟩ := Lg.cells16 HB.out.b0)))
    go_ret
    exact ⟨ret_bool (by first | (rw [HX.out]; done) | (rw [HX.out]; rfl) | (rw [HX.out]; simp)), HB.out.beh⟩
  obtain rfl | rfl | rfl : kd = 0 ∨ kd = 1 ∨ kd = 2 := by omega
  · clear h1 h2 hv1 hv2
    have HX : Hid (q = (n && z)) := Lib.hid (by rw [HE.out]; simp)
    clear HE
    cases n
    · go_enter Try.func34, Try.ntmps34
      go_wp2_with (first | (go_at_call 73; refine ((HZC _).out).mono ?_; rintro e w' ⟨rfl, hb⟩; (have HB := Lib.hid (HB.out.on hb)); clear hb; (obtain ⟨c0, c1, c2, c3, c4, c5, c6, c7, c8, c9, c10, c11, c12, c13, c14, c15⟩ := Lg.cells16 HB.out.b0)) | (go_at_call 72; refine ((HN _).out).mono ?_; rintro e w' ⟨rfl, hb⟩; (have HB := Lib.hid (HB.out.on hb)); clear hb; (obtain ⟨c0, c1, c2, c3, c4, c5, c6, c7, c8, c9, c10, c11, c12, c13, c14, c15⟩ := Lg.cells16 HB.out.b0)) | (go_at_call 74; refine (refValOk ⟨_, _, _⟩ _).mono ?_; rintro e w' ⟨rfl, hb⟩; (first | rw [hv1] | rw [hv2]); (have HB := Lib.hid (HB.out.on hb)); clear hb; (obtain ⟨c0, c1, c2, c3, c4, c5, c6, c7, c8, c9, c10, c11, c12, c13, c14, c15⟩ := Lg.cells16 HB.out.b0)))
      go_ret
      exact ⟨ret_bool (by first | (rw [HX.out]; done) | (rw [HX.out]; rfl) | (rw [HX.out]; simp)), HB.out.beh⟩
    cases z
    · go_enter Try.func34, Try.ntmps34
      go_wp2_with (first | (go_at_call 73; refine ((HZC _).out).mono ?_; rintro e w' ⟨rfl, hb⟩; (have HB := Lib.hid (HB.out.on hb)); clear hb; (obtain ⟨c0, c1, c2, c3, c4, c5, c6, c7, c8, c9, c10, c11, c12, c13, c14, c15⟩ := Lg.cells16 HB.out.b0)) | (go_at_call 72; refine ((HN _).out).mono ?_; rintro e w' ⟨rfl, hb⟩; (have HB := Lib.hid (HB.out.on hb)); clear hb; (obtain ⟨c0, c1, c2, c3, c4, c5, c6, c7, c8, c9, c10, c11, c12, c13, c14, c15⟩ := Lg.cells16 HB.out.b0)) | (go_at_call 74; refine (refValOk ⟨_, _, _⟩ _).mono ?_; rintro e w' ⟨rfl, hb⟩; (first | rw [hv1] | rw [hv2]); (have HB := Lib.hid (HB.out.on hb)); clear hb; (obtain ⟨c0, c1, c2, c3, c4, c5, c6, c7, c8, c9, c10, c11, c12, c13, c14, c15⟩ := Lg.cells16 HB.out.b0)))
      go_ret
      exact ⟨ret_bool (by first | (rw [HX.out]; done) | (rw [HX.out]; rfl) | (rw [HX.out]; simp)), HB.out.beh⟩
    · go_enter Try.func34, Try.ntmps34
      go_wp2_with (first | (go_at_call 73; refine ((HZC _).out).mono ?_; rintro e w' ⟨rfl, hb⟩; (have HB := Lib.hid (HB.out.on hb)); clear hb; (obtain ⟨c0, c1, c2, c3, c4, c5, c6, c7, c8, c9, c10, c11, c12, c13, c14, c15⟩ := Lg.cells16 HB.out.b0)) | (go_at_call 72; refine ((HN _).out).mono ?_; rintro e w' ⟨rfl, hb⟩; (have HB := Lib.hid (HB.out.on hb)); clear hb; (obtain ⟨c0, c1, c2, c3, c4, c5, c6, c7, c8, c9, c10, c11, c12, c13, c14, c15⟩ := Lg.cells16 HB.out.b0)) | (go_at_call 74; refine (refValOk ⟨_, _, _⟩ _).mono ?_; rintro e w' ⟨rfl, hb⟩; (first | rw [hv1] | rw [hv2]); (have HB := Lib.hid (HB.out.on hb)); clear hb; (obtain ⟨c0, c1, c2, c3, c4, c5, c6, c7, c8, c9, c10, c11, c12, c13, c14, c15⟩ := Lg.cells16 HB.out.b0)))
      go_ret
      exact ⟨ret_bool (by first | (rw [HX.out]; done) | (rw [HX.out]; rfl) | (rw [HX.out]; simp)), HB.out.beh⟩
  · clear h1 h2
    have HX : Hid (q = (z && (v1 && v2))) := Lib.hid (by rw [HE.out]; simp)
    clear HE
    cases z
    · go_enter Try.func34, Try.ntmps34
      go_wp2_with (first | (go_at_call 73; refine ((HZC _).out).mono ?_; rintro e w' ⟨rfl, hb⟩; (have HB := Lib.hid (HB.out.on hb)); clear hb; (obtain ⟨c0, c1, c2, c3, c4, c5, c6, c7, c8, c9, c10, c11, c12, c13, c14, c15⟩ := Lg.cells16 HB.out.b0)) | (go_at_call 72; refine ((HN _).out).mono ?_; rintro e w' ⟨rfl, hb⟩; (have HB := Lib.hid (HB.out.on hb)); clear hb; (obtain ⟨c0, c1, c2, c3, c4, c5, c6, c7, c8, c9, c10, c11, c12, c13, c14, c15⟩ := Lg.cells16 HB.out.b0)) | (go_at_call 74; refine (refValOk ⟨_, _, _⟩ _).mono ?_; rintro e w' ⟨rfl, hb⟩; (first | rw [hv1] | rw [hv2]); (have HB := Lib.hid (HB.out.on hb)); clear hb; (obtain ⟨c0, c1, c2, c3, c4, c5, c6, c7, c8, c9, c10, c11, c12, c13, c14, c15⟩ := Lg.cells16 HB.out.b0)))
      go_ret
      exact ⟨ret_bool (by first | (rw [HX.out]; done) | (rw [HX.out]; rfl) | (rw [HX.out]; simp)), HB.out.beh⟩
    cases v1
    · go_enter Try.func34, Try.ntmps34
      go_wp2_with (first | (go_at_call 73; refine ((HZC _).out).mono ?_; rintro e w' ⟨rfl, hb⟩; (have HB := Lib.hid (HB.out.on hb)); clear hb; (obtain ⟨c0, c1, c2, c3, c4, c5, c6, c7, c8, c9, c10, c11, c12, c13, c14, c15⟩ := Lg.cells16 HB.out.b0)) | (go_at_call 72; refine ((HN _).out).mono ?_; rintro e w' ⟨rfl, hb⟩; (have HB := Lib.hid (HB.out.on hb)); clear hb; (obtain ⟨c0, c1, c2, c3, c4, c5, c6, c7, c8, c9, c10, c11, c12, c13, c14, c15⟩ := Lg.cells16 HB.out.b0)) | (go_at_call 74; refine (refValOk ⟨_, _, _⟩ _).mono ?_; rintro e w' ⟨rfl, hb⟩; (first | rw [hv1] | rw [hv2]); (have HB := Lib.hid (HB.out.on hb)); clear hb; (obtain ⟨c0, c1, c2, c3, c4, c5, c6, c7, c8, c9, c10, c11, c12, c13, c14, c15⟩ := Lg.cells16 HB.out.b0)))
      go_ret
      exact ⟨ret_bool (by first | (rw [HX.out]; done) | (rw [HX.out]; rfl) | (rw [HX.out]; simp)), HB.out.beh⟩
    cases v2
    · go_enter Try.func34, Try.ntmps34
      go_wp2_with (first | (go_at_call 73; refine ((HZC _).out).mono ?_; rintro e w' ⟨rfl, hb⟩; (have HB := Lib.hid (HB.out.on hb)); clear hb; (obtain ⟨c0, c1, c2, c3, c4, c5, c6, c7, c8, c9, c10, c11, c12, c13, c14, c15⟩ := Lg.cells16 HB.out.b0)) | (go_at_call 72; refine ((HN _).out).mono ?_; rintro e w' ⟨rfl, hb⟩; (have HB := Lib.hid (HB.out.on hb)); clear hb; (obtain ⟨c0, c1, c2, c3, c4, c5, c6, c7, c8, c9, c10, c11, c12, c13, c14, c15⟩ := Lg.cells16 HB.out.b0)) | (go_at_call 74; refine (refValOk ⟨_, _, _⟩ _).mono ?_; rintro e w' ⟨rfl, hb⟩; (first | rw [hv1] | rw [hv2]); (have HB := Lib.hid (HB.out.on hb)); clear hb; (obtain ⟨c0, c1, c2, c3, c4, c5, c6, c7, c8, c9, c10, c11, c12, c13, c14, c15⟩ := Lg.cells16 HB.out.b0)))
      go_ret
      exact ⟨ret_bool (by first | (rw [HX.out]; done) | (rw [HX.out]; rfl) | (rw [HX.out]; simp)), HB.out.beh⟩
    · go_enter Try.func34, Try.ntmps34
      go_wp2_with (first | (go_at_call 73; refine ((HZC _).out).mono ?_; rintro e w' ⟨rfl, hb⟩; (have HB := Lib.hid (HB.out.on hb)); clear hb; (obtain ⟨c0, c1, c2, c3, c4, c5, c6, c7, c8, c9, c10, c11, c12, c13, c14, c15⟩ := Lg.cells16 HB.out.b0)) | (go_at_call 72; refine ((HN _).out).mono ?_; rintro e w' ⟨rfl, hb⟩; (have HB := Lib.hid (HB.out.on hb)); clear hb; (obtain ⟨c0, c1, c2, c3, c4, c5, c6, c7, c8, c9, c10, c11, c12, c13, c14, c15⟩ := Lg.cells16 HB.out.b0)) | (go_at_call 74; refine (refValOk ⟨_, _, _⟩ _).mono ?_; rintro e w' ⟨rfl, hb⟩; (first | rw [hv1] | rw [hv2]); (have HB := Lib.hid (HB.out.on hb)); clear hb; (obtain ⟨c0, c1, c2, c3, c4, c5, c6, c7, c8, c9, c10, c11, c12, c13, c14, c15⟩ := Lg.cells16 HB.out.b0)))
      go_ret
      exact ⟨ret_bool (by first | (rw [HX.out]; done) | (rw [HX.out]; rfl) | (rw [HX.out]; simp)), HB.out.beh⟩
  · clear h1 h2 hv1 hv2
    have HX : Hid (q = n) := Lib.hid (by rw [HE.out]; simp)
    clear HE
    cases n
    · go_enter Try.func34, Try.ntmps34
      go_wp2_with (first | (go_at_call 73; refine ((HZC _).out).mono ?_; rintro e w' ⟨rfl, hb⟩; (have HB := Lib.hid (HB.out.on hb)); clear hb; (obtain ⟨c0, c1, c2, c3, c4, c5, c6, c7, c8, c9, c10, c11, c12, c13, c14, c15⟩ := Lg.cells16 HB.out.b0)) | (go_at_call 72; refine ((HN _).out).mono ?_; rintro e w' ⟨rfl, hb⟩; (have HB := Lib.hid (HB.out.on hb)); clear hb; (obtain ⟨c0, c1, c2, c3, c4, c5, c6, c7, c8, c9, c10, c11, c12, c13, c14, c15⟩ := Lg.cells16 HB.out.b0)) | (go_at_call 74; refine (refValOk ⟨_, _, _⟩ _).mono ?_; rintro e w' ⟨rfl, hb⟩; (first | rw [hv1] | rw [hv2]); (have HB := Lib.hid (HB.out.on hb)); clear hb; (obtain ⟨c0, c1, c2, c3, c4, c5, c6, c7, c8, c9, c10, c11, c12, c13, c14, c15⟩ := Lg.cells16 HB.out.b0)))
      go_ret
      exact ⟨ret_bool (by first | (rw [HX.out]; done) | (rw [HX.out]; rfl) | (rw [HX.out]; simp)), HB.out.beh⟩
    · go_enter Try.func34, Try.ntmps34
      go_wp2_with (first | (go_at_call 73; refine ((HZC _).out).mono ?_; rintro e w' ⟨rfl, hb⟩; (have HB := Lib.hid (HB.out.on hb)); clear hb; (obtain ⟨c0, c1, c2, c3, c4, c5, c6, c7, c8, c9, c10, c11, c12, c13, c14, c15⟩ := Lg.cells16 HB.out.b0)) | (go_at_call 72; refine ((HN _).out).mono ?_; rintro e w' ⟨rfl, hb⟩; (have HB := Lib.hid (HB.out.on hb)); clear hb; (obtain ⟨c0, c1, c2, c3, c4, c5, c6, c7, c8, c9, c10, c11, c12, c13, c14, c15⟩ := Lg.cells16 HB.out.b0)) | (go_at_call 74; refine (refValOk ⟨_, _, _⟩ _).mono ?_; rintro e w' ⟨rfl, hb⟩; (first | rw [hv1] | rw [hv2]); (have HB := Lib.hid (HB.out.on hb)); clear hb; (obtain ⟨c0, c1, c2, c3, c4, c5, c6, c7, c8, c9, c10, c11, c12, c13, c14, c15⟩ := Lg.cells16 HB.out.b0)))
      go_ret
      exact ⟨ret_bool (by first | (rw [HX.out]; done) | (rw [HX.out]; rfl) | (rw [HX.out]; simp)), HB.out.beh⟩
theorem all_take_next {α : Type} [Inhabited α] (f : α → Bool) {L : List α} {k : Nat} (z : α) (hk : k < L.length) (h : (L.take k).all f = true) (hx : f (L.getD k z) = true) : (L.take (k + 1)).all f = true := by
  have e : L.getD k z = L[k] := by simp [hk]
  rw [e] at hx
  rw [List.take_succ_eq_append_getElem hk, List.all_append, h]
  simp [hx]
theorem all_hit {α : Type} (f : α → Bool) {L : List α} {k : Nat} (z : α) (hk : k < L.length) (hx : f (L.getD k z) = false) : L.all f = false := by
  have e : L.getD k z = L[k] := by simp [hk]
  rw [e] at hx
  rw [List.all_eq_false]
  exact ⟨_, List.getElem_mem hk, by rw [hx]; decide⟩
set_option maxHeartbeats 3200000 in
set_option maxRecDepth 100000 in
theorem refEntsOk (a : Option Addr) (cap : Nat) (L : List E) (w : World) (h : EntAt w a cap L) (hm : L.length ≤ 100000) :
    Calls Try.prog 45 #[.slice a L.length cap] w fun e w' => e = .returned (.bool (okL L)) ∧ Below w.heap.size w w' := by
  have HI := Lib.hid h
  have HB := Lib.hid (Beh.start w)
  clear h
  go_enter Try.func45, Try.ntmps45
  go_wp2_with fail
  go_loopw [3] (fun i wr => ∃ k : Nat, k ≤ L.length ∧ i = .int .i64 k ∧ Hid ((L.take k).all okE = true) ∧ Hid (Kv.Beh w wr)) (fun i _ => L.length - (intOf i).toNat)
  case atStart => exact ⟨0, by omega, rfl, rfl, HB.out⟩
  case round =>
    clear HB
    obtain ⟨k, hk, rfl, HU, HB⟩ := hrel
    by_cases hlt : k < L.length
    · obtain ⟨cS, oS, rfl, _⟩ := EntAt.cells HI.out (by omega)
      obtain ⟨_, _, he, hc⟩ := EntAt.cells (HI.out.below HB.out) (by omega)
      cases he
      have hc := hc k hlt
      obtain ⟨c0, c1, c2, c3, c4, c5, c6, c7, c8, c9, c10, c11, c12, c13, c14, c15⟩ := hc
      have HK : Hid (∀ W, Calls Try.prog 34 #[(L.getD k E.zero).agg] W fun e w' => e = .returned (.bool (okE (L.getD k E.zero))) ∧ Below W.heap.size W w') := fun W => refEntOk _ W
      have HNX := Lib.hid (fun hx => all_take_next okE E.zero hlt HU.out hx)
      have HHT := Lib.hid (fun hx => all_hit okE (L := L) E.zero hlt hx)
      clear HU
      generalize L.getD k E.zero = x at *
      cases hq : okE x
      · rw [hq] at HK HHT
        have HH := Lib.hid (HHT.out rfl)
        clear HNX HHT hq
        go_wp2_with (go_at_call 34; refine Calls.mono (HK.out _) ?_; rintro e w' ⟨rfl, hb⟩; (have HB := Lib.hid (HB.out.on hb)); clear hb)
        go_ret
        exact ⟨ret_bool (by show false = L.all okE; rw [HH.out]), HB.out⟩
      · rw [hq] at HK HNX
        have HN := Lib.hid (HNX.out rfl)
        clear HNX HHT hq
        go_wp2_with (go_at_call 34; refine Calls.mono (HK.out _) ?_; rintro e w' ⟨rfl, hb⟩; (have HB := Lib.hid (HB.out.on hb)); clear hb)
        go_roundw
        case rel => exact ⟨k + 1, by omega, by go_num, HN, HB.out⟩
        case measure => simp [intOf]; omega
    · obtain rfl : k = L.length := by omega
      have HH := Lib.hid (show L.all okE = true by have := HU.out; rwa [List.take_length] at this)
      go_wp2_with fail
      go_ret
      exact ⟨ret_bool (by show true = L.all okE; rw [HH.out]), HB.out⟩
end Go.Proofs.Ytjdebdfbjcpjgaa.Wr
end
section
/- The reference's writers: values, numbers, configurations. -/
namespace Go.Proofs.Ytjdebdfbjcpjgaa.Wr
open Go Go.RowKit Vl Kv Ss Cn Mem Lg Nm
attribute [local go_sem] Nm.run_bits Nm.run_frombits run_store_float
set_option maxHeartbeats 800000 in
set_option maxRecDepth 100000 in
theorem refValueW (v : V) (hk : v.kind = 0 ∨ v.kind = 1 ∨ v.kind = 2) (h32 : v.text.size ≤ 16384) (w : World) : Calls Try.prog 75 #[v.val] w (Pk.NewB (valB v) w) := by
  obtain ⟨i0, hi0, hz0, hz1, hz2⟩ := info_parts Pk.infoU8
  have HV := Lib.hid (show valB v = Pk.intB v.kind ++ (if v.kind = 1 then Pk.fltB v.num else if v.kind = 2 then Pk.textB (bl v.text) else []) from rfl)
  have hi := (Pk.intB_len v.kind).2
  have hfl : (Pk.fltB v.num).length = 8 := rfl
  have htl := textB_len (bl v.text)
  have hbl := bl_length v.text
  have HA := Lib.hid (alloc_here (w := w) (Vobj v) rfl)
  have HK0 : Hid (Kept Mem.None w (w.alloc (Vobj v))) := (Kept.refl _ _).alloc _
  obtain ⟨k, n, t⟩ := v
  unfold Vobj at HA HK0
  dsimp only at HA HK0 hk HV h32 hi hfl htl hbl
  have kc := fun (w : World) (s : ByteArray) => run_bl w s
  rcases hk with rfl | rfl | rfl
  · go_enter Try.func75, Try.ntmps75
    go_wp2_with fail
    refine (Pk.refInt_any 0 _ (by omega) (by omega)).mono ?_
    rintro x w1 ⟨b, a, cap, rfl, ho, hb, hk, hb2⟩
    have hlen : (valB ⟨0, n, t⟩).length = (Pk.intB 0).length := by rw [HV.out]; simp
    have HO := Lib.hid (show OwnB 5 w1 b a cap (valB ⟨0, n, t⟩) by rw [HV.out]; simpa using ho)
    have HK := Lib.hid (HK0.out.trans hk)
    obtain ⟨c0, c1, c2, _⟩ := cells3 (hk.heap HA.out (fun h => h))
    have hs := HK0.out.size
    clear ho hk
    go_wp2_with fail
    go_ret
    exact ⟨b, a, cap, by rw [hlen]; rfl, HO.out, by omega, HK.out, hb2⟩
  · go_enter Try.func75, Try.ntmps75
    go_wp2_with fail
    refine (Pk.refInt_any 1 _ (by omega) (by omega)).mono ?_
    rintro x w1 ⟨b, a, cap, rfl, ho, hb, hk, hb2⟩
    have HO := Lib.hid ho
    have HK := Lib.hid (HK0.out.trans hk)
    obtain ⟨c0, c1, c2, _⟩ := cells3 (hk.heap HA.out (fun h => h))
    have hs := HK0.out.size
    clear ho hk
    go_wp2_with fail
    refine (Pk.refFloat_any n _).mono ?_
    rintro x w2 ⟨b2, a2, cap2, rfl, ho2, _, hk2, _⟩
    have HO1 := Lib.hid (HO.out.kept hk2 (fun _ h => h))
    have HO2 := Lib.hid ho2
    have HK2 := Lib.hid (HK.out.trans hk2)
    clear ho2 hk2 c0 c1 c2
    go_wp2_with (at_builtin; refine wpList_append_bytes rfl _ _ 33 rfl 5 i0 Try.underlying33 hi0 hz0 hz1 hz2 b a cap (Pk.intB 1) _ rfl HO1.out rfl b2 a2 cap2 (Pk.fltB n) _ rfl HO2.out.src rfl (by omega) ?_)
    intro b' a' cap' w' h2 h3 h4 h5
    have HM := Lib.hid (Pk.mine_append' (n := (Pk.intB 1).length + (Pk.fltB n).length) (l2 := valB ⟨1, n, t⟩) (by rw [HV.out]; rfl) (by simp) (show w.heap.size ≤ b by omega) HK2.out (Kept.refl _ _) h2 h3 (by simpa using h4))
    clear h2 h3 h4 h5
    go_wp2_with fail
    go_ret
    obtain ⟨b3, a3, cap3, e3, ho3, hb3, hb4, hk3⟩ := HM.out
    exact ⟨b3, a3, cap3, congrArg Ending.returned e3, ho3, hb3, hk3, hb4⟩
  · go_enter Try.func75, Try.ntmps75
    go_wp2_with fail
    refine (Pk.refInt_any 2 _ (by omega) (by omega)).mono ?_
    rintro x w1 ⟨b, a, cap, rfl, ho, hb, hk, hb2⟩
    have HO := Lib.hid ho
    have HK := Lib.hid (HK0.out.trans hk)
    obtain ⟨c0, c1, c2, _⟩ := cells3 (hk.heap HA.out (fun h => h))
    have hs := HK0.out.size
    clear ho hk
    go_wp2_with fail
    have HT := Lib.hid (Pk.refText_any w1.heap.size (some ⟨w1.heap.size, 0, none⟩) (grownCap w1 t.size 0 5) (bl t) (Lib.bytesWorld w1 5 t) (bytesW_src w1 t (by omega)).src (by omega))
    rw [hbl] at HT
    refine HT.out.mono ?_
    rintro x w2 ⟨b2, a2, cap2, rfl, ho2, _, hk2, _⟩
    have HO1 := Lib.hid (HO.out.kept ((kept_beh (bytesW_beh w1 t)).trans hk2) (fun _ h => h))
    have HO2 := Lib.hid ho2
    have HK2 := Lib.hid (HK.out.trans ((kept_beh (bytesW_beh w1 t)).trans hk2))
    clear ho2 hk2 c0 c1 c2
    go_wp2_with (at_builtin; refine wpList_append_bytes rfl _ _ 33 rfl 5 i0 Try.underlying33 hi0 hz0 hz1 hz2 b a cap (Pk.intB 2) _ rfl HO1.out rfl b2 a2 cap2 (Pk.textB (bl t)) _ rfl HO2.out.src rfl (by omega) ?_)
    intro b' a' cap' w' h2 h3 h4 h5
    have HM := Lib.hid (Pk.mine_append' (n := (Pk.intB 2).length + (Pk.textB (bl t)).length) (l2 := valB ⟨2, n, t⟩) (by rw [HV.out]; rfl) (by simp) (show w.heap.size ≤ b by omega) HK2.out (Kept.refl _ _) h2 h3 (by simpa using h4))
    clear h2 h3 h4 h5
    go_wp2_with fail
    go_ret
    obtain ⟨b3, a3, cap3, e3, ho3, hb3, hb4, hk3⟩ := HM.out
    exact ⟨b3, a3, cap3, congrArg Ending.returned e3, ho3, hb3, hk3, hb4⟩
/-- numbers in a block of their own -/
theorem intsLit (L : List Int) (w : World) (kb : Nat) (hkb : kb = w.heap.size) (cs : Array Value) (hc : cs = (L.map (Value.int .i64)).toArray) (n : Nat) (hn : n = L.length) (hL : ∀ x ∈ L, In64 x) (hl : L.length ≤ 1000) (B : List Nat) (hB : B = L.flatMap Pk.intB) :
    Calls Try.prog 46 #[.slice (some ⟨kb, 0, none⟩) n n] (w.alloc (.cells cs 3)) (Pk.NewB B (w.alloc (.cells cs 3))) := by
  subst hc hn hB hkb
  have hb := Bh.alloc_here (w := w) (.cells (L.map (Value.int .i64)).toArray 3) rfl
  refine refInts_any w.heap.size L.length L _ (fun i hi => ?_) (fun i hi => ?_) hl
  · have e : L.getD i 0 = L[i] := by simp [hi]
    rw [e, cell_of_row _ _ _ _ _ _ hb]
    simp [hi]
  · have e : L.getD i 0 = L[i] := by simp [hi]
    rw [e]
    exact hL _ (List.getElem_mem hi)
theorem cConf_ints (c : C) : cConf.enc c = [c.f, c.w, c.l, c.x].flatMap Pk.intB := by
  show Pk.intB c.f ++ (Pk.intB c.w ++ (Pk.intB c.l ++ Pk.intB c.x)) = _
  simp
set_option maxHeartbeats 3200000 in
set_option maxRecDepth 100000 in
theorem refConfW (c : C) (hf : FitC c) (w : World) : Calls Try.prog 47 #[c.val] w (Pk.NewB (cConf.enc c) w) := by
  have HB := Lib.hid (Bh.Bx.one w (Lg.C.obj c))
  have HI := Lib.hid (intsLit [c.f, c.w, c.l, c.x] (w.alloc (Lg.C.obj c)) (w.heap.size + 1) (by rw [size_alloc]) #[.int .i64 c.f, .int .i64 c.w, .int .i64 c.l, .int .i64 c.x] (by simp only [List.map_cons, List.map_nil]) 4 (by simp) (fun x hx => by
    simp only [List.mem_cons, List.not_mem_nil, or_false] at hx
    rcases hx with rfl | rfl | rfl | rfl
    · exact hf.f
    · exact hf.w
    · exact hf.l
    · exact hf.x) (by simp) (cConf.enc c) (cConf_ints c))
  generalize cConf.enc c = E at *
  unfold Lg.C.obj at HB HI
  obtain ⟨c0, c1, c2, c3⟩ := Bh.cells4 HB.out.b0
  go_enter Try.func47, Try.ntmps47
  go_wp2_with fail
  refine Calls.mono HI.out ?_
  rintro e w1 ⟨b, a, cap, rfl, ho, hb, hk, hb2⟩
  have HO := Lib.hid ho
  have HK := Lib.hid hk
  clear ho hk
  go_wp2_with fail
  go_ret
  exact ⟨b, a, cap, rfl, HO.out, by rw [size_alloc, size_alloc] at hb; omega, (((Kept.refl _ _).alloc _).alloc _).trans HK.out, hb2⟩
end Go.Proofs.Ytjdebdfbjcpjgaa.Wr
end
section
/- The reference's writers: an entry's bytes. -/
namespace Go.Proofs.Ytjdebdfbjcpjgaa.Wr
open Go Go.RowKit Vl Kv Ss Cn Mem Lg Nm
attribute [local go_sem] Nm.run_bits Nm.run_frombits run_store_float
set_option maxHeartbeats 6400000 in
set_option maxRecDepth 100000 in
theorem refBytes0 (tm : Int) (cl sq ck : Int) (ky : ByteArray) (ok : Int) (on : Nat) (os : ByteArray) (vk : Int) (vn : Nat) (vs : ByteArray) (f wt l xx : Int) (w : World) (hf : FitE ⟨tm, 0, ⟨cl, sq, ⟨ck, ky, ⟨ok, on, os⟩, ⟨vk, vn, vs⟩⟩⟩, ⟨f, wt, l, xx⟩⟩) :
    Calls Try.prog 36 #[E.agg ⟨tm, 0, ⟨cl, sq, ⟨ck, ky, ⟨ok, on, os⟩, ⟨vk, vn, vs⟩⟩⟩, ⟨f, wt, l, xx⟩⟩] w (Pk.NewB (cEnt.enc ⟨tm, 0, ⟨cl, sq, ⟨ck, ky, ⟨ok, on, os⟩, ⟨vk, vn, vs⟩⟩⟩, ⟨f, wt, l, xx⟩⟩) w) := by
  obtain ⟨i0, hi0, hz0, hz1, hz2⟩ := info_parts Pk.infoU8
  have HF := Lib.hid hf
  obtain ⟨L1, hL1⟩ : ∃ L1, L1 = Pk.intB tm ++ Pk.intB 0 := ⟨_, rfl⟩
  have hl1 : L1.length ≤ 20 := by rw [hL1, List.length_append]; have := (Pk.intB_len tm).2; have := (Pk.intB_len 0).2; omega
  have HE : Hid (cEnt.enc ⟨tm, 0, ⟨cl, sq, ⟨ck, ky, ⟨ok, on, os⟩, ⟨vk, vn, vs⟩⟩⟩, ⟨f, wt, l, xx⟩⟩ = L1) := Lib.hid (by rw [hL1]; exact cEnt_enc0 tm _ _)
  rw [HE.out]
  have HI1 : Hid (Calls Try.prog 46 #[.slice (some ⟨w.heap.size + 1, 0, none⟩) 2 2] ((w.alloc (.cells #[.int .i64 tm, .int .i64 0, .int .i64 cl, .int .i64 sq, .int .i64 ck, .string ky, .int .i64 ok, .float .f64 on, .string os, .int .i64 vk, .float .f64 vn, .string vs, .int .i64 f, .int .i64 wt, .int .i64 l, .int .i64 xx] 32)).alloc (.cells #[.int .i64 tm, .int .i64 0] 3)) (Pk.NewB L1 ((w.alloc (.cells #[.int .i64 tm, .int .i64 0, .int .i64 cl, .int .i64 sq, .int .i64 ck, .string ky, .int .i64 ok, .float .f64 on, .string os, .int .i64 vk, .float .f64 vn, .string vs, .int .i64 f, .int .i64 wt, .int .i64 l, .int .i64 xx] 32)).alloc (.cells #[.int .i64 tm, .int .i64 0] 3)))) := intsLit [tm, 0] (w.alloc (.cells #[.int .i64 tm, .int .i64 0, .int .i64 cl, .int .i64 sq, .int .i64 ck, .string ky, .int .i64 ok, .float .f64 on, .string os, .int .i64 vk, .float .f64 vn, .string vs, .int .i64 f, .int .i64 wt, .int .i64 l, .int .i64 xx] 32)) (w.heap.size + 1) (by rw [size_alloc]) _ (by simp only [List.map_cons, List.map_nil]) 2 (by simp) (fun x hx => by
    simp only [List.mem_cons, List.not_mem_nil, or_false] at hx
    rcases hx with rfl | rfl
    · exact HF.out.term
    · exact HF.out.kind) (by simp) L1 (by rw [hL1]; simp)
  clear hL1 hf
  go_enter Try.func36, Try.ntmps36
  go_wp2_with fail
  refine Calls.mono HI1.out ?_
  rintro e w1 ⟨b1, a1, u1, rfl, ho, hb, hk, hb2⟩
  have HA := Lib.hid (Ac.start (w0 := w.alloc (.cells #[.int .i64 tm, .int .i64 0, .int .i64 cl, .int .i64 sq, .int .i64 ck, .string ky, .int .i64 ok, .float .f64 on, .string os, .int .i64 vk, .float .f64 vn, .string vs, .int .i64 f, .int .i64 wt, .int .i64 l, .int .i64 xx] 32)) ho (by rw [size_alloc] at hb ⊢; rw [size_alloc] at hb; omega) (((Kept.refl _ _).alloc _).trans hk) hb2 [(w.heap.size, (.cells #[.int .i64 tm, .int .i64 0, .int .i64 cl, .int .i64 sq, .int .i64 ck, .string ky, .int .i64 ok, .float .f64 on, .string os, .int .i64 vk, .float .f64 vn, .string vs, .int .i64 f, .int .i64 wt, .int .i64 l, .int .i64 xx] 32))] (fun n o hn => by
    rw [List.mem_singleton] at hn
    injection hn with h1 h2
    subst h1 h2
    exact Bh.alloc_here _ rfl))
  clear ho hb hk hb2 HI1
  have hx := (HA.out.box w.heap.size (.cells #[.int .i64 tm, .int .i64 0, .int .i64 cl, .int .i64 sq, .int .i64 ck, .string ky, .int .i64 ok, .float .f64 on, .string os, .int .i64 vk, .float .f64 vn, .string vs, .int .i64 f, .int .i64 wt, .int .i64 l, .int .i64 xx] 32) (List.mem_cons_self ..)).1
  obtain ⟨c0, c1, c2, c3, c4, c5, c6, c7, c8, c9, c10, c11, c12, c13, c14, c15⟩ := Lg.cells16 hx
  clear hx
  go_wp2_with fail
  go_ret
  have hn := HA.out.new ((Kept.refl Mem.None w).alloc (.cells #[.int .i64 tm, .int .i64 0, .int .i64 cl, .int .i64 sq, .int .i64 ck, .string ky, .int .i64 ok, .float .f64 on, .string os, .int .i64 vk, .float .f64 vn, .string vs, .int .i64 f, .int .i64 wt, .int .i64 l, .int .i64 xx] 32))
  exact hn
set_option maxHeartbeats 6400000 in
set_option maxRecDepth 100000 in
theorem refBytes2 (tm : Int) (cl sq ck : Int) (ky : ByteArray) (ok : Int) (on : Nat) (os : ByteArray) (vk : Int) (vn : Nat) (vs : ByteArray) (f wt l xx : Int) (w : World) (hf : FitE ⟨tm, 2, ⟨cl, sq, ⟨ck, ky, ⟨ok, on, os⟩, ⟨vk, vn, vs⟩⟩⟩, ⟨f, wt, l, xx⟩⟩) :
    Calls Try.prog 36 #[E.agg ⟨tm, 2, ⟨cl, sq, ⟨ck, ky, ⟨ok, on, os⟩, ⟨vk, vn, vs⟩⟩⟩, ⟨f, wt, l, xx⟩⟩] w (Pk.NewB (cEnt.enc ⟨tm, 2, ⟨cl, sq, ⟨ck, ky, ⟨ok, on, os⟩, ⟨vk, vn, vs⟩⟩⟩, ⟨f, wt, l, xx⟩⟩) w) := by
  obtain ⟨i0, hi0, hz0, hz1, hz2⟩ := info_parts Pk.infoU8
  have HF := Lib.hid hf
  obtain ⟨L1, hL1⟩ : ∃ L1, L1 = Pk.intB tm ++ Pk.intB 2 := ⟨_, rfl⟩
  have hl1 : L1.length ≤ 20 := by rw [hL1, List.length_append]; have := (Pk.intB_len tm).2; have := (Pk.intB_len 2).2; omega
  obtain ⟨L2, hL2⟩ : ∃ L2, L2 = cConf.enc ⟨f, wt, l, xx⟩ := ⟨_, rfl⟩
  have hl2 : L2.length ≤ 40 := by
    rw [hL2]
    show (Pk.intB f ++ (Pk.intB wt ++ (Pk.intB l ++ Pk.intB xx))).length ≤ 40
    simp only [List.length_append]
    have := (Pk.intB_len f).2; have := (Pk.intB_len wt).2; have := (Pk.intB_len l).2; have := (Pk.intB_len xx).2
    omega
  have HE : Hid (cEnt.enc ⟨tm, 2, ⟨cl, sq, ⟨ck, ky, ⟨ok, on, os⟩, ⟨vk, vn, vs⟩⟩⟩, ⟨f, wt, l, xx⟩⟩ = L1 ++ L2) := Lib.hid (by rw [hL1, hL2, cEnt_enc2]; simp only [List.append_assoc])
  have HC : Hid (∀ W, Calls Try.prog 47 #[C.val ⟨f, wt, l, xx⟩] W (Pk.NewB L2 W)) := fun W => by rw [hL2]; exact refConfW _ HF.out.conf W
  have HI1 : Hid (Calls Try.prog 46 #[.slice (some ⟨w.heap.size + 1, 0, none⟩) 2 2] ((w.alloc (.cells #[.int .i64 tm, .int .i64 2, .int .i64 cl, .int .i64 sq, .int .i64 ck, .string ky, .int .i64 ok, .float .f64 on, .string os, .int .i64 vk, .float .f64 vn, .string vs, .int .i64 f, .int .i64 wt, .int .i64 l, .int .i64 xx] 32)).alloc (.cells #[.int .i64 tm, .int .i64 2] 3)) (Pk.NewB L1 ((w.alloc (.cells #[.int .i64 tm, .int .i64 2, .int .i64 cl, .int .i64 sq, .int .i64 ck, .string ky, .int .i64 ok, .float .f64 on, .string os, .int .i64 vk, .float .f64 vn, .string vs, .int .i64 f, .int .i64 wt, .int .i64 l, .int .i64 xx] 32)).alloc (.cells #[.int .i64 tm, .int .i64 2] 3)))) := intsLit [tm, 2] (w.alloc (.cells #[.int .i64 tm, .int .i64 2, .int .i64 cl, .int .i64 sq, .int .i64 ck, .string ky, .int .i64 ok, .float .f64 on, .string os, .int .i64 vk, .float .f64 vn, .string vs, .int .i64 f, .int .i64 wt, .int .i64 l, .int .i64 xx] 32)) (w.heap.size + 1) (by rw [size_alloc]) _ (by simp only [List.map_cons, List.map_nil]) 2 (by simp) (fun x hx => by
    simp only [List.mem_cons, List.not_mem_nil, or_false] at hx
    rcases hx with rfl | rfl
    · exact HF.out.term
    · exact HF.out.kind) (by simp) L1 (by rw [hL1]; simp)
  clear hL1 hL2 hf
  go_enter Try.func36, Try.ntmps36
  go_wp2_with fail
  refine Calls.mono HI1.out ?_
  rintro e w1 ⟨b1, a1, u1, rfl, ho, hb, hk, hb2⟩
  have HA := Lib.hid (Ac.start (w0 := w.alloc (.cells #[.int .i64 tm, .int .i64 2, .int .i64 cl, .int .i64 sq, .int .i64 ck, .string ky, .int .i64 ok, .float .f64 on, .string os, .int .i64 vk, .float .f64 vn, .string vs, .int .i64 f, .int .i64 wt, .int .i64 l, .int .i64 xx] 32)) ho (by rw [size_alloc] at hb ⊢; rw [size_alloc] at hb; omega) (((Kept.refl _ _).alloc _).trans hk) hb2 [(w.heap.size, (.cells #[.int .i64 tm, .int .i64 2, .int .i64 cl, .int .i64 sq, .int .i64 ck, .string ky, .int .i64 ok, .float .f64 on, .string os, .int .i64 vk, .float .f64 vn, .string vs, .int .i64 f, .int .i64 wt, .int .i64 l, .int .i64 xx] 32))] (fun n o hn => by
    rw [List.mem_singleton] at hn
    injection hn with h1 h2
    subst h1 h2
    exact Bh.alloc_here _ rfl))
  clear ho hb hk hb2 HI1
  have hx := (HA.out.box w.heap.size (.cells #[.int .i64 tm, .int .i64 2, .int .i64 cl, .int .i64 sq, .int .i64 ck, .string ky, .int .i64 ok, .float .f64 on, .string os, .int .i64 vk, .float .f64 vn, .string vs, .int .i64 f, .int .i64 wt, .int .i64 l, .int .i64 xx] 32) (List.mem_cons_self ..)).1
  obtain ⟨c0, c1, c2, c3, c4, c5, c6, c7, c8, c9, c10, c11, c12, c13, c14, c15⟩ := Lg.cells16 hx
  clear hx
  go_wp2_with fail
  refine Calls.mono (HC.out _) ?_
  rintro e w2 ⟨b2, a2, u2, rfl, ho, hb, hk, hb2⟩
  have HA := Lib.hid (HA.out.on (beh_kept hk))
  have HO := Lib.hid ho
  clear ho hb hk hb2 c0 c1 c2 c3 c4 c5 c6 c7 c8 c9 c10 c11 c12 c13 c14 c15
  go_wp2_with ((at_builtin; refine wpList_append_bytes rfl _ _ 33 rfl 5 i0 Try.underlying33 hi0 hz0 hz1 hz2 b1 a1 u1 _ _ rfl (HA.out).own (by first | rfl | simp only [List.length_append]) b2 a2 u2 _ _ rfl HO.out.src rfl (by first | omega | (simp only [List.length_append]; omega)) ?_); (intro b3 a3 u3 w3 h2 h3 h4 h9); (obtain ⟨b4, h5⟩ := HA.out.app h2 h3 h4); (have HA := Lib.hid h5); (clear h2 h3 h4 h5 h9); (generalize hP : L1 ++ L2 = P2 at HA ⊢); (have HP2 := Lib.hid hP); (have hp2l : P2.length ≤ 60 := by rw [← hP, List.length_append]; omega); (clear hP))
  go_wp2_with fail
  go_ret
  have hn := HA.out.new ((Kept.refl Mem.None w).alloc (.cells #[.int .i64 tm, .int .i64 2, .int .i64 cl, .int .i64 sq, .int .i64 ck, .string ky, .int .i64 ok, .float .f64 on, .string os, .int .i64 vk, .float .f64 vn, .string vs, .int .i64 f, .int .i64 wt, .int .i64 l, .int .i64 xx] 32))
  rw [HE.out, HP2.out]
  exact hn
set_option maxHeartbeats 6400000 in
set_option maxRecDepth 100000 in
theorem refBytes1 (tm : Int) (cl sq ck : Int) (ky : ByteArray) (ok : Int) (on : Nat) (os : ByteArray) (vk : Int) (vn : Nat) (vs : ByteArray) (f wt l xx : Int) (w : World) (hf : FitE ⟨tm, 1, ⟨cl, sq, ⟨ck, ky, ⟨ok, on, os⟩, ⟨vk, vn, vs⟩⟩⟩, ⟨f, wt, l, xx⟩⟩) (ho : okE ⟨tm, 1, ⟨cl, sq, ⟨ck, ky, ⟨ok, on, os⟩, ⟨vk, vn, vs⟩⟩⟩, ⟨f, wt, l, xx⟩⟩ = true) :
    Calls Try.prog 36 #[E.agg ⟨tm, 1, ⟨cl, sq, ⟨ck, ky, ⟨ok, on, os⟩, ⟨vk, vn, vs⟩⟩⟩, ⟨f, wt, l, xx⟩⟩] w (Pk.NewB (cEnt.enc ⟨tm, 1, ⟨cl, sq, ⟨ck, ky, ⟨ok, on, os⟩, ⟨vk, vn, vs⟩⟩⟩, ⟨f, wt, l, xx⟩⟩) w) := by
  obtain ⟨i0, hi0, hz0, hz1, hz2⟩ := info_parts Pk.infoU8
  have HF := Lib.hid hf
  obtain ⟨L1, hL1⟩ : ∃ L1, L1 = Pk.intB tm ++ Pk.intB 1 := ⟨_, rfl⟩
  have hl1 : L1.length ≤ 20 := by rw [hL1, List.length_append]; have := (Pk.intB_len tm).2; have := (Pk.intB_len 1).2; omega
  have hov : okV ⟨ok, on, os⟩ = true ∧ okV ⟨vk, vn, vs⟩ = true := by
    unfold okE at ho
    rw [Bool.and_eq_true] at ho
    have h2 := ho.2
    simpa using h2
  have kind3 : ∀ v : V, okV v = true → v.kind = 0 ∨ v.kind = 1 ∨ v.kind = 2 := fun v h => by
    unfold okV at h
    rw [Bool.and_eq_true, Bool.and_eq_true, Bool.and_eq_true, decide_eq_true_eq, decide_eq_true_eq] at h
    omega
  obtain ⟨L2, hL2⟩ : ∃ L2, L2 = Pk.intB cl ++ (Pk.intB sq ++ Pk.intB ck) := ⟨_, rfl⟩
  obtain ⟨L3, hL3⟩ : ∃ L3, L3 = Pk.textB (bl ky) := ⟨_, rfl⟩
  obtain ⟨L4, hL4⟩ : ∃ L4, L4 = valB ⟨ok, on, os⟩ := ⟨_, rfl⟩
  obtain ⟨L5, hL5⟩ : ∃ L5, L5 = valB ⟨vk, vn, vs⟩ := ⟨_, rfl⟩
  have hl2 : L2.length ≤ 30 := by
    rw [hL2]
    simp only [List.length_append]
    have := (Pk.intB_len cl).2; have := (Pk.intB_len sq).2; have := (Pk.intB_len ck).2
    omega
  have hky := HF.out.call.key
  have hbl := bl_length ky
  have hl3 : L3.length ≤ 16400 := by rw [hL3]; have := textB_len (bl ky); rw [bl_length] at this; have h2 : ky.size ≤ 16384 := hky; omega
  have hl4 : L4.length ≤ 16410 := by rw [hL4]; exact valB_le ⟨ok, on, os⟩ HF.out.call.old.text
  have hl5 : L5.length ≤ 16410 := by rw [hL5]; exact valB_le ⟨vk, vn, vs⟩ HF.out.call.val.text
  have HE : Hid (cEnt.enc ⟨tm, 1, ⟨cl, sq, ⟨ck, ky, ⟨ok, on, os⟩, ⟨vk, vn, vs⟩⟩⟩, ⟨f, wt, l, xx⟩⟩ = L1 ++ L2 ++ L3 ++ L4 ++ L5) := Lib.hid (by
    rw [hL1, hL2, hL3, hL4, hL5, cEnt_enc1]
    show _ ++ (_ ++ (Pk.intB cl ++ (Pk.intB sq ++ (Pk.intB ck ++ (Pk.textB (bl ky) ++ (cVal.enc ⟨ok, on, os⟩ ++ cVal.enc ⟨vk, vn, vs⟩)))))) = _
    rw [cVal_enc, cVal_enc]
    simp only [List.append_assoc])
  have HV1 : Hid (∀ W, Calls Try.prog 75 #[V.val ⟨ok, on, os⟩] W (Pk.NewB L4 W)) := fun W => by rw [hL4]; exact refValueW _ (kind3 _ hov.1) HF.out.call.old.text W
  have HV2 : Hid (∀ W, Calls Try.prog 75 #[V.val ⟨vk, vn, vs⟩] W (Pk.NewB L5 W)) := fun W => by rw [hL5]; exact refValueW _ (kind3 _ hov.2) HF.out.call.val.text W
  have kc := fun (w : World) (s : ByteArray) => run_bl w s
  have HTX : ∀ W : World, Hid (Calls Try.prog 48 #[.slice (some ⟨W.heap.size, 0, none⟩) ky.size (grownCap W ky.size 0 5)] (Lib.bytesWorld W 5 ky) (Pk.NewB L3 (Lib.bytesWorld W 5 ky))) := fun W => by
    have h2 : ky.size ≤ 16384 := hky
    have := Pk.refText_any W.heap.size (some ⟨W.heap.size, 0, none⟩) (grownCap W ky.size 0 5) (bl ky) (Lib.bytesWorld W 5 ky) (bytesW_src W ky (by omega)).src (by omega)
    rw [hL3]
    rwa [hbl] at this
  have HI2 : Hid (∀ (W : World) (kb : Nat), kb = W.heap.size → Calls Try.prog 46 #[.slice (some ⟨kb, 0, none⟩) 3 3] (W.alloc (.cells #[.int .i64 cl, .int .i64 sq, .int .i64 ck] 3)) (Pk.NewB L2 (W.alloc (.cells #[.int .i64 cl, .int .i64 sq, .int .i64 ck] 3)))) := fun W kb hkb => intsLit [cl, sq, ck] W kb hkb _ (by simp only [List.map_cons, List.map_nil]) 3 (by simp) (fun x hx => by
    simp only [List.mem_cons, List.not_mem_nil, or_false] at hx
    rcases hx with rfl | rfl | rfl
    · exact HF.out.call.client
    · exact HF.out.call.seq
    · exact HF.out.call.kind) (by simp) L2 (by rw [hL2]; simp)
  have HI1 : Hid (Calls Try.prog 46 #[.slice (some ⟨w.heap.size + 1, 0, none⟩) 2 2] ((w.alloc (.cells #[.int .i64 tm, .int .i64 1, .int .i64 cl, .int .i64 sq, .int .i64 ck, .string ky, .int .i64 ok, .float .f64 on, .string os, .int .i64 vk, .float .f64 vn, .string vs, .int .i64 f, .int .i64 wt, .int .i64 l, .int .i64 xx] 32)).alloc (.cells #[.int .i64 tm, .int .i64 1] 3)) (Pk.NewB L1 ((w.alloc (.cells #[.int .i64 tm, .int .i64 1, .int .i64 cl, .int .i64 sq, .int .i64 ck, .string ky, .int .i64 ok, .float .f64 on, .string os, .int .i64 vk, .float .f64 vn, .string vs, .int .i64 f, .int .i64 wt, .int .i64 l, .int .i64 xx] 32)).alloc (.cells #[.int .i64 tm, .int .i64 1] 3)))) := intsLit [tm, 1] (w.alloc (.cells #[.int .i64 tm, .int .i64 1, .int .i64 cl, .int .i64 sq, .int .i64 ck, .string ky, .int .i64 ok, .float .f64 on, .string os, .int .i64 vk, .float .f64 vn, .string vs, .int .i64 f, .int .i64 wt, .int .i64 l, .int .i64 xx] 32)) (w.heap.size + 1) (by rw [size_alloc]) _ (by simp only [List.map_cons, List.map_nil]) 2 (by simp) (fun x hx => by
    simp only [List.mem_cons, List.not_mem_nil, or_false] at hx
    rcases hx with rfl | rfl
    · exact HF.out.term
    · exact HF.out.kind) (by simp) L1 (by rw [hL1]; simp)
  clear hL1 hL2 hL3 hL4 hL5 hf ho hov kind3 hbl hky
  go_enter Try.func36, Try.ntmps36
  go_wp2_with fail
  refine Calls.mono HI1.out ?_
  rintro e w1 ⟨b1, a1, u1, rfl, ho, hb, hk, hb2⟩
  have HA := Lib.hid (Ac.start (w0 := w.alloc (.cells #[.int .i64 tm, .int .i64 1, .int .i64 cl, .int .i64 sq, .int .i64 ck, .string ky, .int .i64 ok, .float .f64 on, .string os, .int .i64 vk, .float .f64 vn, .string vs, .int .i64 f, .int .i64 wt, .int .i64 l, .int .i64 xx] 32)) ho (by rw [size_alloc] at hb ⊢; rw [size_alloc] at hb; omega) (((Kept.refl _ _).alloc _).trans hk) hb2 [(w.heap.size, (.cells #[.int .i64 tm, .int .i64 1, .int .i64 cl, .int .i64 sq, .int .i64 ck, .string ky, .int .i64 ok, .float .f64 on, .string os, .int .i64 vk, .float .f64 vn, .string vs, .int .i64 f, .int .i64 wt, .int .i64 l, .int .i64 xx] 32))] (fun n o hn => by
    rw [List.mem_singleton] at hn
    injection hn with h1 h2
    subst h1 h2
    exact Bh.alloc_here _ rfl))
  clear ho hb hk hb2 HI1
  have hx := (HA.out.box w.heap.size (.cells #[.int .i64 tm, .int .i64 1, .int .i64 cl, .int .i64 sq, .int .i64 ck, .string ky, .int .i64 ok, .float .f64 on, .string os, .int .i64 vk, .float .f64 vn, .string vs, .int .i64 f, .int .i64 wt, .int .i64 l, .int .i64 xx] 32) (List.mem_cons_self ..)).1
  obtain ⟨c0, c1, c2, c3, c4, c5, c6, c7, c8, c9, c10, c11, c12, c13, c14, c15⟩ := Lg.cells16 hx
  clear hx
  go_wp2_with fail
  refine Calls.mono (HI2.out (w1.alloc (.cells #[.int .i64 cl, .int .i64 sq, .int .i64 ck, .string ky, .int .i64 ok, .float .f64 on, .string os, .int .i64 vk, .float .f64 vn, .string vs] 28)) (w1.heap.size + 1) (by rw [size_alloc])) ?_
  rintro e w2 ⟨b2, a2, u2, rfl, ho, hb, hk, hb2⟩
  have HA := Lib.hid (((HA.out.add (.cells #[.int .i64 cl, .int .i64 sq, .int .i64 ck, .string ky, .int .i64 ok, .float .f64 on, .string os, .int .i64 vk, .float .f64 vn, .string vs] 28)).on (below_alloc _ _)).on (beh_kept hk))
  have HO := Lib.hid ho
  clear ho hb hk hb2 c0 c1 c2 c3 c4 c5 c6 c7 c8 c9 c10 c11 c12 c13 c14 c15 HI2
  go_wp2_with ((at_builtin; refine wpList_append_bytes rfl _ _ 33 rfl 5 i0 Try.underlying33 hi0 hz0 hz1 hz2 b1 a1 u1 _ _ rfl (HA.out).own (by first | rfl | simp only [List.length_append]) b2 a2 u2 _ _ rfl HO.out.src rfl (by first | omega | (simp only [List.length_append]; omega)) ?_); (intro b3 a3 u3 w3 h2 h3 h4 h9); (obtain ⟨b4, h5⟩ := HA.out.app h2 h3 h4); (have HA := Lib.hid h5); (clear h2 h3 h4 h5 h9); (generalize hP : L1 ++ L2 = P2 at HA ⊢); (have HP2 := Lib.hid hP); (have hp2l : P2.length ≤ 60 := by rw [← hP, List.length_append]; omega); (clear hP); (have hx := (HA.out.box w1.heap.size (.cells #[.int .i64 cl, .int .i64 sq, .int .i64 ck, .string ky, .int .i64 ok, .float .f64 on, .string os, .int .i64 vk, .float .f64 vn, .string vs] 28) (List.mem_cons_self ..)).1); (obtain ⟨d0, d1, d2, d3, d4, d5, d6, d7, d8, d9⟩ := Lg.cells10c (c := ⟨cl, sq, ⟨ck, ky, ⟨ok, on, os⟩, ⟨vk, vn, vs⟩⟩⟩) hx); (clear hx))
  refine Calls.mono (HTX _).out ?_
  rintro e w4 ⟨b5, a5, u5, rfl, ho, hb, hk, hb2⟩
  have HA := Lib.hid ((HA.out.on (bytesW_beh w3 ky)).on (beh_kept hk))
  have HO := Lib.hid ho
  clear ho hb hk hb2 HTX d0 d1 d2 d3 d4 d5 d6 d7 d8 d9
  go_wp2_with ((at_builtin; refine wpList_append_bytes rfl _ _ 33 rfl 5 i0 Try.underlying33 hi0 hz0 hz1 hz2 b4 a3 u3 _ _ rfl (HA.out).own (by first | rfl | simp only [List.length_append]) b5 a5 u5 _ _ rfl HO.out.src rfl (by first | omega | (simp only [List.length_append]; omega)) ?_); (intro b6' a6 u6 w6 h2 h3 h4 h9); (obtain ⟨b6, h5⟩ := HA.out.app h2 h3 h4); (have HA := Lib.hid h5); (clear h2 h3 h4 h5 h9); (generalize hP : P2 ++ L3 = P3 at HA ⊢); (have HP3 := Lib.hid hP); (have hp3l : P3.length ≤ 17000 := by rw [← hP, List.length_append]; omega); (clear hP))
  go_wp2_with fail
  have HA := Lib.hid (HA.out.on (Beh.start _).drew)
  refine wp_region_held_drew (S := fun W => W.heap[w1.heap.size]? = some (.cells #[.int .i64 cl, .int .i64 sq, .int .i64 ck, .string ky, .int .i64 ok, .float .f64 on, .string os, .int .i64 vk, .float .f64 vn, .string vs] 28)) (by kernel_rfl) ((HA.out.box _ _ (List.mem_cons_self ..)).1) (fun hS => ?_)
  generalize World.drew w6 = wd at HA hS ⊢
  (try simp only [Act.put, List.getElem_toArray, List.getElem_cons_succ, List.getElem_cons_zero, List.setIfInBounds_toArray, List.set_cons_zero, List.set_cons_succ])
  refine wpAnyH_take (i := 0) (v := ?_) rfl (by kernel_rfl) (by kernel_rfl) (by kernel_rfl) (fun _ _ _ h => h) (Or.inl ⟨by rfl, ?_⟩) hS ?_
  rotate_left
  · intro W hW; go_simp; try with_reducible rfl
  (try simp only [Act.put, List.getElem_toArray, List.getElem_cons_zero, List.setIfInBounds_toArray, List.set_cons_zero, List.set_cons_succ])
  refine wpAnyH_take (i := 1) (v := ?_) rfl (by kernel_rfl) (by kernel_rfl) (by kernel_rfl) (fun _ _ _ h => h) (Or.inl ⟨by rfl, ?_⟩) hS ?_
  rotate_left
  · intro W hW; go_simp; try with_reducible rfl
  (try simp only [Act.put, List.getElem_toArray, List.getElem_cons_succ, List.getElem_cons_zero, List.setIfInBounds_toArray, List.set_cons_zero, List.set_cons_succ])
  refine wpAnyH_take (i := 2) (v := ?_) rfl (by kernel_rfl) (by kernel_rfl) (by kernel_rfl) (fun _ _ _ h => h) (Or.inl ⟨by rfl, ?_⟩) hS ?_
  rotate_left
  · intro W hW; go_simp; try with_reducible rfl
  (try simp only [Act.put, List.getElem_toArray, List.getElem_cons_succ, List.getElem_cons_zero, List.setIfInBounds_toArray, List.set_cons_zero, List.set_cons_succ])
  refine wpAnyH_take (i := 3) (v := ?_) rfl (by kernel_rfl) (by kernel_rfl) (by kernel_rfl) (fun _ _ _ h => h) (Or.inl ⟨by rfl, ?_⟩) hS ?_
  rotate_left
  · intro W hW; (obtain ⟨d0, d1, d2, d3, d4, d5, d6, d7, d8, d9⟩ := Lg.cells10c (c := ⟨cl, sq, ⟨ck, ky, ⟨ok, on, os⟩, ⟨vk, vn, vs⟩⟩⟩) hW); go_simp; try with_reducible rfl
  (try simp only [Act.put, List.getElem_toArray, List.getElem_cons_succ, List.getElem_cons_zero, List.setIfInBounds_toArray, List.set_cons_zero, List.set_cons_succ])
  refine wpAnyH_take (i := 6) (v := ?_) rfl (by kernel_rfl) (by kernel_rfl) (by kernel_rfl) (fun _ _ _ h => h) (Or.inl ⟨by rfl, ?_⟩) hS ?_
  rotate_left
  · intro W hW; go_simp; try with_reducible rfl
  (try simp only [Act.put, List.getElem_toArray, List.getElem_cons_succ, List.getElem_cons_zero, List.setIfInBounds_toArray, List.set_cons_zero, List.set_cons_succ])
  refine wpAnyH_take (i := 7) (v := ?_) rfl (by kernel_rfl) (by kernel_rfl) (by kernel_rfl) (fun _ _ _ h => h) (Or.inl ⟨by rfl, ?_⟩) hS ?_
  rotate_left
  · intro W hW; go_simp; try with_reducible rfl
  (try simp only [Act.put, List.getElem_toArray, List.getElem_cons_succ, List.getElem_cons_zero, List.setIfInBounds_toArray, List.set_cons_zero, List.set_cons_succ])
  refine wpAnyH_take (i := 8) (v := ?_) rfl (by kernel_rfl) (by kernel_rfl) (by kernel_rfl) (fun _ _ _ h => h) (Or.inl ⟨by rfl, ?_⟩) hS ?_
  rotate_left
  · intro W hW; (obtain ⟨d0, d1, d2, d3, d4, d5, d6, d7, d8, d9⟩ := Lg.cells10c (c := ⟨cl, sq, ⟨ck, ky, ⟨ok, on, os⟩, ⟨vk, vn, vs⟩⟩⟩) hW); go_simp; try with_reducible rfl
  (try simp only [Act.put, List.getElem_toArray, List.getElem_cons_succ, List.getElem_cons_zero, List.setIfInBounds_toArray, List.set_cons_zero, List.set_cons_succ])
  refine wpAnyH_ready (rs := [4]) (by kernel_rfl) (by simp) ?_
  refine AllReadyH.cons rfl (fun K hK => ?_) (AllReadyH.nil)
  all_goals (try simp only [List.getElem_toArray, List.getElem_cons_succ, List.getElem_cons_zero])
  go_simp
  go_at_call 75
  refine Calls.mono (HV1.out _) ?_
  rintro x w7 ⟨b7, a7, u7, rfl, ho7, _, hk7, _⟩
  have HA := Lib.hid (HA.out.on (beh_kept hk7))
  have HO7 := Lib.hid ho7
  refine hK.out _ _ (hk7.heap hS (fun h => h)) (fun hS => ?_)
  clear hK K
  (try simp only [Act.put, List.getElem_toArray, List.getElem_cons_succ, List.getElem_cons_zero, List.setIfInBounds_toArray, List.set_cons_zero, List.set_cons_succ])
  clear ho7 hk7
  refine wpAnyH_ready (rs := [5]) (by kernel_rfl) (by simp) ?_
  refine AllReadyH.cons rfl (fun K hK => ?_) (AllReadyH.nil)
  all_goals (try simp only [List.getElem_toArray, List.getElem_cons_succ, List.getElem_cons_zero])
  rw [if_pos (by rfl)]
  refine wp_append_bytes _ _ 33 rfl 5 i0 Try.underlying33 hi0 hz0 hz1 hz2 b6 a6 u6 P3 _ rfl (HA.out.own) (by first | rfl | simp only [List.length_append]) b7 a7 u7 L4 L4.length rfl HO7.out.src rfl (by first | omega | (simp only [List.length_append]; omega)) ?_
  intro b8 a8 u8 w8 h2 h3 h4 h9
  obtain ⟨b9, h8⟩ := HA.out.app h2 h3 h4
  have HA := Lib.hid h8
  clear h2 h3 h4 h8 h9
  generalize hP : P3 ++ L4 = P4 at HA ⊢
  have HP4 := Lib.hid hP
  have hp4l : P4.length ≤ 34000 := by rw [← hP, List.length_append]; omega
  clear hP
  refine hK.out _ _ ((HA.out.box _ _ (List.mem_cons_self ..)).1) (fun hS => ?_)
  clear hK K
  (try simp only [Act.put, List.setIfInBounds_toArray, List.set_cons_zero, List.set_cons_succ])
  clear HO7
  refine wpAnyH_ready (rs := [9]) (by kernel_rfl) (by simp) ?_
  refine AllReadyH.cons rfl (fun K hK => ?_) (AllReadyH.nil)
  all_goals (try simp only [List.getElem_toArray, List.getElem_cons_succ, List.getElem_cons_zero])
  go_simp
  go_at_call 75
  refine Calls.mono (HV2.out _) ?_
  rintro x w9 ⟨b10, a10, u10, rfl, ho10, _, hk10, _⟩
  have HA := Lib.hid (HA.out.on (beh_kept hk10))
  have HO10 := Lib.hid ho10
  refine hK.out _ _ (hk10.heap hS (fun h => h)) (fun hS => ?_)
  clear hK K
  (try simp only [Act.put, List.getElem_toArray, List.getElem_cons_succ, List.getElem_cons_zero, List.setIfInBounds_toArray, List.set_cons_zero, List.set_cons_succ])
  clear ho10 hk10
  refine wpAnyH_ready (rs := [10]) (by kernel_rfl) (by simp) ?_
  refine AllReadyH.cons rfl (fun K hK => ?_) (AllReadyH.nil)
  all_goals (try simp only [List.getElem_toArray, List.getElem_cons_succ, List.getElem_cons_zero])
  rw [if_pos (by rfl)]
  refine wp_append_bytes _ _ 33 rfl 5 i0 Try.underlying33 hi0 hz0 hz1 hz2 b9 a8 u8 P4 _ rfl (HA.out.own) (by first | rfl | simp only [List.length_append]) b10 a10 u10 L5 L5.length rfl HO10.out.src rfl (by first | omega | (simp only [List.length_append]; omega)) ?_
  intro b11 a11 u11 w11 h2 h3 h4 h9
  obtain ⟨b12, h8⟩ := HA.out.app h2 h3 h4
  have HA := Lib.hid h8
  clear h2 h3 h4 h8 h9
  generalize hP : P4 ++ L5 = P5 at HA ⊢
  have HP5 := Lib.hid hP
  have hp5l : P5.length ≤ 51000 := by rw [← hP, List.length_append]; omega
  clear hP
  refine hK.out _ _ ((HA.out.box _ _ (List.mem_cons_self ..)).1) (fun hS => ?_)
  clear hK K
  (try simp only [Act.put, List.setIfInBounds_toArray, List.set_cons_zero, List.set_cons_succ])
  clear HO10
  refine wpAnyH_take (i := 11) (v := ?_) rfl (by kernel_rfl) (by kernel_rfl) (by kernel_rfl) (fun _ _ _ h => h) (Or.inl ⟨by rfl, ?_⟩) hS ?_
  rotate_left
  · intro W hW; go_simp; try with_reducible rfl
  (try simp only [Act.put, List.getElem_toArray, List.getElem_cons_succ, List.getElem_cons_zero, List.setIfInBounds_toArray, List.set_cons_zero, List.set_cons_succ])
  refine wpAnyH_done (by kernel_rfl) ?_ _
  go_wp2_with fail
  go_ret
  have hn := HA.out.new ((Kept.refl Mem.None w).alloc (.cells #[.int .i64 tm, .int .i64 1, .int .i64 cl, .int .i64 sq, .int .i64 ck, .string ky, .int .i64 ok, .float .f64 on, .string os, .int .i64 vk, .float .f64 vn, .string vs, .int .i64 f, .int .i64 wt, .int .i64 l, .int .i64 xx] 32))
  rw [HE.out, HP2.out, HP3.out, HP4.out, HP5.out]
  exact hn
end Go.Proofs.Ytjdebdfbjcpjgaa.Wr
end
section
/- The reference's writers: a list of entries, an entry, a hard state. -/
namespace Go.Proofs.Ytjdebdfbjcpjgaa.Wr
open Go Go.RowKit Vl Kv Ss Cn Mem Lg Nm
attribute [local go_sem] Nm.run_bits Nm.run_frombits run_store_float
theorem ok_kind {x : E} (h : okE x = true) : x.kind = 0 ∨ x.kind = 1 ∨ x.kind = 2 := by
  unfold okE at h
  rw [Bool.and_eq_true, Bool.and_eq_true, Bool.and_eq_true, Bool.and_eq_true, decide_eq_true_eq, decide_eq_true_eq] at h
  omega
theorem refBytesW (x : E) (hf : FitE x) (ho : okE x = true) (w : World) : Calls Try.prog 36 #[x.agg] w (Pk.NewB (cEnt.enc x) w) := by
  have hk := ok_kind ho
  obtain ⟨tm, kd, ⟨cl, sq, ⟨ck, ky, ⟨o1, o2, o3⟩, ⟨u1, u2, u3⟩⟩⟩, ⟨f, wt, l, xx⟩⟩ := x
  rcases hk with h | h | h
  · have h : kd = 0 := h
    subst h
    exact refBytes0 tm cl sq ck ky o1 o2 o3 u1 u2 u3 f wt l xx w hf
  · have h : kd = 1 := h
    subst h
    exact refBytes1 tm cl sq ck ky o1 o2 o3 u1 u2 u3 f wt l xx w hf ho
  · have h : kd = 2 := h
    subst h
    exact refBytes2 tm cl sq ck ky o1 o2 o3 u1 u2 u3 f wt l xx w hf
set_option maxHeartbeats 800000 in
theorem sized_yes {a : Option Addr} {n cap : Nat} (h : n ≤ 16384) (w : World) : Calls Try.prog 35 #[.slice a n cap] w fun e w' => e = .returned (.tuple #[.slice a n cap, .int .i64 0]) ∧ w = w' := by
  have d1 : decide ((16384 : Int) < (n : Int)) = false := decide_eq_false (by omega)
  clear h
  go_enter Try.func35, Try.ntmps35
  go_wp2_with fail
  go_ret2
  exact ⟨rfl, rfl⟩
set_option maxHeartbeats 800000 in
theorem sized_no {a : Option Addr} {n cap : Nat} (h : ¬ n ≤ 16384) (w : World) : Calls Try.prog 35 #[.slice a n cap] w fun e w' => e = .returned (.tuple #[.slice none 0 0, .int .i64 2]) ∧ w = w' := by
  have d1 : decide ((16384 : Int) < (n : Int)) = true := decide_eq_true (by omega)
  clear h
  go_enter Try.func35, Try.ntmps35
  go_wp2_with fail
  go_ret2
  exact ⟨rfl, rfl⟩
theorem enc_yes {w w' : World} {l : List Nat} {b cap : Nat} {a : Option Addr} (h : l.length ≤ 16384) (ho : OwnB 5 w' b a cap l) (hl : w.heap.size ≤ b) (hb : Beh w w') : EncTold (some (some l)) w (.returned (.tuple #[.slice a l.length cap, .int .i64 0])) w' :=
  ⟨hb, fun _ => ⟨b, a, cap, rfl, ho, hl⟩, fun h2 => by omega⟩
theorem enc_no {w w' : World} {l : List Nat} (h : ¬ l.length ≤ 16384) (hb : Beh w w') : EncTold (some (some l)) w (.returned (.tuple #[.slice none 0 0, .int .i64 2])) w' :=
  ⟨hb, fun h2 => absurd h2 h, fun _ => rfl⟩
set_option maxHeartbeats 3200000 in
set_option maxRecDepth 100000 in
theorem refListW (a : Option Addr) (cap : Nat) (L : List E) (w : World) (h : EntAt w a cap L) (hf : ∀ x ∈ L, FitE x) (ho : okL L = true) (hm : L.length ≤ 100000) :
    Calls Try.prog 49 #[.slice a L.length cap] w (Pk.NewB (listB L) w) := by
  obtain ⟨i0, hi0, hz0, hz1, hz2⟩ := info_parts Pk.infoU8
  have HI := Lib.hid h
  have HF := Lib.hid hf
  have HOK := Lib.hid (List.all_eq_true.1 ho)
  obtain ⟨L0, hL0⟩ : ∃ L0, L0 = Pk.intB L.length := ⟨_, rfl⟩
  have HE : Hid (listB L = L0 ++ L.flatMap cEnt.enc) := Lib.hid (by rw [hL0]; rfl)
  rw [HE.out]
  have hl0 : L0.length ≤ 10 := by rw [hL0]; exact (Pk.intB_len _).2
  have HIN : Hid (Calls Try.prog 89 #[.int .i64 (L.length : Int)] w (Pk.NewB L0 w)) := by rw [hL0]; exact Pk.refInt_any (L.length : Int) w (by omega) (by omega)
  clear h hf ho hL0
  go_enter Try.func49, Try.ntmps49
  go_wp2_with fail
  refine Calls.mono HIN.out ?_
  rintro e w1 ⟨b1, a1, u1, rfl, ho, hb, hk, hb2⟩
  have HA := Lib.hid (Ac.start (w0 := w) ho hb hk hb2 [] (fun n o hn => nomatch hn))
  clear ho hb hk hb2 HIN
  go_wp2_with fail
  go_loopw [3, 4] (fun v i wr => ∃ k : Nat, k ≤ L.length ∧ i = .int .i64 k ∧ ∃ (P : List Nat) (b : Nat) (a : Option Addr) (u : Nat), v = .slice a P.length u ∧ P.length ≤ 10 + k * 60000 ∧ Hid (P = L0 ++ (L.take k).flatMap cEnt.enc) ∧ Hid (Ac w wr P b u a [])) (fun _ i _ => L.length - (intOf i).toNat)
  case atStart => exact ⟨0, by omega, rfl, L0, b1, a1, u1, rfl, by omega, Lib.hid (by simp), HA.out⟩
  case round =>
    clear HA
    obtain ⟨k, hk, rfl, P, b2, a2, u2, rfl, hpl, HP, HA⟩ := hrel
    have hb : Beh w wr := beh_kept HA.out.kept
    by_cases hlt : k < L.length
    · obtain ⟨cS, oS, rfl, _⟩ := EntAt.cells HI.out (by omega)
      obtain ⟨_, _, he, hc⟩ := EntAt.cells (HI.out.below hb) (by omega)
      cases he
      have hc := hc k hlt
      obtain ⟨c0, c1, c2, c3, c4, c5, c6, c7, c8, c9, c10, c11, c12, c13, c14, c15⟩ := hc
      have e1 : L.getD k E.zero ∈ L := by
        have e : L.getD k E.zero = L[k] := by simp [hlt]
        rw [e]; exact List.getElem_mem hlt
      obtain ⟨Q, hQ⟩ : ∃ Q, Q = cEnt.enc (L.getD k E.zero) := ⟨_, rfl⟩
      have HK : Hid (∀ W, Calls Try.prog 36 #[(L.getD k E.zero).agg] W (Pk.NewB Q W)) := fun W => by rw [hQ]; exact refBytesW _ (HF.out _ e1) (HOK.out _ e1) W
      have hql : Q.length ≤ 60000 := by rw [hQ]; exact cEnt_le (HF.out _ e1)
      have HT : Hid (P ++ Q = L0 ++ (L.take (k + 1)).flatMap cEnt.enc) := Lib.hid (by rw [HP.out, hQ, take_flat (z := E.zero) hlt]; simp only [List.append_assoc])
      clear hQ e1 hb HP
      generalize L.getD k E.zero = x at *
      go_wp2_with fail
      refine Calls.mono (HK.out _) ?_
      rintro e w3 ⟨b3, a3, u3, rfl, ho, hb, hk3, hb2⟩
      have HA := Lib.hid (HA.out.on (beh_kept hk3))
      have HO := Lib.hid ho
      clear ho hb hk3 hb2 HK c0 c1 c2 c3 c4 c5 c6 c7 c8 c9 c10 c11 c12 c13 c14 c15
      go_wp2_with (at_builtin; refine wpList_append_bytes rfl _ _ 33 rfl 5 i0 Try.underlying33 hi0 hz0 hz1 hz2 b2 a2 u2 _ _ rfl (HA.out).own rfl b3 a3 u3 _ _ rfl HO.out.src rfl (by omega) ?_; (intro b4_ a4 u4 w4 h2 h3 h4 h9); (obtain ⟨b4, h5⟩ := HA.out.app h2 h3 h4); (have HA := Lib.hid h5); (clear h2 h3 h4 h5 h9); (generalize hP : P ++ Q = P4 at HA ⊢); (have HP4 := Lib.hid hP); (have hp4l : P4.length ≤ 10 + (k + 1) * 60000 := by rw [← hP, List.length_append]; omega); (clear hP))
      go_roundw
      case rel => exact ⟨k + 1, by omega, by go_num, P4, b4, a4, u4, rfl, by omega, Lib.hid (by rw [← HP4.out]; exact HT.out), HA.out⟩
      case measure => simp [intOf]; omega
    · obtain rfl : k = L.length := by omega
      have HQ : Hid (P = L0 ++ L.flatMap cEnt.enc) := Lib.hid (by have := HP.out; rwa [List.take_length] at this)
      clear hb HP
      go_wp2_with fail
      go_ret
      rw [← HQ.out]
      exact HA.out.new (Kept.refl _ _)
set_option maxHeartbeats 3200000 in
set_option maxRecDepth 100000 in
theorem refEntryW (x : E) (hf : FitE x) (w : World) : Calls Try.prog 12 #[x.agg] w (EncTold (eR (some []) x) w) := by
  have HB := Lib.hid (Bh.Bx.one w x.obj)
  have HOK := fun W => Lib.hid (refEntOk x W)
  have HBY := fun h W => Lib.hid (refBytesW x hf h W)
  have HX0 := Lib.hid (show okE x = false → eR (some []) x = none from fun h => by unfold eR; rw [if_neg (by rw [h]; decide)])
  have HX1 := Lib.hid (show okE x = true → eR (some []) x = some (some (cEnt.enc x)) from fun h => by unfold eR; rw [if_pos h]; rfl)
  have hxl := cEnt_le hf
  clear hf
  generalize cEnt.enc x = Q at *
  generalize eR (some []) x = r at *
  (obtain ⟨c0, c1, c2, c3, c4, c5, c6, c7, c8, c9, c10, c11, c12, c13, c14, c15⟩ := Lg.cells16 (show _ = some (E.obj x) from HB.out.b0))
  cases hq : okE x
  · have hr := HX0.out hq
    subst hr
    rw [hq] at HOK
    clear HX0 HX1 HBY hq
    go_enter Try.func12, Try.ntmps12
    go_wp2_with (first | (go_at_call 34; refine Calls.mono (HOK _).out ?_; rintro e w' ⟨rfl, hb⟩; (have HB := Lib.hid (HB.out.on hb)); clear hb) | (apply Bh.load_bx 0 HB.out Try.underlying32; rfl; rfl; rfl; rfl; rfl; kernel_rfl))
    go_ret2
    exact ⟨HB.out.beh, rfl⟩
  · have hr := HX1.out hq
    subst hr
    have HBY := fun W => Lib.hid ((HBY hq W).out)
    rw [hq] at HOK
    clear HX0 HX1 hq
    go_enter Try.func12, Try.ntmps12
    go_wp2_with (first | (go_at_call 34; refine Calls.mono (HOK _).out ?_; rintro e w' ⟨rfl, hb⟩; (have HB := Lib.hid (HB.out.on hb)); clear hb; (obtain ⟨c0, c1, c2, c3, c4, c5, c6, c7, c8, c9, c10, c11, c12, c13, c14, c15⟩ := Lg.cells16 (show _ = some (E.obj x) from HB.out.b0))) | (apply Bh.load_bx 0 HB.out Try.underlying32; rfl; rfl; rfl; rfl; rfl; kernel_rfl))
    refine Calls.mono (HBY _).out ?_
    rintro e w2 ⟨b2, a2, u2, rfl, ho, hb, hk, hb2⟩
    have HO := Lib.hid (show OwnB 5 w2 b2 a2 u2 Q ∧ w.heap.size ≤ b2 ∧ Beh w w2 from ⟨ho, by have := HB.out.beh.size; omega, HB.out.beh.trans (beh_kept hk)⟩)
    clear ho hb hk hb2 HBY c0 c1 c2 c3 c4 c5 c6 c7 c8 c9 c10 c11 c12 c13 c14 c15
    by_cases hn : Q.length ≤ 16384
    · go_wp2_with (go_at_call 35; refine (sized_yes hn _).mono ?_; rintro e w' ⟨rfl, rfl⟩)
      go_ret2
      exact enc_yes hn HO.out.1 HO.out.2.1 HO.out.2.2
    · go_wp2_with (go_at_call 35; refine (sized_no hn _).mono ?_; rintro e w' ⟨rfl, rfl⟩)
      go_ret2
      exact enc_no hn HO.out.2.2
end Go.Proofs.Ytjdebdfbjcpjgaa.Wr
end
