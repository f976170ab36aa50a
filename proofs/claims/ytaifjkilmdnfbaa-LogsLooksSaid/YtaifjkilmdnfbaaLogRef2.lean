/- The reference: zeroCall, zeroConf, Entry. -/
import Derived.Test.YtaifjkilmdnfbaaLogCode4
import Derived.Test.YtaifjkilmdnfbaaConfC4
namespace Go.Proofs.Ytaifjkilmdnfbaa.Lg
open Go Go.RowKit Vl Kv Ss Cn Mem Li Nm
attribute [local go_sem] Nm.run_bits Nm.run_frombits run_store_float
attribute [local irreducible] wpQuiet
set_option maxHeartbeats 1600000 in
theorem zeroCall_any (c : Cl) (w : World) :
    Calls Try.prog 72 #[c.agg] w fun e w' => e = .returned (.bool (noCall c)) ∧ Below w.heap.size w w' := by
  have HB := Lib.hid (Bh.Bx.one w c.obj)
  have HN : ∀ w, Hid (Calls Try.prog 56 #[c.agg, Cl.zero.agg] w fun e w' => e = .returned (.bool (noCall c)) ∧ Below w.heap.size w w') := fun w => keepCall_any c Cl.zero w
  generalize noCall c = n at *
  unfold Cl.obj at HB
  obtain ⟨c0, c1, c2, c3, c4, c5, c6, c7, c8, c9⟩ := cells10 HB.out.b0
  go_enter Try.func72, Try.ntmps72
  go_wp2_with (first | (go_at_call 56; refine ((HN _).out).mono ?_; rintro e w' ⟨rfl, hb⟩; (have HB := Lib.hid (HB.out.on hb)); clear hb))
  go_ret
  exact ⟨rfl, HB.out.beh⟩
set_option maxHeartbeats 1600000 in
theorem zeroConf_any (c : C) (w : World) :
    Calls Try.prog 73 #[c.val] w fun e w' => e = .returned (.bool (decide (c = C.zero))) ∧ Below w.heap.size w w' := by
  have HB := Lib.hid (Bh.Bx.one w (Lg.C.obj c))
  have HN : ∀ w, Hid (Calls Try.prog 26 #[c.val, C.zero.val] w fun e w' => e = .returned (.bool (decide (c = C.zero))) ∧ Below w.heap.size w w') := fun w => keepConf_any c C.zero w
  generalize decide (c = C.zero) = n at *
  unfold Lg.C.obj at HB
  obtain ⟨c0, c1, c2, c3⟩ := Bh.cells4 HB.out.b0
  go_enter Try.func73, Try.ntmps73
  go_wp2_with (first | (go_at_call 26; refine ((HN _).out).mono ?_; rintro e w' ⟨rfl, hb⟩; (have HB := Lib.hid (HB.out.on hb)); clear hb))
  go_ret
  exact ⟨rfl, HB.out.beh⟩
set_option maxHeartbeats 3200000 in
set_option maxRecDepth 100000 in
theorem rEntry_any (x : E) (w : World) :
    Calls Try.prog 67 #[x.agg] w fun e w' => e = .returned (.bool x.right) ∧ Below w.heap.size w w' := by
  have HB := Lib.hid (Bh.Bx.one w x.obj)
  have HN := fun w => Lib.hid (zeroCall_any x.call w)
  have HR := fun w => Lib.hid (refCall_any x.call w)
  have HK := fun w => Lib.hid (rConf_any x.conf w)
  have HZC := fun w => Lib.hid (zeroConf_any x.conf w)
  have R0 := Lib.hid (eright0 (x := x))
  have R1 := Lib.hid (eright1 (x := x))
  have R2 := Lib.hid (eright2 (x := x))
  have R3 := Lib.hid (eright3 (x := x))
  generalize x.right = r at *
  generalize noCall x.call = n at *
  generalize x.call.right = cr at *
  generalize x.conf.right = cg at *
  generalize decide (x.conf = C.zero) = z at *
  unfold E.obj at HB
  obtain ⟨tm, kd, cl, cf⟩ := x
  obtain ⟨f, wt, l, xx⟩ := cf
  dsimp only at HB HN HR HK HZC R0 R1 R2 R3
  (obtain ⟨c0, c1, c2, c3, c4, c5, c6, c7, c8, c9, c10, c11, c12, c13, c14, c15⟩ := cells16 HB.out.b0)
  by_cases k0 : kd = 0
  · have HX := Lib.hid (R0.out k0)
    subst k0
    clear R0 R1 R2 R3
    cases n
    all_goals
      go_enter Try.func67, Try.ntmps67
      go_wp2_with (first | (go_at_call 73; refine ((HZC _).out).mono ?_; rintro e w' ⟨rfl, hb⟩; (have HB := Lib.hid (HB.out.on hb)); clear hb; (obtain ⟨c0, c1, c2, c3, c4, c5, c6, c7, c8, c9, c10, c11, c12, c13, c14, c15⟩ := cells16 HB.out.b0)) | (go_at_call 72; refine ((HN _).out).mono ?_; rintro e w' ⟨rfl, hb⟩; (have HB := Lib.hid (HB.out.on hb)); clear hb; (obtain ⟨c0, c1, c2, c3, c4, c5, c6, c7, c8, c9, c10, c11, c12, c13, c14, c15⟩ := cells16 HB.out.b0)))
      go_ret
      exact ⟨ret_bool (by rw [HX.out]; simp), HB.out.beh⟩
  by_cases k1 : kd = 1
  · have HX := Lib.hid (R1.out k1)
    subst k1
    clear R0 R1 R2 R3 k0
    cases hcr : (cr == 0)
    all_goals
      rw [hcr] at HX
      go_enter Try.func67, Try.ntmps67
      go_wp2_with (first | (go_at_call 73; refine ((HZC _).out).mono ?_; rintro e w' ⟨rfl, hb⟩; (have HB := Lib.hid (HB.out.on hb)); clear hb; (obtain ⟨c0, c1, c2, c3, c4, c5, c6, c7, c8, c9, c10, c11, c12, c13, c14, c15⟩ := cells16 HB.out.b0)) | (go_at_call 74; refine ((HR _).out).mono ?_; rintro e w' ⟨rfl, hb⟩; (have HB := Lib.hid (HB.out.on hb)); clear hb; (obtain ⟨c0, c1, c2, c3, c4, c5, c6, c7, c8, c9, c10, c11, c12, c13, c14, c15⟩ := cells16 HB.out.b0)))
      go_ret
      exact ⟨ret_bool (by rw [HX.out]; simp), HB.out.beh⟩
  by_cases k2 : kd = 2
  · have HX := Lib.hid (R2.out k2)
    subst k2
    clear R0 R1 R2 R3 k0 k1
    cases n
    all_goals
      go_enter Try.func67, Try.ntmps67
      go_wp2_with (first | (go_at_call 73; refine ((HZC _).out).mono ?_; rintro e w' ⟨rfl, hb⟩; (have HB := Lib.hid (HB.out.on hb)); clear hb; (obtain ⟨c0, c1, c2, c3, c4, c5, c6, c7, c8, c9, c10, c11, c12, c13, c14, c15⟩ := cells16 HB.out.b0)) | (go_at_call 72; refine ((HN _).out).mono ?_; rintro e w' ⟨rfl, hb⟩; (have HB := Lib.hid (HB.out.on hb)); clear hb; (obtain ⟨c0, c1, c2, c3, c4, c5, c6, c7, c8, c9, c10, c11, c12, c13, c14, c15⟩ := cells16 HB.out.b0)) | (go_at_call 38; refine ((HK _).out).mono ?_; rintro e w' ⟨rfl, hb⟩; (have HB := Lib.hid (HB.out.on hb)); clear hb; (obtain ⟨c0, c1, c2, c3, c4, c5, c6, c7, c8, c9, c10, c11, c12, c13, c14, c15⟩ := cells16 HB.out.b0)))
      go_ret
      exact ⟨ret_bool (by rw [HX.out]; simp), HB.out.beh⟩
  · have HX := Lib.hid (R3.out k0 k1 k2)
    have b0 := beq_eq_false_iff_ne.2 k0
    have b1 := beq_eq_false_iff_ne.2 k1
    have b2 := beq_eq_false_iff_ne.2 k2
    clear R0 R1 R2 R3 k0 k1 k2
    go_enter Try.func67, Try.ntmps67
    go_wp2_with fail
    go_ret
    exact ⟨ret_bool HX.out.symm, HB.out.beh⟩
end Go.Proofs.Ytaifjkilmdnfbaa.Lg
