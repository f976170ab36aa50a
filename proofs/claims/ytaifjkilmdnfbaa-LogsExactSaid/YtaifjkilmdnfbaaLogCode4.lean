/- Package logs: isNoCall, isRight. -/
import Derived.Test.YtaifjkilmdnfbaaLogKeepA
import Derived.Test.YtaifjkilmdnfbaaBx
import Derived.Test.YtaifjkilmdnfbaaCallW
import Derived.Test.YtaifjkilmdnfbaaConfC1
import Derived.Test.YtaifjkilmdnfbaaConfC5
namespace Go.Proofs.Ytaifjkilmdnfbaa.Lg
open Go Go.RowKit Vl Kv Ss Cn Mem Li Nm
attribute [local go_sem] Nm.run_bits Nm.run_frombits run_store_float
attribute [local irreducible] wpQuiet
theorem run_eqf (d a b : Nat) (w : World) : (Op.equalIn (d + 1) 32 (.float .f64 a) (.float .f64 b)).run Try.prog w = .ok (FloatKind.f64.format.order a b == some .eq) w := by
  simp [Op.equalIn, run_underlying Try.underlying32]
  rfl
/-- c == api.Call{} -/
def eq0 (cl sq kd : Int) (ky : ByteArray) (ok : Int) (on : Nat) (os : ByteArray) (vk : Int) (vn : Nat) (vs : ByteArray) : Bool := (cl == 0) && (sq == 0) && (kd == 0) && (ky.toList == []) && (ok == 0) && (FloatKind.f64.format.order on 0 == some .eq) && (os.toList == []) && (vk == 0) && (FloatKind.f64.format.order vn 0 == some .eq) && (vs.toList == [])
set_option maxHeartbeats 1600000 in
theorem call_eq0 (cl sq kd : Int) (ky : ByteArray) (ok : Int) (on : Nat) (os : ByteArray) (vk : Int) (vn : Nat) (vs : ByteArray) (w : World) :
    (binOp .eql 38 (.agg #[.int .i64 cl, .int .i64 sq, .int .i64 kd, .string ky, .int .i64 ok, .float .f64 on, .string os, .int .i64 vk, .float .f64 vn, .string vs]) (.agg #[.int .i64 0, .int .i64 0, .int .i64 0, .string ⟨#[]⟩, .int .i64 0, .float .f64 0, .string ⟨#[]⟩, .int .i64 0, .float .f64 0, .string ⟨#[]⟩])).run Try.prog w = .ok (.bool (eq0 cl sq kd ky ok on os vk vn vs)) w := by
  unfold eq0
  have f1 : ∀ w, (Op.equalIn 9997 32 (.float .f64 on) (.float .f64 0)).run Try.prog w = .ok (FloatKind.f64.format.order on 0 == some .eq) w := fun w => run_eqf 9996 on 0 w
  have f2 : ∀ w, (Op.equalIn 9997 32 (.float .f64 vn) (.float .f64 0)).run Try.prog w = .ok (FloatKind.f64.format.order vn 0 == some .eq) w := fun w => run_eqf 9996 vn 0 w
  cases h0 : (cl == 0)
  · go_simp
  cases h1 : (sq == 0)
  · go_simp
  cases h2 : (kd == 0)
  · go_simp
  cases h3 : (ky.toList == [])
  · go_simp
  cases h4 : (ok == 0)
  · go_simp
  cases h5 : (FloatKind.f64.format.order on 0 == some .eq)
  · go_simp
  cases h6 : (os.toList == [])
  · go_simp
  cases h7 : (vk == 0)
  · go_simp
  cases h8 : (FloatKind.f64.format.order vn 0 == some .eq)
  · go_simp
  cases h9 : (vs.toList == [])
  · go_simp
  go_simp
theorem same_zero {a : Nat} (h : Nm.same a 0 = true) : a = 0 := by
  unfold Nm.same at h
  rw [decide_eq_true_eq, canon_zero] at h
  unfold canon at h
  split at h
  · cases h
  · exact h
theorem vsame_zero {v : V} (h : v.same V.zero = true) : v = V.zero := by
  unfold V.same at h
  rw [Bool.and_eq_true, Bool.and_eq_true, decide_eq_true_eq, decide_eq_true_eq] at h
  exact V.ext h.1.1 (same_zero h.1.2) h.2
theorem ord_zero : (FloatKind.f64.format.order 0 0 == some .eq) = true := by kernel_rfl
theorem text_empty (s : ByteArray) : decide (s = (⟨#[]⟩ : ByteArray)) = (s.toList == []) := by
  rw [← key_test, show (⟨#[]⟩ : ByteArray).toList = [] from by rw [toList_data]]
theorem noCall_told (cl sq kd : Int) (ky : ByteArray) (o v : V) : noCall ⟨cl, sq, ⟨kd, ky, o, v⟩⟩ = (eq0 cl sq kd ky o.kind o.num o.text v.kind v.num v.text && o.same V.zero && v.same V.zero) := by
  unfold noCall Cl.same Cm.same eq0
  show ((cl == 0) && (sq == 0) && ((kd == 0) && decide (ky = (⟨#[]⟩ : ByteArray)) && o.same V.zero && v.same V.zero)) = _
  rw [text_empty]
  cases ho : o.same V.zero
  · simp
  cases hv : v.same V.zero
  · simp
  obtain rfl := vsame_zero ho
  obtain rfl := vsame_zero hv
  have e0 : ((⟨#[]⟩ : ByteArray).toList == []) = true := by kernel_rfl
  dsimp only
  rw [ord_zero, e0]
  simp [Bool.and_assoc]
set_option maxHeartbeats 1600000 in
set_option maxRecDepth 100000 in
theorem isNoCall_any (c : Cl) (w : World) :
    Calls Try.prog 70 #[c.agg] w fun e w' => e = .returned (.bool (noCall c)) ∧ Below w.heap.size w w' := by
  have HB := Lib.hid (Bh.Bx.one w c.obj)
  obtain ⟨cl, sq, ⟨kd, ky, ⟨ok, on, os⟩, ⟨vk, vn, vs⟩⟩⟩ := c
  have HC := Lib.hid (noCall_told cl sq kd ky ⟨ok, on, os⟩ ⟨vk, vn, vs⟩)
  have heq := call_eq0 cl sq kd ky ok on os vk vn vs
  unfold Cl.obj at HB
  dsimp only at HC HB
  generalize eq0 cl sq kd ky ok on os vk vn vs = q0 at *
  obtain ⟨c0, c1, c2, c3, c4, c5, c6, c7, c8, c9⟩ := cells10 HB.out.b0
  cases q0
  · go_enter Try.func70, Try.ntmps70
    go_wp2_with fail
    go_ret
    exact ⟨ret_bool HC.out.symm, HB.out.beh⟩
  cases h3 : (V.mk ok on os).same V.zero
  all_goals
    go_enter Try.func70, Try.ntmps70
    go_wp2_with (first | (go_at_call 76; refine (Same_v ⟨_, _, _⟩ V.zero _).mono ?_; rintro e w' ⟨rfl, hb⟩; (first | rw [h3] | skip); (have HB := Lib.hid (HB.out.on hb)); clear hb; (obtain ⟨c0, c1, c2, c3, c4, c5, c6, c7, c8, c9⟩ := cells10 HB.out.b0)))
    go_ret
    exact ⟨ret_bool (by rw [HC.out, h3]; simp), HB.out.beh⟩
theorem eright0 {x : E} (h : x.kind = 0) : x.right = (noCall x.call && decide (x.conf = C.zero)) := by unfold E.right; rw [if_pos h]
theorem eright1 {x : E} (h : x.kind = 1) : x.right = ((x.call.right == 0) && decide (x.conf = C.zero)) := by unfold E.right; rw [if_neg (by omega), if_pos h]; rfl
theorem eright2 {x : E} (h : x.kind = 2) : x.right = (noCall x.call && x.conf.right) := by unfold E.right; rw [if_neg (by omega), if_neg (by omega), if_pos h]
theorem eright3 {x : E} (h0 : x.kind ≠ 0) (h1 : x.kind ≠ 1) (h2 : x.kind ≠ 2) : x.right = false := by unfold E.right; rw [if_neg h0, if_neg h1, if_neg h2]
theorem conf_eq0 (c : C) (w : World) : (binOp .eql 23 (.agg #[.int .i64 c.f, .int .i64 c.w, .int .i64 c.l, .int .i64 c.x]) (.agg #[.int .i64 0, .int .i64 0, .int .i64 0, .int .i64 0])).run Try.prog w = .ok (.bool (decide (c = C.zero))) w := conf_eq c.f c.w c.l c.x 0 0 0 0 w
theorem check_zero_b (c : C) : (c.check == 0) = c.right := by unfold C.check; cases c.right <;> rfl
set_option maxHeartbeats 3200000 in
set_option maxRecDepth 100000 in
theorem isRight_any (x : E) (w : World) :
    Calls Try.prog 66 #[x.agg] w fun e w' => e = .returned (.bool x.right) ∧ Below w.heap.size w w' := by
  have HB := Lib.hid (Bh.Bx.one w x.obj)
  have HN := fun w => Lib.hid (isNoCall_any x.call w)
  have HR := fun w => Lib.hid (SRight_any x.call w)
  have HK := fun w => Lib.hid (Cn.Check_any x.conf w)
  have heq := conf_eq0 x.conf
  have HZ := Lib.hid (check_zero_b x.conf)
  have R0 := Lib.hid (eright0 (x := x))
  have R1 := Lib.hid (eright1 (x := x))
  have R2 := Lib.hid (eright2 (x := x))
  have R3 := Lib.hid (eright3 (x := x))
  generalize x.right = r at *
  generalize noCall x.call = n at *
  generalize x.call.right = cr at *
  generalize x.conf.check = ck at *
  generalize x.conf.right = cg at *
  generalize decide (x.conf = C.zero) = z at *
  unfold E.obj at HB
  obtain ⟨tm, kd, cl, cf⟩ := x
  obtain ⟨f, wt, l, xx⟩ := cf
  dsimp only at HB HN HR HK heq R0 R1 R2 R3
  (obtain ⟨c0, c1, c2, c3, c4, c5, c6, c7, c8, c9, c10, c11, c12, c13, c14, c15⟩ := cells16 HB.out.b0)
  by_cases k0 : kd = 0
  · have HX := Lib.hid (R0.out k0)
    subst k0
    clear R0 R1 R2 R3
    cases n
    all_goals
      go_enter Try.func66, Try.ntmps66
      go_wp2_with (first | (go_at_call 70; refine ((HN _).out).mono ?_; rintro e w' ⟨rfl, hb⟩; (have HB := Lib.hid (HB.out.on hb)); clear hb; (obtain ⟨c0, c1, c2, c3, c4, c5, c6, c7, c8, c9, c10, c11, c12, c13, c14, c15⟩ := cells16 HB.out.b0)))
      go_ret
      exact ⟨ret_bool (by rw [HX.out]; simp), HB.out.beh⟩
  by_cases k1 : kd = 1
  · have HX := Lib.hid (R1.out k1)
    subst k1
    clear R0 R1 R2 R3 k0
    cases hcr : (cr == 0)
    all_goals
      rw [hcr] at HX
      go_enter Try.func66, Try.ntmps66
      go_wp2_with (first | (go_at_call 71; refine ((HR _).out).mono ?_; rintro e w' ⟨rfl, hb⟩; (have HB := Lib.hid (HB.out.on hb)); clear hb; (obtain ⟨c0, c1, c2, c3, c4, c5, c6, c7, c8, c9, c10, c11, c12, c13, c14, c15⟩ := cells16 HB.out.b0)))
      go_ret
      exact ⟨ret_bool (by rw [HX.out]; simp), HB.out.beh⟩
  by_cases k2 : kd = 2
  · have HX := Lib.hid (R2.out k2)
    subst k2
    clear R0 R1 R2 R3 k0 k1
    cases n
    all_goals
      go_enter Try.func66, Try.ntmps66
      go_wp2_with (first | (go_at_call 70; refine ((HN _).out).mono ?_; rintro e w' ⟨rfl, hb⟩; (have HB := Lib.hid (HB.out.on hb)); clear hb; (obtain ⟨c0, c1, c2, c3, c4, c5, c6, c7, c8, c9, c10, c11, c12, c13, c14, c15⟩ := cells16 HB.out.b0)) | (go_at_call 59; refine ((HK _).out).mono ?_; rintro e w' ⟨rfl, hb⟩; (have HB := Lib.hid (HB.out.on hb)); clear hb; (obtain ⟨c0, c1, c2, c3, c4, c5, c6, c7, c8, c9, c10, c11, c12, c13, c14, c15⟩ := cells16 HB.out.b0)))
      go_ret
      exact ⟨ret_bool (by rw [HX.out]; first | (rw [← HZ.out]; simp) | simp), HB.out.beh⟩
  · have HX := Lib.hid (R3.out k0 k1 k2)
    have b0 := beq_eq_false_iff_ne.2 k0
    have b1 := beq_eq_false_iff_ne.2 k1
    have b2 := beq_eq_false_iff_ne.2 k2
    clear R0 R1 R2 R3 k0 k1 k2
    go_enter Try.func66, Try.ntmps66
    go_wp2_with fail
    go_ret
    exact ⟨ret_bool HX.out.symm, HB.out.beh⟩
end Go.Proofs.Ytaifjkilmdnfbaa.Lg
