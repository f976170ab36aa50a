/- Package logs: hasRightNumbers, hasRightBase, Check. -/
import Derived.Test.YtaifjkilmdnfbaaLogCode5
namespace Go.Proofs.Ytaifjkilmdnfbaa.Lg
open Go Go.RowKit Vl Kv Ss Cn Mem Li Nm
attribute [local go_sem] Nm.run_bits Nm.run_frombits run_store_float
attribute [local irreducible] wpQuiet
theorem nums_told (h : H) : numsOk h = ((decide (0 ≤ h.term) && decide (h.term ≤ 1099511627776)) && (decide (-1 ≤ h.vote) && decide (h.vote ≤ 6)) && (decide (0 ≤ h.base) && decide (h.base ≤ 1099511627776)) && (decide (0 ≤ h.bterm) && decide (h.bterm ≤ h.term))) := rfl
set_option maxHeartbeats 3200000 in
set_option maxRecDepth 100000 in
theorem hasRightNumbers_any (h : H) (p : Hp) (w : World) :
    Calls Try.prog 51 #[h.val p] w fun e w' => e = .returned (.bool (numsOk h)) ∧ Below w.heap.size w w' := by
  have HB := Lib.hid (Bh.Bx.one w (h.obj p))
  have HN := Lib.hid (nums_told h)
  generalize numsOk h = q at *
  obtain ⟨c0, c1, c2, c3, c4, c5, c6, c7, c8, c9⟩ := cells10h HB.out.b0
  cases f0 : (decide (0 ≤ h.term) && decide (h.term ≤ 1099511627776))
  · go_enter Try.func51, Try.ntmps51
    go_wp2_with (first | (go_at_call 64; refine (isFrom_any _ _ _ _).mono ?_; rintro e w' ⟨rfl, rfl⟩; (first | rw [f0] | skip)))
    go_ret
    exact ⟨ret_bool (by rw [HN.out, f0]; simp), HB.out.beh⟩
  cases f1 : (decide (-1 ≤ h.vote) && decide (h.vote ≤ 6))
  · go_enter Try.func51, Try.ntmps51
    go_wp2_with (first | (go_at_call 64; refine (isFrom_any _ _ _ _).mono ?_; rintro e w' ⟨rfl, rfl⟩; (first | rw [f0] | rw [f1] | skip)))
    go_ret
    exact ⟨ret_bool (by rw [HN.out, f0, f1]; simp), HB.out.beh⟩
  cases f2 : (decide (0 ≤ h.base) && decide (h.base ≤ 1099511627776))
  · go_enter Try.func51, Try.ntmps51
    go_wp2_with (first | (go_at_call 64; refine (isFrom_any _ _ _ _).mono ?_; rintro e w' ⟨rfl, rfl⟩; (first | rw [f0] | rw [f1] | rw [f2] | skip)))
    go_ret
    exact ⟨ret_bool (by rw [HN.out, f0, f1, f2]; simp), HB.out.beh⟩
  go_enter Try.func51, Try.ntmps51
  go_wp2_with (first | (go_at_call 64; refine (isFrom_any _ _ _ _).mono ?_; rintro e w' ⟨rfl, rfl⟩; (first | rw [f0] | rw [f1] | rw [f2] | skip)))
  go_ret
  exact ⟨ret_bool (by rw [HN.out, f0, f1, f2]; simp), HB.out.beh⟩
theorem base_told (h : H) : baseOk h = (!((h.base == 0) != (h.bterm == 0)) && !((h.base == 0) && decide (0 < h.snap.length)) && (decide ((h.snap.length : Int) ≤ 16384) && (h.conf.check == 0))) := by
  unfold baseOk
  rw [check_zero_b, show decide (h.base = 0) = (h.base == 0) by rw [Bool.eq_iff_iff]; simp, show decide (h.bterm = 0) = (h.bterm == 0) by rw [Bool.eq_iff_iff]; simp,
    show decide (h.base ≠ 0) = !(h.base == 0) by rw [Bool.eq_iff_iff]; simp, show decide (h.snap.length = 0) = !decide (0 < h.snap.length) by rw [Bool.eq_iff_iff]; simp,
    show decide (h.snap.length ≤ 16384) = decide ((h.snap.length : Int) ≤ 16384) by apply decide_eq_decide.2; omega]
  cases (h.base == 0) <;> cases (h.bterm == 0) <;> cases decide (0 < h.snap.length) <;> rfl
set_option maxHeartbeats 3200000 in
set_option maxRecDepth 100000 in
theorem hasRightBase_any (h : H) (p : Hp) (w : World) :
    Calls Try.prog 52 #[h.val p] w fun e w' => e = .returned (.bool (baseOk h)) ∧ Below w.heap.size w w' := by
  have HB := Lib.hid (Bh.Bx.one w (h.obj p))
  have HN := Lib.hid (base_told h)
  have HK := fun w => Lib.hid (Cn.Check_any h.conf w)
  generalize baseOk h = q at *
  generalize h.conf.check = ck at *
  obtain ⟨c0, c1, c2, c3, c4, c5, c6, c7, c8, c9⟩ := cells10h HB.out.b0
  cases f0 : (h.base == 0) <;> cases f1 : (h.bterm == 0) <;> cases f2 : decide (0 < h.snap.length) <;> cases f3 : decide ((h.snap.length : Int) ≤ 16384)
  all_goals
    go_enter Try.func52, Try.ntmps52
    go_wp2_with (first | (go_at_call 59; refine ((HK _).out).mono ?_; rintro e w' ⟨rfl, hb⟩; (have HB := Lib.hid (HB.out.on hb)); clear hb))
    go_ret
    exact ⟨ret_bool (by rw [HN.out, f0, f1, f2, f3]; simp), HB.out.beh⟩
set_option maxHeartbeats 3200000 in
set_option maxRecDepth 100000 in
theorem Check_h (h : H) (p : Hp) (w : World) (ha : HardAt w h p) :
    Calls Try.prog 18 #[h.val p] w fun e w' => e = .returned (.int .i64 h.check) ∧ Below w.heap.size w w' := by
  have HB := Lib.hid (Bh.Bx.one w (h.obj p))
  have HA : Hid (∀ W, Kv.Beh w W → HardAt W h p) := fun W hW => ha.on hW
  have HC : Hid (h.check = if (numsOk h && baseOk h && rowOk h.log h.bterm h.term) = true then 0 else 6) := rfl
  have HN := fun w => Lib.hid (hasRightNumbers_any h p w)
  have HK := fun w => Lib.hid (hasRightBase_any h p w)
  have HR : Hid (∀ W, Kv.Beh w W → Calls Try.prog 53 #[.slice p.la h.log.length p.lc, .int .i64 h.bterm, .int .i64 h.term] W fun e w' => e = .returned (.bool (rowOk h.log h.bterm h.term)) ∧ Below W.heap.size W w') := fun W hW => couldStand_any p.la p.lc h.log h.bterm h.term W (HA.out W hW).log
  clear ha HA
  generalize h.check = q at *
  obtain ⟨c0, c1, c2, c3, c4, c5, c6, c7, c8, c9⟩ := cells10h HB.out.b0
  cases n0 : numsOk h <;> cases n1 : baseOk h <;> cases n2 : rowOk h.log h.bterm h.term
  all_goals
    rw [n0, n1, n2] at HC
    simp only [n0] at HN
    simp only [n1] at HK
    rw [n2] at HR
    go_enter Try.func18, Try.ntmps18
    go_wp2_with (first
      | (apply Bh.load_bx 0 HB.out Try.underlying27; rfl; rfl; rfl; rfl; rfl; kernel_rfl)
      | (go_at_call 51; refine ((HN _).out).mono ?_; rintro e w' ⟨rfl, hb⟩; (have HB := Lib.hid (HB.out.on hb)); clear hb; (obtain ⟨c0, c1, c2, c3, c4, c5, c6, c7, c8, c9⟩ := cells10h HB.out.b0))
      | (go_at_call 52; refine ((HK _).out).mono ?_; rintro e w' ⟨rfl, hb⟩; (have HB := Lib.hid (HB.out.on hb)); clear hb; (obtain ⟨c0, c1, c2, c3, c4, c5, c6, c7, c8, c9⟩ := cells10h HB.out.b0))
      | (go_at_call 53; refine Calls.mono (HR.out _ HB.out.beh) ?_; rintro e w' ⟨rfl, hb⟩; (have HB := Lib.hid (HB.out.on hb)); clear hb; (obtain ⟨c0, c1, c2, c3, c4, c5, c6, c7, c8, c9⟩ := cells10h HB.out.b0)))
    go_ret
    exact ⟨ret_int (by rw [HC.out]; rfl), HB.out.beh⟩
end Go.Proofs.Ytaifjkilmdnfbaa.Lg
