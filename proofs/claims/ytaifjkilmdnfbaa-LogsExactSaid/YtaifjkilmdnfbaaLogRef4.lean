/- The reference: Hard. -/
import Derived.Test.YtaifjkilmdnfbaaLogCode6
import Derived.Test.YtaifjkilmdnfbaaLogRef3
namespace Go.Proofs.Ytaifjkilmdnfbaa.Lg
open Go Go.RowKit Vl Kv Ss Cn Mem Li Nm
attribute [local go_sem] Nm.run_bits Nm.run_frombits run_store_float
attribute [local irreducible] wpQuiet
theorem hard_told (h : H) : h.right = (!(!(decide (0 ≤ h.term) && decide (h.term ≤ 1099511627776)) || !(decide (-1 ≤ h.vote) && decide (h.vote ≤ 6)) || !(decide (0 ≤ h.base) && decide (h.base ≤ 1099511627776)) || !(decide (0 ≤ h.bterm) && decide (h.bterm ≤ h.term)) || ((h.bterm == 0) != (h.base == 0))) && (h.conf.right && decide ((h.snap.length : Int) ≤ 16384) && (decide (0 < h.base) || ((h.snap.length : Int) == 0)) && rowOk h.log h.bterm h.term)) := by
  unfold H.right
  rw [nums_told]
  unfold baseOk
  rw [show decide (h.base = 0) = (h.base == 0) by rw [Bool.eq_iff_iff]; simp, show decide (h.bterm = 0) = (h.bterm == 0) by rw [Bool.eq_iff_iff]; simp,
    show decide (h.snap.length = 0) = ((h.snap.length : Int) == 0) by rw [Bool.eq_iff_iff]; simp,
    show decide (h.snap.length ≤ 16384) = decide ((h.snap.length : Int) ≤ 16384) by apply decide_eq_decide.2; omega]
  cases f2 : (decide (0 ≤ h.base) && decide (h.base ≤ 1099511627776))
  · cases (decide (0 ≤ h.term) && decide (h.term ≤ 1099511627776)) <;> cases (decide (-1 ≤ h.vote) && decide (h.vote ≤ 6)) <;> simp
  · have e : decide (h.base ≠ 0) = decide (0 < h.base) := by
      rw [Bool.and_eq_true] at f2
      have := of_decide_eq_true f2.1
      apply decide_eq_decide.2; omega
    rw [e]
    cases (decide (0 ≤ h.term) && decide (h.term ≤ 1099511627776)) <;> cases (decide (-1 ≤ h.vote) && decide (h.vote ≤ 6)) <;> cases (decide (0 ≤ h.bterm) && decide (h.bterm ≤ h.term)) <;> cases (h.base == 0) <;> cases (h.bterm == 0) <;> cases decide (0 < h.base) <;> cases ((h.snap.length : Int) == 0) <;> cases decide ((h.snap.length : Int) ≤ 16384) <;> cases h.conf.right <;> cases rowOk h.log h.bterm h.term <;> rfl
set_option maxHeartbeats 6400000 in
set_option maxRecDepth 100000 in
theorem rHard_any (h : H) (p : Hp) (w : World) (ha : HardAt w h p) :
    Calls Try.prog 19 #[h.val p] w fun e w' => e = .returned (.bool h.right) ∧ Below w.heap.size w w' := by
  have HB := Lib.hid (Bh.Bx.one w (h.obj p))
  have hl := ha.snap.len
  have HN := Lib.hid (hard_told h)
  have HK := fun w => Lib.hid (rConf_any h.conf w)
  have HR : Hid (∀ W, Kv.Beh w W → Calls Try.prog 55 #[.slice p.la h.log.length p.lc, .int .i64 h.bterm, .int .i64 h.term] W fun e w' => e = .returned (.bool (rowOk h.log h.bterm h.term)) ∧ Below W.heap.size W w') := fun W hW => rrow_any p.la p.lc h.log h.bterm h.term W (ha.on hW).log
  clear ha
  generalize h.right = q at *
  generalize h.conf.right = cr at *
  generalize rowOk h.log h.bterm h.term = rr at *
  obtain ⟨c0, c1, c2, c3, c4, c5, c6, c7, c8, c9⟩ := cells10h HB.out.b0
  cases f0 : (decide (0 ≤ h.term) && decide (h.term ≤ 1099511627776))
  · go_enter Try.func19, Try.ntmps19
    go_wp2_with (first
      | (go_at_call 54; refine (rwithin_any _ _ _ _).mono ?_; rintro e w' ⟨rfl, rfl⟩; (first | rw [f0] | skip))
      | (go_at_call 38; refine ((HK _).out).mono ?_; rintro e w' ⟨rfl, hb⟩; (have HB := Lib.hid (HB.out.on hb)); clear hb; (obtain ⟨c0, c1, c2, c3, c4, c5, c6, c7, c8, c9⟩ := cells10h HB.out.b0))
      | (go_at_call 55; refine Calls.mono (HR.out _ HB.out.beh) ?_; rintro e w' ⟨rfl, hb⟩; (have HB := Lib.hid (HB.out.on hb)); clear hb))
    go_ret
    exact ⟨ret_bool (by rw [HN.out, f0]; simp), HB.out.beh⟩
  cases f1 : (decide (-1 ≤ h.vote) && decide (h.vote ≤ 6))
  · go_enter Try.func19, Try.ntmps19
    go_wp2_with (first
      | (go_at_call 54; refine (rwithin_any _ _ _ _).mono ?_; rintro e w' ⟨rfl, rfl⟩; (first | rw [f0] | rw [f1] | skip))
      | (go_at_call 38; refine ((HK _).out).mono ?_; rintro e w' ⟨rfl, hb⟩; (have HB := Lib.hid (HB.out.on hb)); clear hb; (obtain ⟨c0, c1, c2, c3, c4, c5, c6, c7, c8, c9⟩ := cells10h HB.out.b0))
      | (go_at_call 55; refine Calls.mono (HR.out _ HB.out.beh) ?_; rintro e w' ⟨rfl, hb⟩; (have HB := Lib.hid (HB.out.on hb)); clear hb))
    go_ret
    exact ⟨ret_bool (by rw [HN.out, f0, f1]; simp), HB.out.beh⟩
  cases f2 : (decide (0 ≤ h.base) && decide (h.base ≤ 1099511627776))
  · go_enter Try.func19, Try.ntmps19
    go_wp2_with (first
      | (go_at_call 54; refine (rwithin_any _ _ _ _).mono ?_; rintro e w' ⟨rfl, rfl⟩; (first | rw [f0] | rw [f1] | rw [f2] | skip))
      | (go_at_call 38; refine ((HK _).out).mono ?_; rintro e w' ⟨rfl, hb⟩; (have HB := Lib.hid (HB.out.on hb)); clear hb; (obtain ⟨c0, c1, c2, c3, c4, c5, c6, c7, c8, c9⟩ := cells10h HB.out.b0))
      | (go_at_call 55; refine Calls.mono (HR.out _ HB.out.beh) ?_; rintro e w' ⟨rfl, hb⟩; (have HB := Lib.hid (HB.out.on hb)); clear hb))
    go_ret
    exact ⟨ret_bool (by rw [HN.out, f0, f1, f2]; simp), HB.out.beh⟩
  cases f3 : (decide (0 ≤ h.bterm) && decide (h.bterm ≤ h.term))
  · go_enter Try.func19, Try.ntmps19
    go_wp2_with (first
      | (go_at_call 54; refine (rwithin_any _ _ _ _).mono ?_; rintro e w' ⟨rfl, rfl⟩; (first | rw [f0] | rw [f1] | rw [f2] | rw [f3] | skip))
      | (go_at_call 38; refine ((HK _).out).mono ?_; rintro e w' ⟨rfl, hb⟩; (have HB := Lib.hid (HB.out.on hb)); clear hb; (obtain ⟨c0, c1, c2, c3, c4, c5, c6, c7, c8, c9⟩ := cells10h HB.out.b0))
      | (go_at_call 55; refine Calls.mono (HR.out _ HB.out.beh) ?_; rintro e w' ⟨rfl, hb⟩; (have HB := Lib.hid (HB.out.on hb)); clear hb))
    go_ret
    exact ⟨ret_bool (by rw [HN.out, f0, f1, f2, f3]; simp), HB.out.beh⟩
  cases cr <;> cases g0 : (h.bterm == 0) <;> cases g1 : (h.base == 0) <;> cases g2 : decide ((h.snap.length : Int) ≤ 16384) <;> cases g3 : decide (0 < h.base) <;> cases g4 : ((h.snap.length : Int) == 0)
  all_goals
    go_enter Try.func19, Try.ntmps19
    go_wp2_with (first
      | (go_at_call 54; refine (rwithin_any _ _ _ _).mono ?_; rintro e w' ⟨rfl, rfl⟩; (first | rw [f0] | rw [f1] | rw [f2] | rw [f3] | skip))
      | (go_at_call 38; refine ((HK _).out).mono ?_; rintro e w' ⟨rfl, hb⟩; (have HB := Lib.hid (HB.out.on hb)); clear hb; (obtain ⟨c0, c1, c2, c3, c4, c5, c6, c7, c8, c9⟩ := cells10h HB.out.b0))
      | (go_at_call 55; refine Calls.mono (HR.out _ HB.out.beh) ?_; rintro e w' ⟨rfl, hb⟩; (have HB := Lib.hid (HB.out.on hb)); clear hb))
    go_ret
    exact ⟨ret_bool (by rw [HN.out, f0, f1, f2, f3, g0, g1, g2, g3, g4]; simp), HB.out.beh⟩
end Go.Proofs.Ytaifjkilmdnfbaa.Lg
