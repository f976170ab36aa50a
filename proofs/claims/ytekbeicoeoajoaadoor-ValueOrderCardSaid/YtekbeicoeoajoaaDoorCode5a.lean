/- Walks of the landed package value: hasRightNum, Check, Same, Less. -/
import Derived.Test.YtekbeicoeoajoaaDoorRefAdd
namespace Go.Proofs.YtekbeicoeoajoaaDoor.Vl
open Go Go.RowKit Go.Proofs.YtekbeicoeoajoaaDoor.Nm
attribute [local go_sem] run_bits run_frombits run_store_float

def V.right (v : V) : Bool := decide (v.num = if v.kind = 1 then canon v.num else 0)
theorem eq_beq (a b : Nat) : ((a : Int) == (b : Int)) = decide (a = b) := by rw [Bool.eq_iff_iff]; simp; omega
set_option maxHeartbeats 800000 in
theorem hasRight_any (v : V) (w : World) :
    Calls Tryd.prog 24 #[v.val] w fun e w' => e = .returned (.bool v.right) ∧ ∃ o, w' = w.alloc o := by
  obtain ⟨k, a, s⟩ := v
  by_cases hk : k = 1
  · subst hk
    have HC := Lib.hid (show (V.mk 1 a s).right = decide (a = canon a) from rfl)
    have HE := Lib.hid (eq_beq a (canon a))
    go_enter Tryd.func24, Tryd.ntmps24
    go_wp2_with (first | (go_at_call 44; refine (Canon_any _ _).mono ?_; rintro e w' ⟨rfl, rfl⟩))
    go_ret
    exact ⟨ret_bool (by rw [HC.out, ← HE.out]), _, rfl⟩
  · have e1 := int_nbeq hk
    have HC := Lib.hid (show (V.mk k a s).right = decide (a = 0) by simp [V.right, hk])
    clear hk
    go_enter Tryd.func24, Tryd.ntmps24
    go_wp2_with fail
    go_ret
    exact ⟨ret_bool (by rw [HC.out, Bool.eq_iff_iff]; simp), _, rfl⟩

set_option maxHeartbeats 1600000 in
theorem Check_any (v : V) (w : World) :
    Calls Tryd.prog 9 #[v.val] w fun e w' => e = .returned (.int .i64 v.check) ∧ Below w.heap.size w w' := by
  obtain ⟨k, a, s⟩ := v
  by_cases h1 : k < 0
  · have HC := Lib.hid (show (V.mk k a s).check = 15 by simp [V.check, h1])
    go_enter Tryd.func9, Tryd.ntmps9
    go_wp2_with fail
    go_ret
    exact ⟨ret_int HC.out.symm, below_alloc _ _⟩
  · by_cases h2 : 2 < k
    · have HC := Lib.hid (show (V.mk k a s).check = 15 by simp [V.check, h2])
      go_enter Tryd.func9, Tryd.ntmps9
      go_wp2_with fail
      go_ret
      exact ⟨ret_int HC.out.symm, below_alloc _ _⟩
    · by_cases hk : k = 2
      · subst hk
        clear h1 h2
        by_cases hs : 32 < s.size
        · have HC := Lib.hid (show (V.mk 2 a s).check = 2 by simp [V.check, hs])
          go_enter Tryd.func9, Tryd.ntmps9
          go_wp2_with fail
          go_ret
          exact ⟨ret_int HC.out.symm, below_alloc _ _⟩
        · cases hr : (V.mk 2 a s).right
          · have ha : a ≠ 0 := by simpa [V.right] using hr
            have HC := Lib.hid (show (V.mk 2 a s).check = 8 by simp [V.check, hs, ha])
            clear ha
            go_enter Tryd.func9, Tryd.ntmps9
            go_wp2_with (first | (go_at_call 24; refine (hasRight_any ⟨_, _, _⟩ _).mono ?_; rintro e w' ⟨rfl, o, rfl⟩))
            go_ret
            exact ⟨ret_int HC.out.symm, below_alloc2 _ _ _⟩
          · have ha : a = 0 := by simpa [V.right] using hr
            subst ha
            have HC := Lib.hid (show (V.mk 2 0 s).check = 0 by simp [V.check, hs, canon_zero])
            go_enter Tryd.func9, Tryd.ntmps9
            go_wp2_with (first | (go_at_call 24; refine (hasRight_any ⟨_, _, _⟩ _).mono ?_; rintro e w' ⟨rfl, o, rfl⟩))
            go_ret
            exact ⟨ret_int HC.out.symm, below_alloc2 _ _ _⟩
      · have k2 := int_nbeq hk
        have k3 := int_nbne hk
        by_cases hs : s.size = 0
        · obtain rfl := empty_of hs
          cases hr : (V.mk k a (⟨#[]⟩ : ByteArray)).right
          · have HC := Lib.hid (show (V.mk k a (⟨#[]⟩ : ByteArray)).check = 8 by
              by_cases k1 : k = 1
              · have ha : a ≠ canon a := by simpa [V.right, k1] using hr
                simp [V.check, k1, Ne.symm ha]
              · have ha : a ≠ 0 := by simpa [V.right, k1] using hr
                simp [V.check, h1, h2, hk, k1, ha])
            clear hk
            go_enter Tryd.func9, Tryd.ntmps9
            go_wp2_with (first | (go_at_call 24; refine (hasRight_any ⟨_, _, _⟩ _).mono ?_; rintro e w' ⟨rfl, o, rfl⟩))
            go_ret
            exact ⟨ret_int HC.out.symm, below_alloc2 _ _ _⟩
          · have HC := Lib.hid (show (V.mk k a (⟨#[]⟩ : ByteArray)).check = 0 by
              by_cases k1 : k = 1
              · have ha : a = canon a := by simpa [V.right, k1] using hr
                simp [V.check, k1, ← ha]; rfl
              · have ha : a = 0 := by simpa [V.right, k1] using hr
                simp [V.check, h1, h2, hk, ha, canon_zero]; rfl)
            clear hk
            go_enter Tryd.func9, Tryd.ntmps9
            go_wp2_with (first | (go_at_call 24; refine (hasRight_any ⟨_, _, _⟩ _).mono ?_; rintro e w' ⟨rfl, o, rfl⟩))
            go_ret
            exact ⟨ret_int HC.out.symm, below_alloc2 _ _ _⟩
        · have hs2 := nonempty_ne hs
          have HC := Lib.hid (show (V.mk k a s).check = 8 by simp [V.check, h1, h2, hk, hs])
          clear hs hk
          go_enter Tryd.func9, Tryd.ntmps9
          go_wp2_with fail
          go_ret
          exact ⟨ret_int HC.out.symm, below_alloc _ _⟩

set_option maxHeartbeats 800000 in
theorem Same_v (a b : V) (w : World) :
    Calls Tryd.prog 11 #[a.val, b.val] w fun e w' => e = .returned (.bool (a.same b)) ∧ Below w.heap.size w w' := by
  obtain ⟨k, x, s⟩ := a
  obtain ⟨l, y, t⟩ := b
  have HC := Lib.hid (show (V.mk k x s).same ⟨l, y, t⟩ = (decide (k = l) && Nm.same x y && decide (s = t)) from rfl)
  have HT := Lib.hid (text_eq s t)
  by_cases hk : k = l
  · subst hk
    cases h : Nm.same x y
    · go_enter Tryd.func11, Tryd.ntmps11
      go_wp2_with (first | (go_at_call 28; refine (Same_any _ _ _).mono ?_; rintro e w' ⟨rfl, rfl⟩))
      go_ret
      exact ⟨ret_bool (by rw [HC.out, h]; simp), below_alloc2 _ _ _⟩
    · go_enter Tryd.func11, Tryd.ntmps11
      go_wp2_with (first | (go_at_call 28; refine (Same_any _ _ _).mono ?_; rintro e w' ⟨rfl, rfl⟩))
      go_ret
      exact ⟨ret_bool (by rw [HC.out, h, ← HT.out]; simp), below_alloc2 _ _ _⟩
  · have e1 : (k == l) = false := by rw [beq_eq_false_iff_ne]; exact hk
    go_enter Tryd.func11, Tryd.ntmps11
    go_wp2_with fail
    go_ret
    exact ⟨ret_bool (by rw [HC.out]; simp [hk]), below_alloc2 _ _ _⟩

set_option maxHeartbeats 800000 in
theorem Less_v (a b : V) (ha : a.num < 18446744073709551616) (hb : b.num < 18446744073709551616) (w : World) :
    Calls Tryd.prog 13 #[a.val, b.val] w fun e w' => e = .returned (.bool (a.less b)) ∧ Below w.heap.size w w' := by
  obtain ⟨k, x, s⟩ := a
  obtain ⟨l, y, t⟩ := b
  have hx : x < 18446744073709551616 := ha
  have hy : y < 18446744073709551616 := hb
  clear ha hb
  have HC := Lib.hid (show (V.mk k x s).less ⟨l, y, t⟩ = if k ≠ l then decide (k < l) else if Nm.same x y = true then decide (s.data.toList < t.data.toList) else Nm.less x y from rfl)
  have HT := Lib.hid (text_lt s t)
  by_cases hk : k = l
  · subst hk
    cases h : Nm.same x y
    all_goals
      go_enter Tryd.func13, Tryd.ntmps13
      go_wp2_with (first | (go_at_call 28; refine (Same_any _ _ _).mono ?_; rintro e w' ⟨rfl, rfl⟩) | (go_at_call 30; refine (Less_any _ _ (by assumption) (by assumption) _).mono ?_; rintro e w' ⟨rfl, rfl⟩))
      go_ret
      exact ⟨ret_bool (by rw [HC.out, h, ← HT.out]; simp), below_alloc2 _ _ _⟩
  · have e1 : (k == l) = false := by rw [beq_eq_false_iff_ne]; exact hk
    go_enter Tryd.func13, Tryd.ntmps13
    go_wp2_with fail
    go_ret
    exact ⟨ret_bool (by rw [HC.out]; simp [hk]), below_alloc2 _ _ _⟩
end Go.Proofs.YtekbeicoeoajoaaDoor.Vl
