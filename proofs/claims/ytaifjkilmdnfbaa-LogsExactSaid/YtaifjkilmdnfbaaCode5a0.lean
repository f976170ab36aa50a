import Derived.Test.YtaifjkilmdnfbaaMergeLgV
/- Package value: Check, Same. -/
namespace Go.Proofs.Ytaifjkilmdnfbaa.Vl
open Go Go.RowKit Go.Proofs.Ytaifjkilmdnfbaa.Nm
attribute [local go_sem] run_bits run_frombits run_store_float
def V.right (v : V) : Bool := decide (v.num = if v.kind = 1 then canon v.num else 0)
theorem eq_beq (a b : Nat) : ((a : Int) == (b : Int)) = decide (a = b) := by rw [Bool.eq_iff_iff]; simp; omega
set_option maxHeartbeats 800000 in
theorem hasRight_any (v : V) (w : World) :
    Calls Try.prog 92 #[v.val] w fun e w' => e = .returned (.bool v.right) ∧ ∃ o, w' = w.alloc o := by
  obtain ⟨k, a, s⟩ := v
  by_cases hk : k = 1
  · subst hk
    have HC := Lib.hid (show (V.mk 1 a s).right = decide (a = canon a) from rfl)
    have HE := Lib.hid (eq_beq a (canon a))
    go_enter Try.func92, Try.ntmps92
    go_wp2_with (first | (go_at_call 86; refine (Canon_any _ _).mono ?_; rintro e w' ⟨rfl, rfl⟩))
    go_ret
    exact ⟨ret_bool (by rw [HC.out, ← HE.out]), _, rfl⟩
  · have e1 := int_nbeq hk
    have HC := Lib.hid (show (V.mk k a s).right = decide (a = 0) by simp [V.right, hk])
    clear hk
    go_enter Try.func92, Try.ntmps92
    go_wp2_with fail
    go_ret
    exact ⟨ret_bool (by rw [HC.out, Bool.eq_iff_iff]; simp), _, rfl⟩

set_option maxHeartbeats 1600000 in
theorem Check_any (v : V) (w : World) :
    Calls Try.prog 87 #[v.val] w fun e w' => e = .returned (.int .i64 v.check) ∧ Below w.heap.size w w' := by
  obtain ⟨k, a, s⟩ := v
  by_cases h1 : k < 0
  · have HC := Lib.hid (show (V.mk k a s).check = 15 by simp [V.check, h1])
    go_enter Try.func87, Try.ntmps87
    go_wp2_with fail
    go_ret
    exact ⟨ret_int HC.out.symm, below_alloc _ _⟩
  · by_cases h2 : 2 < k
    · have HC := Lib.hid (show (V.mk k a s).check = 15 by simp [V.check, h2])
      go_enter Try.func87, Try.ntmps87
      go_wp2_with fail
      go_ret
      exact ⟨ret_int HC.out.symm, below_alloc _ _⟩
    · by_cases hk : k = 2
      · subst hk
        clear h1 h2
        by_cases hs : 32 < s.size
        · have HC := Lib.hid (show (V.mk 2 a s).check = 2 by simp [V.check, hs])
          go_enter Try.func87, Try.ntmps87
          go_wp2_with fail
          go_ret
          exact ⟨ret_int HC.out.symm, below_alloc _ _⟩
        · cases hr : (V.mk 2 a s).right
          · have ha : a ≠ 0 := by simpa [V.right] using hr
            have HC := Lib.hid (show (V.mk 2 a s).check = 8 by simp [V.check, hs, ha])
            clear ha
            go_enter Try.func87, Try.ntmps87
            go_wp2_with (first | (go_at_call 92; refine (hasRight_any ⟨_, _, _⟩ _).mono ?_; rintro e w' ⟨rfl, o, rfl⟩))
            go_ret
            exact ⟨ret_int HC.out.symm, below_alloc2 _ _ _⟩
          · have ha : a = 0 := by simpa [V.right] using hr
            subst ha
            have HC := Lib.hid (show (V.mk 2 0 s).check = 0 by simp [V.check, hs, canon_zero])
            go_enter Try.func87, Try.ntmps87
            go_wp2_with (first | (go_at_call 92; refine (hasRight_any ⟨_, _, _⟩ _).mono ?_; rintro e w' ⟨rfl, o, rfl⟩))
            go_ret
            exact ⟨ret_int HC.out.symm, below_alloc2 _ _ _⟩
      · have k2 := int_nbeq hk
        have k3 := int_nbne hk
        by_cases hs : s.size = 0
        · obtain rfl := empty_of hs
          cases hr : (V.mk k a (⟨#[]⟩ : ByteArray)).right
          · have HC := Lib.hid (show (V.mk k a (⟨#[]⟩ : ByteArray)).check = 8 by
              by_cases k1 : k = 1
              · have ha : a ≠ canon a := by simpa [V.right, k1] using hr
                simp [V.check, k1, Ne.symm ha]
              · have ha : a ≠ 0 := by simpa [V.right, k1] using hr
                simp [V.check, h1, h2, hk, k1, ha])
            clear hk
            go_enter Try.func87, Try.ntmps87
            go_wp2_with (first | (go_at_call 92; refine (hasRight_any ⟨_, _, _⟩ _).mono ?_; rintro e w' ⟨rfl, o, rfl⟩))
            go_ret
            exact ⟨ret_int HC.out.symm, below_alloc2 _ _ _⟩
          · have HC := Lib.hid (show (V.mk k a (⟨#[]⟩ : ByteArray)).check = 0 by
              by_cases k1 : k = 1
              · have ha : a = canon a := by simpa [V.right, k1] using hr
                simp [V.check, k1, ← ha]; rfl
              · have ha : a = 0 := by simpa [V.right, k1] using hr
                simp [V.check, h1, h2, hk, ha, canon_zero]; rfl)
            clear hk
            go_enter Try.func87, Try.ntmps87
            go_wp2_with (first | (go_at_call 92; refine (hasRight_any ⟨_, _, _⟩ _).mono ?_; rintro e w' ⟨rfl, o, rfl⟩))
            go_ret
            exact ⟨ret_int HC.out.symm, below_alloc2 _ _ _⟩
        · have hs2 := nonempty_ne hs
          have HC := Lib.hid (show (V.mk k a s).check = 8 by simp [V.check, h1, h2, hk, hs])
          clear hs hk
          go_enter Try.func87, Try.ntmps87
          go_wp2_with fail
          go_ret
          exact ⟨ret_int HC.out.symm, below_alloc _ _⟩

set_option maxHeartbeats 800000 in
theorem Same_v (a b : V) (w : World) :
    Calls Try.prog 76 #[a.val, b.val] w fun e w' => e = .returned (.bool (a.same b)) ∧ Below w.heap.size w w' := by
  obtain ⟨k, x, s⟩ := a
  obtain ⟨l, y, t⟩ := b
  have HC := Lib.hid (show (V.mk k x s).same ⟨l, y, t⟩ = (decide (k = l) && Nm.same x y && decide (s = t)) from rfl)
  have HT := Lib.hid (text_eq s t)
  by_cases hk : k = l
  · subst hk
    cases h : Nm.same x y
    · go_enter Try.func76, Try.ntmps76
      go_wp2_with (first | (go_at_call 81; refine (Same_any _ _ _).mono ?_; rintro e w' ⟨rfl, rfl⟩))
      go_ret
      exact ⟨ret_bool (by rw [HC.out, h]; simp), below_alloc2 _ _ _⟩
    · go_enter Try.func76, Try.ntmps76
      go_wp2_with (first | (go_at_call 81; refine (Same_any _ _ _).mono ?_; rintro e w' ⟨rfl, rfl⟩))
      go_ret
      exact ⟨ret_bool (by rw [HC.out, h, ← HT.out]; simp), below_alloc2 _ _ _⟩
  · have e1 : (k == l) = false := by rw [beq_eq_false_iff_ne]; exact hk
    go_enter Try.func76, Try.ntmps76
    go_wp2_with fail
    go_ret
    exact ⟨ret_bool (by rw [HC.out]; simp [hk]), below_alloc2 _ _ _⟩
end Go.Proofs.Ytaifjkilmdnfbaa.Vl
