/- Walks of the reference's and the keeper's functions of values. -/
import Derived.Test.YtlgmjkbaihpmmaaGreatValMath
namespace Go.Proofs.YtlgmjkbaihpmmaaGreat.Vl
open Go Go.RowKit Go.Proofs.YtlgmjkbaihpmmaaGreat.Nm
attribute [local go_sem] run_bits run_frombits

set_option maxHeartbeats 400000 in
theorem nought_any (a : Nat) (w : World) :
    Calls Tryz.prog 49 #[.float .f64 a] w fun e w' => e = .returned (.bool (decide (a = 0))) ∧ w = w' := by
  go_enter Tryz.func49, Tryz.ntmps49
  go_wp2
  go_ret
  exact ⟨ret_bool (by rw [Bool.eq_iff_iff]; simp), rfl⟩


theorem bits_ne {a : Nat} (h : a ≠ 0) : decide (a = 0) = false := decide_eq_false h
theorem nonempty_ne {s : ByteArray} (h : s.size ≠ 0) : (s.toList == []) = false := by
  rw [beq_eq_false_iff_ne]
  intro e
  rw [Nm.toList_data] at e
  exact h (by rw [← ByteArray.size_data]; simpa using congrArg List.length e)
theorem isNaN_nanBits : isNaN nanBits = true := by kernel_rfl
theorem isNaN_zero : isNaN 0 = false := by kernel_rfl

set_option maxHeartbeats 1600000 in
theorem refCheck_any (v : V) (w : World) :
    Calls Tryz.prog 25 #[v.val] w fun e w' => e = .returned (.int .i64 v.check) ∧ ∃ o, w' = w.alloc o := by
  obtain ⟨k, a, s⟩ := v
  have done : ∀ (n : Int) (o : Obj), (V.mk k a s).check = n → (Ending.returned (.int .i64 n) = .returned (.int .i64 (V.mk k a s).check)) ∧ ∃ o', w.alloc o = w.alloc o' := fun n o h => ⟨ret_int h.symm, o, rfl⟩
  by_cases h1 : k < 0
  · have HC := Lib.hid (show (V.mk k a s).check = 15 by simp [V.check, h1])
    go_enter Tryz.func25, Tryz.ntmps25
    go_wp2_with fail
    go_ret
    exact done _ _ HC.out
  · by_cases h2 : 2 < k
    · have HC := Lib.hid (show (V.mk k a s).check = 15 by simp [V.check, h2])
      go_enter Tryz.func25, Tryz.ntmps25
      go_wp2_with fail
      go_ret
      exact done _ _ HC.out
    · rcases (show k = 0 ∨ k = 1 ∨ k = 2 by omega) with rfl | rfl | rfl
      · clear h1 h2
        by_cases hs : s.size = 0
        · obtain rfl := empty_of hs
          by_cases ha : a = 0
          · subst ha
            have h2 : (FloatKind.f64.format.order 0 0 != some .eq) = false := isNaN_zero
            have HC := Lib.hid (show (V.mk 0 0 (⟨#[]⟩ : ByteArray)).check = 0 by kernel_rfl)
            go_enter Tryz.func25, Tryz.ntmps25
            go_wp2_with (first | (go_at_call 49; refine (nought_any _ _).mono ?_; rintro e w' ⟨rfl, rfl⟩) | (go_at_call 51; refine (refNaN_any _).mono ?_; rintro e w' ⟨rfl, rfl⟩))
            go_ret
            exact done _ _ HC.out
          · have ha2 := bits_ne ha
            have HC := Lib.hid (show (V.mk 0 a (⟨#[]⟩ : ByteArray)).check = 8 by simp [V.check, ha])
            clear ha
            go_enter Tryz.func25, Tryz.ntmps25
            go_wp2_with (first | (go_at_call 49; refine (nought_any _ _).mono ?_; rintro e w' ⟨rfl, rfl⟩))
            go_ret
            exact done _ _ HC.out
        · have hs2 := nonempty_ne hs
          have HC := Lib.hid (show (V.mk 0 a s).check = 8 by simp [V.check, hs])
          clear hs
          go_enter Tryz.func25, Tryz.ntmps25
          go_wp2_with fail
          go_ret
          exact done _ _ HC.out
      · clear h1 h2
        by_cases hs : s.size = 0
        · obtain rfl := empty_of hs
          cases h : isNaN a
          · have h2 : (FloatKind.f64.format.order a a != some .eq) = false := h
            have HC := Lib.hid (show (V.mk 1 a (⟨#[]⟩ : ByteArray)).check = 0 by simp [V.check, canon_num h]; rfl)
            go_enter Tryz.func25, Tryz.ntmps25
            go_wp2_with fail
            go_ret
            exact done _ _ HC.out
          · by_cases ha : a = nanBits
            · subst ha
              have h2 : (FloatKind.f64.format.order nanBits nanBits != some .eq) = true := h
              have HC := Lib.hid (show (V.mk 1 nanBits (⟨#[]⟩ : ByteArray)).check = 0 by kernel_rfl)
              go_enter Tryz.func25, Tryz.ntmps25
              go_wp2_with (first | (go_at_call 51; refine (refNaN_any _).mono ?_; rintro e w' ⟨rfl, rfl⟩))
              go_ret
              exact done _ _ HC.out
            · have h2 : (FloatKind.f64.format.order a a != some .eq) = true := h
              have h3 : ((a : Int) == (nanBits : Int)) = false := by rw [beq_eq_false_iff_ne]; omega
              have HC := Lib.hid (show (V.mk 1 a (⟨#[]⟩ : ByteArray)).check = 8 by simp [V.check, canon_nan h, Ne.symm ha])
              clear ha
              go_enter Tryz.func25, Tryz.ntmps25
              go_wp2_with (first | (go_at_call 51; refine (refNaN_any _).mono ?_; rintro e w' ⟨rfl, rfl⟩))
              go_ret
              exact done _ _ HC.out
        · have hs2 := nonempty_ne hs
          have HC := Lib.hid (show (V.mk 1 a s).check = 8 by simp [V.check, hs])
          clear hs
          go_enter Tryz.func25, Tryz.ntmps25
          go_wp2_with fail
          go_ret
          exact done _ _ HC.out
      · clear h1 h2
        by_cases hs : 32 < s.size
        · have HC := Lib.hid (show (V.mk 2 a s).check = 2 by simp [V.check, hs])
          go_enter Tryz.func25, Tryz.ntmps25
          go_wp2_with fail
          go_ret
          exact done _ _ HC.out
        · by_cases ha : a = 0
          · subst ha
            have h2 : (FloatKind.f64.format.order 0 0 != some .eq) = false := isNaN_zero
            have HC := Lib.hid (show (V.mk 2 0 s).check = 0 by simp [V.check, hs, canon_zero])
            go_enter Tryz.func25, Tryz.ntmps25
            go_wp2_with (first | (go_at_call 49; refine (nought_any _ _).mono ?_; rintro e w' ⟨rfl, rfl⟩))
            go_ret
            exact done _ _ HC.out
          · have ha2 := bits_ne ha
            have HC := Lib.hid (show (V.mk 2 a s).check = 8 by simp [V.check, ha, hs])
            clear ha
            go_enter Tryz.func25, Tryz.ntmps25
            go_wp2_with (first | (go_at_call 49; refine (nought_any _ _).mono ?_; rintro e w' ⟨rfl, rfl⟩))
            go_ret
            exact done _ _ HC.out

theorem text_eq (s t : ByteArray) : (s.toList == t.toList) = decide (s = t) := by
  rw [Bool.eq_iff_iff, beq_iff_eq, decide_eq_true_eq, Nm.toList_data, Nm.toList_data]
  exact ⟨fun h => by cases s; cases t; congr 1; exact Array.ext' h, fun h => by rw [h]⟩
theorem text_lt (s t : ByteArray) : Op.bytesLess s.toList t.toList = decide (s.data.toList < t.data.toList) := by
  rw [bytesLess_eq, Nm.toList_data, Nm.toList_data]

end Go.Proofs.YtlgmjkbaihpmmaaGreat.Vl
