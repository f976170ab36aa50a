/- Walks of the keeper's Value and the reference's Less, join, Add, Max. -/
import Derived.Test.YtlgmjkbaihpmmaaGreatRefVal
namespace Go.Proofs.YtlgmjkbaihpmmaaGreat.Vl
open Go Go.RowKit Go.Proofs.YtlgmjkbaihpmmaaGreat.Nm
attribute [local go_sem] run_bits run_frombits

theorem run_store_float (P : Program) (w : World) (a : Addr) (k : FloatKind) (n : Nat) (m : Mode) : (store a (.float k n) m).run P w = stored P w a (.float k n) m := run_store P w a _ m rfl
theorem same_told (a b : Nat) : Nm.same a b = if isNaN a = true ∧ isNaN b = true then true else ((a : Int) == (b : Int)) := by
  have e : ((a : Int) == (b : Int)) = decide (a = b) := by rw [Bool.eq_iff_iff]; simp; omega
  unfold Nm.same
  cases h : isNaN a <;> cases h' : isNaN b
  · rw [canon_num h, canon_num h', e]; simp
  · rw [canon_num h, canon_nan h', e]
    have h1 : a ≠ nanBits := fun e => by rw [e, isNaN_nanBits] at h; cases h
    have h2 : a ≠ b := fun e => by rw [e, h'] at h; cases h
    simp [h1, h2]
  · rw [canon_nan h, canon_num h', e]
    have h1 : nanBits ≠ b := fun e => by rw [← e, isNaN_nanBits] at h'; cases h'
    have h2 : a ≠ b := fun e => by rw [e, h'] at h; cases h
    simp [h1, h2]
  · rw [canon_nan h, canon_nan h']; simp
set_option maxHeartbeats 800000 in
theorem keepFloat_any (a b : Nat) (w : World) :
    Calls Tryz.prog 80 #[.float .f64 a, .float .f64 b] w fun e w' => e = .returned (.bool (Nm.same a b)) ∧ w = w' := by
  have HC := Lib.hid (same_told a b)
  cases h : isNaN a <;> cases h' : isNaN b
  all_goals
    have h2 : (FloatKind.f64.format.order a a != some .eq) = _ := h
    have h3 : (FloatKind.f64.format.order b b != some .eq) = _ := h'
    go_enter Tryz.func80, Tryz.ntmps80
    go_wp2
    go_ret
    exact ⟨ret_bool (by rw [HC.out, h, h']; simp), rfl⟩

/-- a block more, and another one: what was there is untouched -/
theorem below_alloc (w : World) (o : Obj) : Below w.heap.size w (w.alloc o) := (Below.refl _ _).alloc (Nat.le_refl _) _
theorem below_alloc2 (w : World) (o p : Obj) : Below w.heap.size w ((w.alloc o).alloc p) := (below_alloc w o).alloc (below_alloc w o).size _

set_option maxHeartbeats 800000 in
theorem keepValue_any (a b : V) (w : World) :
    Calls Tryz.prog 58 #[a.val, b.val] w fun e w' => e = .returned (.bool (a.same b)) ∧ Below w.heap.size w w' := by
  obtain ⟨k, x, s⟩ := a
  obtain ⟨l, y, t⟩ := b
  have HC := Lib.hid (show (V.mk k x s).same ⟨l, y, t⟩ = (decide (k = l) && Nm.same x y && decide (s = t)) from rfl)
  have HT := Lib.hid (text_eq s t)
  by_cases hk : k = l
  · subst hk
    cases h : Nm.same x y
    · go_enter Tryz.func58, Tryz.ntmps58
      go_wp2_with (first | (go_at_call 80; refine (keepFloat_any _ _ _).mono ?_; rintro e w' ⟨rfl, rfl⟩))
      go_ret
      exact ⟨ret_bool (by rw [HC.out, h]; simp), below_alloc2 _ _ _⟩
    · go_enter Tryz.func58, Tryz.ntmps58
      go_wp2_with (first | (go_at_call 80; refine (keepFloat_any _ _ _).mono ?_; rintro e w' ⟨rfl, rfl⟩))
      go_ret
      exact ⟨ret_bool (by rw [HC.out, h, ← HT.out]; simp), below_alloc2 _ _ _⟩
  · have e1 : (k == l) = false := by rw [beq_eq_false_iff_ne]; exact hk
    go_enter Tryz.func58, Tryz.ntmps58
    go_wp2_with fail
    go_ret
    exact ⟨ret_bool (by rw [HC.out]; simp [hk]), below_alloc2 _ _ _⟩

end Go.Proofs.YtlgmjkbaihpmmaaGreat.Vl
