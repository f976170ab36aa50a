import Derived.Test.YtaifjkilmdnfbaaMergeLgP
import Derived.Laws.ResultCell
section
/- Walks of the reference's and the keeper's functions of values. -/
namespace Go.Proofs.Ytaifjkilmdnfbaa.Vl
open Go Go.RowKit Go.Proofs.Ytaifjkilmdnfbaa.Nm
attribute [local go_sem] run_bits run_frombits

set_option maxHeartbeats 400000 in
theorem nought_any (a : Nat) (w : World) :
    Calls Try.prog 88 #[.float .f64 a] w fun e w' => e = .returned (.bool (decide (a = 0))) ∧ w = w' := by
  go_enter Try.func88, Try.ntmps88
  go_wp2
  go_ret
  exact ⟨ret_bool (by rw [Bool.eq_iff_iff]; simp), rfl⟩


theorem bits_ne {a : Nat} (h : a ≠ 0) : decide (a = 0) = false := decide_eq_false h
theorem nonempty_ne {s : ByteArray} (h : s.size ≠ 0) : (s.toList == []) = false := by
  rw [beq_eq_false_iff_ne]
  intro e
  rw [Nm.toList_data] at e
  exact h (by rw [← ByteArray.size_data]; simpa using congrArg List.length e)
theorem isNaN_nanBits : isNaN nanBits = true := by kernel_rfl
theorem isNaN_zero : isNaN 0 = false := by kernel_rfl

set_option maxHeartbeats 1600000 in
theorem refCheck_any (v : V) (w : World) :
    Calls Try.prog 84 #[v.val] w fun e w' => e = .returned (.int .i64 v.check) ∧ ∃ o, w' = w.alloc o := by
  obtain ⟨k, a, s⟩ := v
  have done : ∀ (n : Int) (o : Obj), (V.mk k a s).check = n → (Ending.returned (.int .i64 n) = .returned (.int .i64 (V.mk k a s).check)) ∧ ∃ o', w.alloc o = w.alloc o' := fun n o h => ⟨ret_int h.symm, o, rfl⟩
  by_cases h1 : k < 0
  · have HC := Lib.hid (show (V.mk k a s).check = 15 by simp [V.check, h1])
    go_enter Try.func84, Try.ntmps84
    go_wp2_with fail
    go_ret
    exact done _ _ HC.out
  · by_cases h2 : 2 < k
    · have HC := Lib.hid (show (V.mk k a s).check = 15 by simp [V.check, h2])
      go_enter Try.func84, Try.ntmps84
      go_wp2_with fail
      go_ret
      exact done _ _ HC.out
    · rcases (show k = 0 ∨ k = 1 ∨ k = 2 by omega) with rfl | rfl | rfl
      · clear h1 h2
        by_cases hs : s.size = 0
        · obtain rfl := empty_of hs
          by_cases ha : a = 0
          · subst ha
            have h2 : (FloatKind.f64.format.order 0 0 != some .eq) = false := isNaN_zero
            have HC := Lib.hid (show (V.mk 0 0 (⟨#[]⟩ : ByteArray)).check = 0 by kernel_rfl)
            go_enter Try.func84, Try.ntmps84
            go_wp2_with (first | (go_at_call 88; refine (nought_any _ _).mono ?_; rintro e w' ⟨rfl, rfl⟩) | (go_at_call 89; refine (refNaN_any _).mono ?_; rintro e w' ⟨rfl, rfl⟩))
            go_ret
            exact done _ _ HC.out
          · have ha2 := bits_ne ha
            have HC := Lib.hid (show (V.mk 0 a (⟨#[]⟩ : ByteArray)).check = 8 by simp [V.check, ha])
            clear ha
            go_enter Try.func84, Try.ntmps84
            go_wp2_with (first | (go_at_call 88; refine (nought_any _ _).mono ?_; rintro e w' ⟨rfl, rfl⟩))
            go_ret
            exact done _ _ HC.out
        · have hs2 := nonempty_ne hs
          have HC := Lib.hid (show (V.mk 0 a s).check = 8 by simp [V.check, hs])
          clear hs
          go_enter Try.func84, Try.ntmps84
          go_wp2_with fail
          go_ret
          exact done _ _ HC.out
      · clear h1 h2
        by_cases hs : s.size = 0
        · obtain rfl := empty_of hs
          cases h : isNaN a
          · have h2 : (FloatKind.f64.format.order a a != some .eq) = false := h
            have HC := Lib.hid (show (V.mk 1 a (⟨#[]⟩ : ByteArray)).check = 0 by simp [V.check, canon_num h]; rfl)
            go_enter Try.func84, Try.ntmps84
            go_wp2_with fail
            go_ret
            exact done _ _ HC.out
          · by_cases ha : a = nanBits
            · subst ha
              have h2 : (FloatKind.f64.format.order nanBits nanBits != some .eq) = true := h
              have HC := Lib.hid (show (V.mk 1 nanBits (⟨#[]⟩ : ByteArray)).check = 0 by kernel_rfl)
              go_enter Try.func84, Try.ntmps84
              go_wp2_with (first | (go_at_call 89; refine (refNaN_any _).mono ?_; rintro e w' ⟨rfl, rfl⟩))
              go_ret
              exact done _ _ HC.out
            · have h2 : (FloatKind.f64.format.order a a != some .eq) = true := h
              have h3 : ((a : Int) == (nanBits : Int)) = false := by rw [beq_eq_false_iff_ne]; omega
              have HC := Lib.hid (show (V.mk 1 a (⟨#[]⟩ : ByteArray)).check = 8 by simp [V.check, canon_nan h, Ne.symm ha])
              clear ha
              go_enter Try.func84, Try.ntmps84
              go_wp2_with (first | (go_at_call 89; refine (refNaN_any _).mono ?_; rintro e w' ⟨rfl, rfl⟩))
              go_ret
              exact done _ _ HC.out
        · have hs2 := nonempty_ne hs
          have HC := Lib.hid (show (V.mk 1 a s).check = 8 by simp [V.check, hs])
          clear hs
          go_enter Try.func84, Try.ntmps84
          go_wp2_with fail
          go_ret
          exact done _ _ HC.out
      · clear h1 h2
        by_cases hs : 32 < s.size
        · have HC := Lib.hid (show (V.mk 2 a s).check = 2 by simp [V.check, hs])
          go_enter Try.func84, Try.ntmps84
          go_wp2_with fail
          go_ret
          exact done _ _ HC.out
        · by_cases ha : a = 0
          · subst ha
            have h2 : (FloatKind.f64.format.order 0 0 != some .eq) = false := isNaN_zero
            have HC := Lib.hid (show (V.mk 2 0 s).check = 0 by simp [V.check, hs, canon_zero])
            go_enter Try.func84, Try.ntmps84
            go_wp2_with (first | (go_at_call 88; refine (nought_any _ _).mono ?_; rintro e w' ⟨rfl, rfl⟩))
            go_ret
            exact done _ _ HC.out
          · have ha2 := bits_ne ha
            have HC := Lib.hid (show (V.mk 2 a s).check = 8 by simp [V.check, ha, hs])
            clear ha
            go_enter Try.func84, Try.ntmps84
            go_wp2_with (first | (go_at_call 88; refine (nought_any _ _).mono ?_; rintro e w' ⟨rfl, rfl⟩))
            go_ret
            exact done _ _ HC.out

theorem text_eq (s t : ByteArray) : (s.toList == t.toList) = decide (s = t) := by
  rw [Bool.eq_iff_iff, beq_iff_eq, decide_eq_true_eq, Nm.toList_data, Nm.toList_data]
  exact ⟨fun h => by cases s; cases t; congr 1; exact Array.ext' h, fun h => by rw [h]⟩
theorem text_lt (s t : ByteArray) : Op.bytesLess s.toList t.toList = decide (s.data.toList < t.data.toList) := by
  rw [bytesLess_eq, Nm.toList_data, Nm.toList_data]

end Go.Proofs.Ytaifjkilmdnfbaa.Vl
end
section
/- Walks of the keeper's Value and the reference's Less, join, Add, Max. -/
namespace Go.Proofs.Ytaifjkilmdnfbaa.Vl
open Go Go.RowKit Go.Proofs.Ytaifjkilmdnfbaa.Nm
attribute [local go_sem] run_bits run_frombits

theorem run_store_float (P : Program) (w : World) (a : Addr) (k : FloatKind) (n : Nat) (m : Mode) : (store a (.float k n) m).run P w = stored P w a (.float k n) m := run_store P w a _ m rfl
theorem same_told (a b : Nat) : Nm.same a b = if isNaN a = true ∧ isNaN b = true then true else ((a : Int) == (b : Int)) := by
  have e : ((a : Int) == (b : Int)) = decide (a = b) := by rw [Bool.eq_iff_iff]; simp; omega
  unfold Nm.same
  cases h : isNaN a <;> cases h' : isNaN b
  · rw [canon_num h, canon_num h', e]; simp
  · rw [canon_num h, canon_nan h', e]
    have h1 : a ≠ nanBits := fun e => by rw [e, isNaN_nanBits] at h; cases h
    have h2 : a ≠ b := fun e => by rw [e, h'] at h; cases h
    simp [h1, h2]
  · rw [canon_nan h, canon_num h', e]
    have h1 : nanBits ≠ b := fun e => by rw [← e, isNaN_nanBits] at h'; cases h'
    have h2 : a ≠ b := fun e => by rw [e, h'] at h; cases h
    simp [h1, h2]
  · rw [canon_nan h, canon_nan h']; simp
set_option maxHeartbeats 800000 in
theorem keepFloat_any (a b : Nat) (w : World) :
    Calls Try.prog 80 #[.float .f64 a, .float .f64 b] w fun e w' => e = .returned (.bool (Nm.same a b)) ∧ w = w' := by
  have HC := Lib.hid (same_told a b)
  cases h : isNaN a <;> cases h' : isNaN b
  all_goals
    have h2 : (FloatKind.f64.format.order a a != some .eq) = _ := h
    have h3 : (FloatKind.f64.format.order b b != some .eq) = _ := h'
    go_enter Try.func80, Try.ntmps80
    go_wp2
    go_ret
    exact ⟨ret_bool (by rw [HC.out, h, h']; simp), rfl⟩

/-- a block more, and another one: what was there is untouched -/
theorem below_alloc (w : World) (o : Obj) : Below w.heap.size w (w.alloc o) := (Below.refl _ _).alloc (Nat.le_refl _) _
theorem below_alloc2 (w : World) (o p : Obj) : Below w.heap.size w ((w.alloc o).alloc p) := (below_alloc w o).alloc (below_alloc w o).size _

set_option maxHeartbeats 800000 in
theorem keepValue_any (a b : V) (w : World) :
    Calls Try.prog 75 #[a.val, b.val] w fun e w' => e = .returned (.bool (a.same b)) ∧ Below w.heap.size w w' := by
  obtain ⟨k, x, s⟩ := a
  obtain ⟨l, y, t⟩ := b
  have HC := Lib.hid (show (V.mk k x s).same ⟨l, y, t⟩ = (decide (k = l) && Nm.same x y && decide (s = t)) from rfl)
  have HT := Lib.hid (text_eq s t)
  by_cases hk : k = l
  · subst hk
    cases h : Nm.same x y
    · go_enter Try.func75, Try.ntmps75
      go_wp2_with (first | (go_at_call 80; refine (keepFloat_any _ _ _).mono ?_; rintro e w' ⟨rfl, rfl⟩))
      go_ret
      exact ⟨ret_bool (by rw [HC.out, h]; simp), below_alloc2 _ _ _⟩
    · go_enter Try.func75, Try.ntmps75
      go_wp2_with (first | (go_at_call 80; refine (keepFloat_any _ _ _).mono ?_; rintro e w' ⟨rfl, rfl⟩))
      go_ret
      exact ⟨ret_bool (by rw [HC.out, h, ← HT.out]; simp), below_alloc2 _ _ _⟩
  · have e1 : (k == l) = false := by rw [beq_eq_false_iff_ne]; exact hk
    go_enter Try.func75, Try.ntmps75
    go_wp2_with fail
    go_ret
    exact ⟨ret_bool (by rw [HC.out]; simp [hk]), below_alloc2 _ _ _⟩

end Go.Proofs.Ytaifjkilmdnfbaa.Vl
end
section
/- Blocks of a call, numbers compared: for any program with values. -/
namespace Go.Proofs.Ytaifjkilmdnfbaa.Vl
open Go Go.RowKit Go.Proofs.Ytaifjkilmdnfbaa.Nm
attribute [local go_sem] run_bits run_frombits run_store_float
theorem ret_pair {a b : Value} {c d : Int} (h : a = b) (h2 : c = d) : Ending.returned (.tuple #[a, .int .i64 c]) = .returned (.tuple #[b, .int .i64 d]) := by rw [h, h2]
theorem zero_told : V.zero.val = .agg #[.int .i64 0, .float .f64 0, .string ⟨#[]⟩] := rfl

theorem below4 (w : World) (a b c d : Obj) : Below w.heap.size w ((((w.alloc a).alloc b).alloc c).alloc d) := (below_alloc2 w a b).trans ((below_alloc2 _ c d).mono (below_alloc2 w a b).size)
theorem below5 (w : World) (a b c d e : Obj) : Below w.heap.size w (((((w.alloc a).alloc b).alloc c).alloc d).alloc e) := (below4 w a b c d).alloc (below4 w a b c d).size _
theorem int_beq {a b : Int} (h : a = b) : (a == b) = true := beq_iff_eq.2 h
theorem int_bne {a b : Int} (h : a = b) : (a != b) = false := by simp [h]
theorem int_nbeq {a b : Int} (h : a ≠ b) : (a == b) = false := beq_eq_false_iff_ne.2 h
theorem int_nbne {a b : Int} (h : a ≠ b) : (a != b) = true := by simp [h]
end Go.Proofs.Ytaifjkilmdnfbaa.Vl
end
section
/- Cells of a block of three. -/
namespace Go.Proofs.Ytaifjkilmdnfbaa.Vl
open Go Go.RowKit Go.Proofs.Ytaifjkilmdnfbaa.Nm
attribute [local go_sem] run_bits run_frombits run_store_float
theorem alloc_here {w : World} {n : Nat} (o : Obj) (h : n = w.heap.size) : (w.alloc o).heap[n]? = some o := by
  subst h
  show (w.heap.push o)[w.heap.size]? = some o
  simp
theorem cells3 {w : World} {b : Nat} {x y z : Value} {t : TypeId} (h : w.heap[b]? = some (.cells #[x, y, z] t)) :
    w.cell? ⟨b, 0, none⟩ = some x ∧ w.cell? ⟨b, 1, none⟩ = some y ∧ w.cell? ⟨b, 2, none⟩ = some z ∧ w.frozen? ⟨b, 0, none⟩ = false ∧ w.frozen? ⟨b, 1, none⟩ = false ∧ w.frozen? ⟨b, 2, none⟩ = false := by
  refine ⟨?_, ?_, ?_, ?_, ?_, ?_⟩ <;> simp [World.cell?, World.frozen?, h]
theorem below3 (w : World) (a b c : Obj) : Below w.heap.size w (((w.alloc a).alloc b).alloc c) := (below_alloc2 w a b).alloc (below_alloc2 w a b).size _
end Go.Proofs.Ytaifjkilmdnfbaa.Vl
end
