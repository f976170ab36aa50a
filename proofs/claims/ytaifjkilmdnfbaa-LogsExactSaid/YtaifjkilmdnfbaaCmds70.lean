/- Walks on commands: Right; the reference's zero. -/
import Derived.Test.YtaifjkilmdnfbaaCmds60
namespace Go.Proofs.Ytaifjkilmdnfbaa.Kv
open Go Go.RowKit Vl Nm Mem
attribute [local go_sem] run_bits run_frombits run_store_float
theorem str_empty (s : ByteArray) : (s.toList == []) = decide (s.size = 0) := by
  rw [Bool.eq_iff_iff, beq_iff_eq, decide_eq_true_eq, Nm.toList_data, ← ByteArray.size_data]
  exact ⟨fun h => by simpa using congrArg List.length h, fun h => List.eq_nil_of_length_eq_zero (by simpa using h)⟩
theorem right_kind {c : Cm} (h : c.kind < 1 ∨ 6 < c.kind) : c.right = 15 := by unfold Cm.right; rw [if_pos h]
theorem right_long {c : Cm} (h : ¬ (c.kind < 1 ∨ 6 < c.kind)) (h2 : 8 < c.key.size) : c.right = 2 := by unfold Cm.right; rw [if_neg h, if_pos h2]
theorem right_type {c : Cm} (h : ¬ (c.kind < 1 ∨ 6 < c.kind)) (h2 : ¬ 8 < c.key.size) (h3 : c.key.size = 0 ∨ c.vals = false) : c.right = 8 := by unfold Cm.right; rw [if_neg h, if_neg h2, if_pos h3]
theorem right_ok {c : Cm} (h : ¬ (c.kind < 1 ∨ 6 < c.kind)) (h2 : ¬ 8 < c.key.size) (h3 : ¬ c.key.size = 0) (h4 : c.vals = true) : c.right = 0 := by unfold Cm.right; rw [if_neg h, if_neg h2, if_neg (by simp [h3, h4])]
set_option maxHeartbeats 1600000 in
theorem Right_any (c : Cm) (w : World) :
    Calls Try.prog 78 #[c.agg] w fun e w' => e = .returned (.int .i64 c.right) ∧ Below w.heap.size w w' := by
  have HA := Lib.hid (alloc_here (w := w) c.obj rfl)
  have HB := Lib.hid (below_alloc w c.obj)
  have HS := Lib.hid (str_empty c.key)
  have r1 := Lib.hid (right_kind (c := c))
  have r2 := Lib.hid (right_long (c := c))
  have r3 := Lib.hid (right_type (c := c))
  have r4 := Lib.hid (right_ok (c := c))
  obtain ⟨q, hq⟩ : ∃ q, c.vals = q := ⟨_, rfl⟩
  have HR := fun w => Lib.hid (hasRight_any c w)
  rw [hq] at HR
  have HQ := Lib.hid hq
  clear hq
  obtain ⟨k, key, ⟨ok, on, os⟩, ⟨vk, vn, vs⟩⟩ := c
  unfold Cm.obj at HA HB
  by_cases h1 : k < 1
  · have HE := Lib.hid (r1.out (.inl h1))
    clear r1 r2 r3 r4
    go_enter Try.func78, Try.ntmps78
    go_wp2_with fail
    go_ret
    exact ⟨ret_int HE.out.symm, HB.out⟩
  · by_cases h2 : 6 < k
    · have HE := Lib.hid (r1.out (.inr h2))
      clear r1 r2 r3 r4
      go_enter Try.func78, Try.ntmps78
      go_wp2_with fail
      go_ret
      exact ⟨ret_int HE.out.symm, HB.out⟩
    · have hk : ¬ (k < 1 ∨ 6 < k) := by omega
      by_cases h3 : 8 < key.size
      · have HE := Lib.hid (r2.out hk h3)
        have d3 : decide ((8 : Int) < (key.size : Int)) = true := decide_eq_true (by omega)
        clear r1 r2 r3 r4 hk
        go_enter Try.func78, Try.ntmps78
        go_wp2_with fail
        go_ret
        exact ⟨ret_int HE.out.symm, HB.out⟩
      · have d3 : decide ((8 : Int) < (key.size : Int)) = false := decide_eq_false (by omega)
        by_cases h4 : key.size = 0
        · have HE := Lib.hid (r3.out hk h3 (.inl h4))
          have d4 : (key.toList == []) = true := by rw [HS.out]; exact decide_eq_true h4
          clear r1 r2 r3 r4 hk h3 h4
          go_enter Try.func78, Try.ntmps78
          go_wp2_with fail
          go_ret
          exact ⟨ret_int HE.out.symm, HB.out⟩
        · have d4 : (key.toList == []) = false := by rw [HS.out]; exact decide_eq_false h4
          cases q
          · have HE := Lib.hid (r3.out hk h3 (.inr HQ.out))
            clear r1 r2 r3 r4 hk h3 h4
            go_enter Try.func78, Try.ntmps78
            go_wp2_with (first | (go_at_call 82; refine ((HR _).out).mono ?_; rintro e w' ⟨rfl, hb⟩; (have HB := Lib.hid (blw HB.out hb)); clear hb))
            go_ret
            exact ⟨ret_int HE.out.symm, HB.out⟩
          · have HE := Lib.hid (r4.out hk h3 h4 HQ.out)
            clear r1 r2 r3 r4 hk h3 h4
            go_enter Try.func78, Try.ntmps78
            go_wp2_with (first | (go_at_call 82; refine ((HR _).out).mono ?_; rintro e w' ⟨rfl, hb⟩; (have HB := Lib.hid (blw HB.out hb)); clear hb))
            go_ret
            exact ⟨ret_int HE.out.symm, HB.out⟩
def V.zeroB (v : V) : Bool := (v.kind == 0) && (v.check == 0)
set_option maxHeartbeats 400000 in
theorem zero_any (v : V) (w : World) :
    Calls Try.prog 83 #[v.val] w fun e w' => e = .returned (.bool (Kv.V.zeroB v)) ∧ Below w.heap.size w w' := by
  have HC := Lib.hid (show Kv.V.zeroB v = ((v.kind == 0) && (v.check == 0)) from rfl)
  obtain ⟨k, n, s⟩ := v
  cases h : (k == 0)
  · go_enter Try.func83, Try.ntmps83
    go_wp2_with fail
    go_ret
    exact ⟨ret_bool (by rw [HC.out, h]; rfl), below_alloc _ _⟩
  · go_enter Try.func83, Try.ntmps83
    go_wp2_with (first | (go_at_call 84; refine (refCheck_any ⟨_, _, _⟩ _).mono ?_; rintro e w' ⟨rfl, o, rfl⟩))
    go_ret
    exact ⟨ret_bool (by rw [HC.out, h]; simp), below_alloc2 _ _ _⟩
end Go.Proofs.Ytaifjkilmdnfbaa.Kv
