import Derived.Test.YtbheofibdogabaaGreatMergeSb19
/- The reference's Cmd. -/
namespace Go.Proofs.YtbheofibdogabaaGreat.Kv
open Go Go.RowKit Vl Nm Mem
attribute [local go_sem] run_bits run_frombits run_store_float
/-- the block of a command, in the worlds behind -/
structure Ck (w0 w : World) (c : Cm) : Prop where
  b1 : w.heap[w0.heap.size]? = some c.obj
  beh : Beh w0 w
theorem Ck.start (w : World) (c : Cm) : Ck w (w.alloc c.obj) c := ⟨alloc_here _ rfl, (Beh.start w).alloc _⟩
theorem Ck.on {w0 w w' : World} {c : Cm} (h : Ck w0 w c) (hb : Below w.heap.size w w') : Ck w0 w' c := ⟨box_on h.b1 hb, h.beh.on hb⟩
/-- zero, where it is right -/
theorem zeroB_of {v : V} (h : v.check = 0) : Kv.V.zeroB v = (v.kind == 0) := by unfold Kv.V.zeroB; rw [h]; simp
theorem zeroB_not {v : V} (h : v.check ≠ 0) : Kv.V.zeroB v = false := by unfold Kv.V.zeroB; simp [h]
theorem key_one {s : ByteArray} : decide ((s.size : Int) < 1) = decide (s.size = 0) := by apply decide_eq_decide.2; omega
set_option maxHeartbeats 3200000 in
theorem refCmd_any (c : Cm) (w : World) :
    Calls Tryz.prog 93 #[c.agg] w fun e w' => e = .returned (.int .i64 c.right) ∧ Below w.heap.size w w' := by
  have HK := Lib.hid (Ck.start w c)
  have r1 := Lib.hid (right_kind (c := c))
  have r2 := Lib.hid (right_long (c := c))
  have r3 := Lib.hid (right_type (c := c))
  have r4 := Lib.hid (right_ok (c := c))
  have HVT := Lib.hid (vals_told c)
  have ZO := Lib.hid (zeroB_of (v := c.old))
  have ZN := Lib.hid (zeroB_not (v := c.old))
  have ZV := Lib.hid (zeroB_of (v := c.val))
  obtain ⟨k, key, ⟨ok, on, os⟩, ⟨vk, vn, vs⟩⟩ := c
  dsimp only at HVT ZO ZN ZV
  by_cases h1 : k < 1
  · have HE := Lib.hid (r1.out (.inl h1))
    clear r1 r2 r3 r4
    go_enter Tryz.func93, Tryz.ntmps93
    go_wp2_with fail
    go_ret
    exact ⟨ret_int HE.out.symm, HK.out.beh⟩
  · by_cases h2 : 6 < k
    · have HE := Lib.hid (r1.out (.inr h2))
      clear r1 r2 r3 r4
      go_enter Tryz.func93, Tryz.ntmps93
      go_wp2_with fail
      go_ret
      exact ⟨ret_int HE.out.symm, HK.out.beh⟩
    · have hk : ¬ (k < 1 ∨ 6 < k) := by omega
      by_cases h3 : 8 < key.size
      · have HE := Lib.hid (r2.out hk h3)
        have d3 : decide ((8 : Int) < (key.size : Int)) = true := decide_eq_true (by omega)
        clear r1 r2 r3 r4 hk
        go_enter Tryz.func93, Tryz.ntmps93
        go_wp2_with fail
        go_ret
        exact ⟨ret_int HE.out.symm, HK.out.beh⟩
      · have d3 : decide ((8 : Int) < (key.size : Int)) = false := decide_eq_false (by omega)
        by_cases h4 : key.size = 0
        · have HE := Lib.hid (r3.out hk h3 (.inl h4))
          have d4 : decide ((key.size : Int) < 1) = true := decide_eq_true (by omega)
          clear r1 r2 r3 r4 hk h3 h4
          go_enter Tryz.func93, Tryz.ntmps93
          go_wp2_with fail
          go_ret
          exact ⟨ret_int HE.out.symm, HK.out.beh⟩
        · have d4 : decide ((key.size : Int) < 1) = false := decide_eq_false (by omega)
          have R3 := Lib.hid (fun h => r3.out hk h3 (.inr h))
          have R4 := Lib.hid (fun h => r4.out hk h3 h4 h)
          clear r1 r2 r3 r4
          cases a1 : ((V.mk ok on os).check == 0)
          · -- the old value is not right
            have a2 : ((V.mk ok on os).check != 0) = true := by rw [bne, a1]; rfl
            have z1 : Kv.V.zeroB ⟨ok, on, os⟩ = false := ZN.out (by simpa using a1)
            have HE := Lib.hid (R3.out (by rw [HVT.out]; simp [a1]))
            by_cases k4 : k = 4
            · subst k4
              clear hk h3 h4
              go_enter Tryz.func93, Tryz.ntmps93
              go_wp2_with (first | (go_at_call 25; refine (refCheck_any ⟨_, _, _⟩ _).mono ?_; rintro e w' ⟨rfl, o, rfl⟩; (have HK := Lib.hid (HK.out.on (below_alloc _ o)))))
              go_ret
              exact ⟨ret_int HE.out.symm, HK.out.beh⟩
            · have m4 := int_nbne k4
              clear hk h3 h4 k4
              go_enter Tryz.func93, Tryz.ntmps93
              go_wp2_with (first | (go_at_call 113; refine (zero_any ⟨_, _, _⟩ _).mono ?_; rintro e w' ⟨rfl, hb⟩; (have HK := Lib.hid (HK.out.on hb)); clear hb; obtain ⟨c0, c1, c2, c3, c4, c5, c6, c7⟩ := cells8 HK.out.b1; dsimp only at c0 c1 c2 c3 c4 c5 c6 c7))
              go_ret
              exact ⟨ret_int HE.out.symm, HK.out.beh⟩
          · have a2 : ((V.mk ok on os).check != 0) = false := by rw [bne, a1]; rfl
            have z1 : Kv.V.zeroB ⟨ok, on, os⟩ = (ok == 0) := ZO.out (by simpa using a1)
            cases o1 : (ok == 0)
            · rw [o1] at z1
              by_cases k4 : k = 4
              · subst k4
                cases b1 : ((V.mk vk vn vs).check == 0)
                · have b2 : ((V.mk vk vn vs).check != 0) = true := by rw [bne, b1]; rfl
                  have HE := Lib.hid (R3.out (by rw [HVT.out]; simp [b1]))
                  clear hk h3 h4
                  go_enter Tryz.func93, Tryz.ntmps93
                  go_wp2_with (first | (go_at_call 113; refine (zero_any ⟨_, _, _⟩ _).mono ?_; rintro e w' ⟨rfl, hb⟩; (have HK := Lib.hid (HK.out.on hb)); clear hb; obtain ⟨c0, c1, c2, c3, c4, c5, c6, c7⟩ := cells8 HK.out.b1; dsimp only at c0 c1 c2 c3 c4 c5 c6 c7) | (go_at_call 25; refine (refCheck_any ⟨_, _, _⟩ _).mono ?_; rintro e w' ⟨rfl, o, rfl⟩; (have HK := Lib.hid (HK.out.on (below_alloc _ o))); obtain ⟨c0, c1, c2, c3, c4, c5, c6, c7⟩ := cells8 HK.out.b1; dsimp only at c0 c1 c2 c3 c4 c5 c6 c7))
                  go_ret
                  exact ⟨ret_int HE.out.symm, HK.out.beh⟩
                · have b2 : ((V.mk vk vn vs).check != 0) = false := by rw [bne, b1]; rfl
                  have HE := Lib.hid (R4.out (by rw [HVT.out]; simp [a1, b1]))
                  clear hk h3 h4
                  go_enter Tryz.func93, Tryz.ntmps93
                  go_wp2_with (first | (go_at_call 113; refine (zero_any ⟨_, _, _⟩ _).mono ?_; rintro e w' ⟨rfl, hb⟩; (have HK := Lib.hid (HK.out.on hb)); clear hb; obtain ⟨c0, c1, c2, c3, c4, c5, c6, c7⟩ := cells8 HK.out.b1; dsimp only at c0 c1 c2 c3 c4 c5 c6 c7) | (go_at_call 25; refine (refCheck_any ⟨_, _, _⟩ _).mono ?_; rintro e w' ⟨rfl, o, rfl⟩; (have HK := Lib.hid (HK.out.on (below_alloc _ o))); obtain ⟨c0, c1, c2, c3, c4, c5, c6, c7⟩ := cells8 HK.out.b1; dsimp only at c0 c1 c2 c3 c4 c5 c6 c7))
                  go_ret
                  exact ⟨ret_int HE.out.symm, HK.out.beh⟩
              · have m4 := int_nbne k4
                have HE := Lib.hid (R3.out (by
                  rw [HVT.out, if_neg k4, o1]
                  split
                  · simp
                  · split <;> simp))
                clear hk h3 h4 k4
                go_enter Tryz.func93, Tryz.ntmps93
                go_wp2_with (first | (go_at_call 113; refine (zero_any ⟨_, _, _⟩ _).mono ?_; rintro e w' ⟨rfl, hb⟩; (have HK := Lib.hid (HK.out.on hb)); clear hb; obtain ⟨c0, c1, c2, c3, c4, c5, c6, c7⟩ := cells8 HK.out.b1; dsimp only at c0 c1 c2 c3 c4 c5 c6 c7) | (go_at_call 25; refine (refCheck_any ⟨_, _, _⟩ _).mono ?_; rintro e w' ⟨rfl, o, rfl⟩; (have HK := Lib.hid (HK.out.on (below_alloc _ o))); obtain ⟨c0, c1, c2, c3, c4, c5, c6, c7⟩ := cells8 HK.out.b1; dsimp only at c0 c1 c2 c3 c4 c5 c6 c7))
                go_ret
                exact ⟨ret_int HE.out.symm, HK.out.beh⟩
            · rw [o1] at z1
              cases b1 : ((V.mk vk vn vs).check == 0)
              · have b2 : ((V.mk vk vn vs).check != 0) = true := by rw [bne, b1]; rfl
                have HE := Lib.hid (R3.out (by rw [HVT.out]; simp [b1]))
                by_cases k4 : k = 4
                · subst k4
                  clear hk h3 h4
                  go_enter Tryz.func93, Tryz.ntmps93
                  go_wp2_with (first | (go_at_call 113; refine (zero_any ⟨_, _, _⟩ _).mono ?_; rintro e w' ⟨rfl, hb⟩; (have HK := Lib.hid (HK.out.on hb)); clear hb; obtain ⟨c0, c1, c2, c3, c4, c5, c6, c7⟩ := cells8 HK.out.b1; dsimp only at c0 c1 c2 c3 c4 c5 c6 c7) | (go_at_call 25; refine (refCheck_any ⟨_, _, _⟩ _).mono ?_; rintro e w' ⟨rfl, o, rfl⟩; (have HK := Lib.hid (HK.out.on (below_alloc _ o))); obtain ⟨c0, c1, c2, c3, c4, c5, c6, c7⟩ := cells8 HK.out.b1; dsimp only at c0 c1 c2 c3 c4 c5 c6 c7))
                  go_ret
                  exact ⟨ret_int HE.out.symm, HK.out.beh⟩
                · have m4 := int_nbne k4
                  clear hk h3 h4 k4
                  go_enter Tryz.func93, Tryz.ntmps93
                  go_wp2_with (first | (go_at_call 113; refine (zero_any ⟨_, _, _⟩ _).mono ?_; rintro e w' ⟨rfl, hb⟩; (have HK := Lib.hid (HK.out.on hb)); clear hb; obtain ⟨c0, c1, c2, c3, c4, c5, c6, c7⟩ := cells8 HK.out.b1; dsimp only at c0 c1 c2 c3 c4 c5 c6 c7) | (go_at_call 25; refine (refCheck_any ⟨_, _, _⟩ _).mono ?_; rintro e w' ⟨rfl, o, rfl⟩; (have HK := Lib.hid (HK.out.on (below_alloc _ o))); obtain ⟨c0, c1, c2, c3, c4, c5, c6, c7⟩ := cells8 HK.out.b1; dsimp only at c0 c1 c2 c3 c4 c5 c6 c7))
                  go_ret
                  exact ⟨ret_int HE.out.symm, HK.out.beh⟩
              · have b2 : ((V.mk vk vn vs).check != 0) = false := by rw [bne, b1]; rfl
                have z2 : Kv.V.zeroB ⟨vk, vn, vs⟩ = (vk == 0) := ZV.out (by simpa using b1)
                cases v1 : (vk == 0) <;> cases v2 : (vk == 1)
                all_goals
                  have v3 : (vk != 0) = !(vk == 0) := rfl
                  rw [v1] at v3 z2
                  rcases (show k = 1 ∨ k = 2 ∨ k = 3 ∨ k = 4 ∨ k = 5 ∨ k = 6 by omega) with rfl | rfl | rfl | rfl | rfl | rfl
                all_goals
                  have HV : Hid ((Cm.mk _ key ⟨ok, on, os⟩ ⟨vk, vn, vs⟩).vals = _) := HVT.out.trans (by simp only [a1, b1, o1, v1, v2, v3]; rfl)
                  clear HVT
                  first
                  | (have HE := Lib.hid (R4.out HV.out); clear R3 R4 HV h1 h2 hk h3 h4
                     go_enter Tryz.func93, Tryz.ntmps93
                     go_wp2_with (first | (go_at_call 113; refine (zero_any ⟨_, _, _⟩ _).mono ?_; rintro e w' ⟨rfl, hb⟩; (have HK := Lib.hid (HK.out.on hb)); clear hb; obtain ⟨c0, c1, c2, c3, c4, c5, c6, c7⟩ := cells8 HK.out.b1; dsimp only at c0 c1 c2 c3 c4 c5 c6 c7) | (go_at_call 25; refine (refCheck_any ⟨_, _, _⟩ _).mono ?_; rintro e w' ⟨rfl, o, rfl⟩; (have HK := Lib.hid (HK.out.on (below_alloc _ o))); obtain ⟨c0, c1, c2, c3, c4, c5, c6, c7⟩ := cells8 HK.out.b1; dsimp only at c0 c1 c2 c3 c4 c5 c6 c7))
                     go_ret
                     exact ⟨ret_int HE.out.symm, HK.out.beh⟩)
                  | (have HE := Lib.hid (R3.out HV.out); clear R3 R4 HV h1 h2 hk h3 h4
                     go_enter Tryz.func93, Tryz.ntmps93
                     go_wp2_with (first | (go_at_call 113; refine (zero_any ⟨_, _, _⟩ _).mono ?_; rintro e w' ⟨rfl, hb⟩; (have HK := Lib.hid (HK.out.on hb)); clear hb; obtain ⟨c0, c1, c2, c3, c4, c5, c6, c7⟩ := cells8 HK.out.b1; dsimp only at c0 c1 c2 c3 c4 c5 c6 c7) | (go_at_call 25; refine (refCheck_any ⟨_, _, _⟩ _).mono ?_; rintro e w' ⟨rfl, o, rfl⟩; (have HK := Lib.hid (HK.out.on (below_alloc _ o))); obtain ⟨c0, c1, c2, c3, c4, c5, c6, c7⟩ := cells8 HK.out.b1; dsimp only at c0 c1 c2 c3 c4 c5 c6 c7))
                     go_ret
                     exact ⟨ret_int HE.out.symm, HK.out.beh⟩)
end Go.Proofs.YtbheofibdogabaaGreat.Kv
