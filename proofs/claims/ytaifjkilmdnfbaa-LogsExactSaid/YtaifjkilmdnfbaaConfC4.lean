/- The reference's Conf. -/
import Derived.Test.YtaifjkilmdnfbaaConfC3
namespace Go.Proofs.Ytaifjkilmdnfbaa.Cn
open Go Go.RowKit Bh
attribute [local irreducible] wpQuiet
theorem right_eq (c : C) : c.right = (inB c.f && inB c.w && inB c.l && inB c.x && (c.f != 0) && (bits .and .i64 c.f c.w == 0) && (bits .and .i64 (bits .or .i64 c.f c.w) c.l == 0) && (bits .and .i64 (bits .or .i64 (bits .or .i64 c.f c.w) c.l) c.x == 0)) := by
  rw [Bool.eq_iff_iff, right_iff]
  simp only [Bool.and_eq_true, inB_iff, bne_iff_ne, beq_iff_eq]
  constructor
  · intro h
    have z1 : bits .and .i64 c.f c.w = 0 := (and_zero h.f h.w).2 fun i hi => by
      have : apart (tb c.f i) (tb c.w i) (tb c.l i) (tb c.x i) = true := h.apt i hi
      revert this
      cases tb c.f i <;> cases tb c.w i <;> cases tb c.l i <;> cases tb c.x i <;> decide
    have z2 : bits .and .i64 (bits .or .i64 c.f c.w) c.l = 0 := (and_zero (h.f.or h.w) h.l).2 fun i hi => by
      have : apart (tb c.f i) (tb c.w i) (tb c.l i) (tb c.x i) = true := h.apt i hi
      rw [tb_or]
      revert this
      cases tb c.f i <;> cases tb c.w i <;> cases tb c.l i <;> cases tb c.x i <;> decide
    have z3 : bits .and .i64 (bits .or .i64 (bits .or .i64 c.f c.w) c.l) c.x = 0 := (and_zero ((h.f.or h.w).or h.l) h.x).2 fun i hi => by
      have : apart (tb c.f i) (tb c.w i) (tb c.l i) (tb c.x i) = true := h.apt i hi
      rw [tb_or, tb_or]
      revert this
      cases tb c.f i <;> cases tb c.w i <;> cases tb c.l i <;> cases tb c.x i <;> decide
    exact ⟨⟨⟨⟨⟨⟨⟨h.f, h.w⟩, h.l⟩, h.x⟩, h.ne⟩, z1⟩, z2⟩, z3⟩
  · rintro ⟨⟨⟨⟨⟨⟨⟨f, w⟩, l⟩, x⟩, ne⟩, z1⟩, z2⟩, z3⟩
    refine ⟨f, w, l, x, ne, fun i hi => ?_⟩
    have a1 := (and_zero f w).1 z1 i hi
    have a2 := (and_zero (f.or w) l).1 z2 i hi
    have a3 := (and_zero ((f.or w).or l) x).1 z3 i hi
    rw [tb_or] at a2
    rw [tb_or, tb_or] at a3
    show apart (tb c.f i) (tb c.w i) (tb c.l i) (tb c.x i) = true
    revert a1 a2 a3
    cases tb c.f i <;> cases tb c.w i <;> cases tb c.l i <;> cases tb c.x i <;> decide
set_option maxHeartbeats 3200000 in
theorem rConf_any (c : C) (w : World) :
    Calls Try.prog 38 #[c.val] w fun e w' => e = .returned (.bool c.right) ∧ Below w.heap.size w w' := by
  have HR := Lib.hid (right_eq c)
  generalize c.right = Q at *
  obtain ⟨f, wt, l, x⟩ := c
  cases b0 : inB f
  · go_enter Try.func38, Try.ntmps38
    go_wp2_with (first | (go_at_call 60; refine (rBits_any _ _).mono ?_; rintro e w' ⟨rfl, rfl⟩; (first | rw [b0])))
    go_ret
    exact ⟨ret_bool (by rw [HR.out, b0]; rfl), below_alloc _ _⟩
  · skip
    cases b1 : inB wt
    · go_enter Try.func38, Try.ntmps38
      go_wp2_with (first | (go_at_call 60; refine (rBits_any _ _).mono ?_; rintro e w' ⟨rfl, rfl⟩; (first | rw [b0] | rw [b1])))
      go_ret
      exact ⟨ret_bool (by rw [HR.out, b0, b1]; rfl), below_alloc _ _⟩
    · skip
      cases b2 : inB l
      · go_enter Try.func38, Try.ntmps38
        go_wp2_with (first | (go_at_call 60; refine (rBits_any _ _).mono ?_; rintro e w' ⟨rfl, rfl⟩; (first | rw [b0] | rw [b1] | rw [b2])))
        go_ret
        exact ⟨ret_bool (by rw [HR.out, b0, b1, b2]; rfl), below_alloc _ _⟩
      · skip
        cases b3 : inB x
        · go_enter Try.func38, Try.ntmps38
          go_wp2_with (first | (go_at_call 60; refine (rBits_any _ _).mono ?_; rintro e w' ⟨rfl, rfl⟩; (first | rw [b0] | rw [b1] | rw [b2] | rw [b3])))
          go_ret
          exact ⟨ret_bool (by rw [HR.out, b0, b1, b2, b3]; rfl), below_alloc _ _⟩
        · skip
          cases b4 : (f != 0)
          · go_enter Try.func38, Try.ntmps38
            go_wp2_with (first | (go_at_call 60; refine (rBits_any _ _).mono ?_; rintro e w' ⟨rfl, rfl⟩; (first | rw [b0] | rw [b1] | rw [b2] | rw [b3])))
            go_ret
            exact ⟨ret_bool (by rw [HR.out, b0, b1, b2, b3, b4]; rfl), below_alloc _ _⟩
          · skip
            cases b5 : (bits .and .i64 f wt == 0)
            · go_enter Try.func38, Try.ntmps38
              go_wp2_with (first | (go_at_call 60; refine (rBits_any _ _).mono ?_; rintro e w' ⟨rfl, rfl⟩; (first | rw [b0] | rw [b1] | rw [b2] | rw [b3])))
              go_ret
              exact ⟨ret_bool (by rw [HR.out, b0, b1, b2, b3, b4, b5]; rfl), below_alloc _ _⟩
            · skip
              cases b6 : (bits .and .i64 (bits .or .i64 f wt) l == 0)
              · go_enter Try.func38, Try.ntmps38
                go_wp2_with (first | (go_at_call 60; refine (rBits_any _ _).mono ?_; rintro e w' ⟨rfl, rfl⟩; (first | rw [b0] | rw [b1] | rw [b2] | rw [b3])))
                go_ret
                exact ⟨ret_bool (by rw [HR.out, b0, b1, b2, b3, b4, b5, b6]; rfl), below_alloc _ _⟩
              · skip
                cases b7 : (bits .and .i64 (bits .or .i64 (bits .or .i64 f wt) l) x == 0)
                · go_enter Try.func38, Try.ntmps38
                  go_wp2_with (first | (go_at_call 60; refine (rBits_any _ _).mono ?_; rintro e w' ⟨rfl, rfl⟩; (first | rw [b0] | rw [b1] | rw [b2] | rw [b3])))
                  go_ret
                  exact ⟨ret_bool (by rw [HR.out, b0, b1, b2, b3, b4, b5, b6, b7]; rfl), below_alloc _ _⟩
                · skip
                  go_enter Try.func38, Try.ntmps38
                  go_wp2_with (first | (go_at_call 60; refine (rBits_any _ _).mono ?_; rintro e w' ⟨rfl, rfl⟩; (first | rw [b0] | rw [b1] | rw [b2] | rw [b3])))
                  go_ret
                  exact ⟨ret_bool (by rw [HR.out, b0, b1, b2, b3, b4, b5, b6, b7]; rfl), below_alloc _ _⟩
end Go.Proofs.Ytaifjkilmdnfbaa.Cn
