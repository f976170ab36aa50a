/- Walks of the reference's conf: Conf, Kind, Learn, Promote, Remove. -/
import Derived.Test.YtakaflbfhpalhaaConfR
namespace Go.Proofs.Ytakaflbfhpalhaa.Cn
open Go Go.RowKit Bh
attribute [local irreducible] wpQuiet
theorem right_eq (c : C) : c.right = (inB c.f && inB c.w && inB c.l && inB c.x && (c.f != 0) && (bits .and .i64 c.f c.w == 0) && (bits .and .i64 (bits .or .i64 c.f c.w) c.l == 0) && (bits .and .i64 (bits .or .i64 (bits .or .i64 c.f c.w) c.l) c.x == 0)) := by
  rw [Bool.eq_iff_iff, right_iff]
  simp only [Bool.and_eq_true, inB_iff, bne_iff_ne, beq_iff_eq]
  constructor
  · intro h
    have z1 : bits .and .i64 c.f c.w = 0 := (and_zero h.f h.w).2 fun i hi => by
      have : apart (tb c.f i) (tb c.w i) (tb c.l i) (tb c.x i) = true := h.apt i hi
      revert this
      cases tb c.f i <;> cases tb c.w i <;> cases tb c.l i <;> cases tb c.x i <;> decide
    have z2 : bits .and .i64 (bits .or .i64 c.f c.w) c.l = 0 := (and_zero (h.f.or h.w) h.l).2 fun i hi => by
      have : apart (tb c.f i) (tb c.w i) (tb c.l i) (tb c.x i) = true := h.apt i hi
      rw [tb_or]
      revert this
      cases tb c.f i <;> cases tb c.w i <;> cases tb c.l i <;> cases tb c.x i <;> decide
    have z3 : bits .and .i64 (bits .or .i64 (bits .or .i64 c.f c.w) c.l) c.x = 0 := (and_zero ((h.f.or h.w).or h.l) h.x).2 fun i hi => by
      have : apart (tb c.f i) (tb c.w i) (tb c.l i) (tb c.x i) = true := h.apt i hi
      rw [tb_or, tb_or]
      revert this
      cases tb c.f i <;> cases tb c.w i <;> cases tb c.l i <;> cases tb c.x i <;> decide
    exact ⟨⟨⟨⟨⟨⟨⟨h.f, h.w⟩, h.l⟩, h.x⟩, h.ne⟩, z1⟩, z2⟩, z3⟩
  · rintro ⟨⟨⟨⟨⟨⟨⟨f, w⟩, l⟩, x⟩, ne⟩, z1⟩, z2⟩, z3⟩
    refine ⟨f, w, l, x, ne, fun i hi => ?_⟩
    have a1 := (and_zero f w).1 z1 i hi
    have a2 := (and_zero (f.or w) l).1 z2 i hi
    have a3 := (and_zero ((f.or w).or l) x).1 z3 i hi
    rw [tb_or] at a2
    rw [tb_or, tb_or] at a3
    show apart (tb c.f i) (tb c.w i) (tb c.l i) (tb c.x i) = true
    revert a1 a2 a3
    cases tb c.f i <;> cases tb c.w i <;> cases tb c.l i <;> cases tb c.x i <;> decide
set_option maxHeartbeats 3200000 in
theorem rConf_any (c : C) (w : World) :
    Calls Try.prog 25 #[c.val] w fun e w' => e = .returned (.bool c.right) ∧ Below w.heap.size w w' := by
  have HR := Lib.hid (right_eq c)
  generalize c.right = Q at *
  obtain ⟨f, wt, l, x⟩ := c
  cases b0 : inB f
  · go_enter Try.func25, Try.ntmps25
    go_wp2_with (first | (go_at_call 35; refine (rBits_any _ _).mono ?_; rintro e w' ⟨rfl, rfl⟩; (first | rw [b0])))
    go_ret
    exact ⟨ret_bool (by rw [HR.out, b0]; rfl), below_alloc _ _⟩
  · skip
    cases b1 : inB wt
    · go_enter Try.func25, Try.ntmps25
      go_wp2_with (first | (go_at_call 35; refine (rBits_any _ _).mono ?_; rintro e w' ⟨rfl, rfl⟩; (first | rw [b0] | rw [b1])))
      go_ret
      exact ⟨ret_bool (by rw [HR.out, b0, b1]; rfl), below_alloc _ _⟩
    · skip
      cases b2 : inB l
      · go_enter Try.func25, Try.ntmps25
        go_wp2_with (first | (go_at_call 35; refine (rBits_any _ _).mono ?_; rintro e w' ⟨rfl, rfl⟩; (first | rw [b0] | rw [b1] | rw [b2])))
        go_ret
        exact ⟨ret_bool (by rw [HR.out, b0, b1, b2]; rfl), below_alloc _ _⟩
      · skip
        cases b3 : inB x
        · go_enter Try.func25, Try.ntmps25
          go_wp2_with (first | (go_at_call 35; refine (rBits_any _ _).mono ?_; rintro e w' ⟨rfl, rfl⟩; (first | rw [b0] | rw [b1] | rw [b2] | rw [b3])))
          go_ret
          exact ⟨ret_bool (by rw [HR.out, b0, b1, b2, b3]; rfl), below_alloc _ _⟩
        · skip
          cases b4 : (f != 0)
          · go_enter Try.func25, Try.ntmps25
            go_wp2_with (first | (go_at_call 35; refine (rBits_any _ _).mono ?_; rintro e w' ⟨rfl, rfl⟩; (first | rw [b0] | rw [b1] | rw [b2] | rw [b3])))
            go_ret
            exact ⟨ret_bool (by rw [HR.out, b0, b1, b2, b3, b4]; rfl), below_alloc _ _⟩
          · skip
            cases b5 : (bits .and .i64 f wt == 0)
            · go_enter Try.func25, Try.ntmps25
              go_wp2_with (first | (go_at_call 35; refine (rBits_any _ _).mono ?_; rintro e w' ⟨rfl, rfl⟩; (first | rw [b0] | rw [b1] | rw [b2] | rw [b3])))
              go_ret
              exact ⟨ret_bool (by rw [HR.out, b0, b1, b2, b3, b4, b5]; rfl), below_alloc _ _⟩
            · skip
              cases b6 : (bits .and .i64 (bits .or .i64 f wt) l == 0)
              · go_enter Try.func25, Try.ntmps25
                go_wp2_with (first | (go_at_call 35; refine (rBits_any _ _).mono ?_; rintro e w' ⟨rfl, rfl⟩; (first | rw [b0] | rw [b1] | rw [b2] | rw [b3])))
                go_ret
                exact ⟨ret_bool (by rw [HR.out, b0, b1, b2, b3, b4, b5, b6]; rfl), below_alloc _ _⟩
              · skip
                cases b7 : (bits .and .i64 (bits .or .i64 (bits .or .i64 f wt) l) x == 0)
                · go_enter Try.func25, Try.ntmps25
                  go_wp2_with (first | (go_at_call 35; refine (rBits_any _ _).mono ?_; rintro e w' ⟨rfl, rfl⟩; (first | rw [b0] | rw [b1] | rw [b2] | rw [b3])))
                  go_ret
                  exact ⟨ret_bool (by rw [HR.out, b0, b1, b2, b3, b4, b5, b6, b7]; rfl), below_alloc _ _⟩
                · skip
                  go_enter Try.func25, Try.ntmps25
                  go_wp2_with (first | (go_at_call 35; refine (rBits_any _ _).mono ?_; rintro e w' ⟨rfl, rfl⟩; (first | rw [b0] | rw [b1] | rw [b2] | rw [b3])))
                  go_ret
                  exact ⟨ret_bool (by rw [HR.out, b0, b1, b2, b3, b4, b5, b6, b7]; rfl), below_alloc _ _⟩
set_option maxHeartbeats 800000 in
theorem rKind_any (c : C) (i : Int) (w : World) :
    Calls Try.prog 27 #[c.val, .int .i64 i] w fun e w' => e = .returned (.string (kname (c.kind i))) ∧ Below w.heap.size w w' := by
  obtain ⟨f, wt, l, x⟩ := c
  by_cases hn : 0 ≤ i ∧ i ≤ 6
  · obtain ⟨h1, h2⟩ := hn
    have HI := Lib.hid (show isN i = true by unfold isN; simp [h1, h2])
    have HK := Lib.hid (show (C.mk f wt l x).kind i = (C.mk f wt l x).kd i.toNat by unfold C.kind; rw [if_pos ⟨h1, h2⟩])
    have HD := Lib.hid (show (C.mk f wt l x).kd i.toNat = if tb f i.toNat then 1 else if tb wt i.toNat then 2 else if tb l i.toNat then 3 else if tb x i.toNat then 4 else 0 from rfl)
    have H1 := Lib.hid h1
    have H2 := Lib.hid h2
    clear h1 h2
    cases b1 : tb f i.toNat
    · cases b2 : tb wt i.toNat
      · cases b3 : tb l i.toNat
        · cases b4 : tb x i.toNat
          all_goals
            go_enter Try.func27, Try.ntmps27
            go_wp2_with (first | (go_at_call 26; refine (rNode_any _ _).mono ?_; rintro e w' ⟨rfl, rfl⟩; rw [HI.out]) | (go_at_call 37; refine (rHas_any _ _ _ H1.out H2.out).mono ?_; rintro e w' ⟨rfl, rfl⟩; first | rw [b1] | rw [b2] | rw [b3] | rw [b4]))
            go_ret
            exact ⟨ret_str (by rw [HK.out, HD.out, b1, b2, b3, b4]; rfl), below_alloc _ _⟩
        · go_enter Try.func27, Try.ntmps27
          go_wp2_with (first | (go_at_call 26; refine (rNode_any _ _).mono ?_; rintro e w' ⟨rfl, rfl⟩; rw [HI.out]) | (go_at_call 37; refine (rHas_any _ _ _ H1.out H2.out).mono ?_; rintro e w' ⟨rfl, rfl⟩; first | rw [b1] | rw [b2] | rw [b3]))
          go_ret
          exact ⟨ret_str (by rw [HK.out, HD.out, b1, b2, b3]; rfl), below_alloc _ _⟩
      · go_enter Try.func27, Try.ntmps27
        go_wp2_with (first | (go_at_call 26; refine (rNode_any _ _).mono ?_; rintro e w' ⟨rfl, rfl⟩; rw [HI.out]) | (go_at_call 37; refine (rHas_any _ _ _ H1.out H2.out).mono ?_; rintro e w' ⟨rfl, rfl⟩; first | rw [b1] | rw [b2]))
        go_ret
        exact ⟨ret_str (by rw [HK.out, HD.out, b1, b2]; rfl), below_alloc _ _⟩
    · go_enter Try.func27, Try.ntmps27
      go_wp2_with (first | (go_at_call 26; refine (rNode_any _ _).mono ?_; rintro e w' ⟨rfl, rfl⟩; rw [HI.out]) | (go_at_call 37; refine (rHas_any _ _ _ H1.out H2.out).mono ?_; rintro e w' ⟨rfl, rfl⟩; rw [b1]))
      go_ret
      exact ⟨ret_str (by rw [HK.out, HD.out, b1]; rfl), below_alloc _ _⟩
  · have HI := Lib.hid (show isN i = false by unfold isN; simpa using hn)
    have HK := Lib.hid (show (C.mk f wt l x).kind i = 0 by unfold C.kind; rw [if_neg hn])
    clear hn
    go_enter Try.func27, Try.ntmps27
    go_wp2_with (first | (go_at_call 26; refine (rNode_any _ _).mono ?_; rintro e w' ⟨rfl, rfl⟩; rw [HI.out]))
    go_ret
    exact ⟨ret_str (by rw [HK.out]; rfl), below_alloc _ _⟩

end Go.Proofs.Ytakaflbfhpalhaa.Cn
