/- Walks of the landed package conf: has, isNode, Voters, Count, Quorum, Kind. -/
import Derived.Test.YtakaflbfhpalhaaConfMath
import Derived.Test.YtakaflbfhpalhaaBehG
namespace Go.Proofs.Ytakaflbfhpalhaa.Cn
open Go Go.RowKit Bh
attribute [local irreducible] wpQuiet

theorem seven {i : Int} (h1 : 0 ≤ i) (h2 : i ≤ 6) : i = 0 ∨ i = 1 ∨ i = 2 ∨ i = 3 ∨ i = 4 ∨ i = 5 ∨ i = 6 := by omega

theorem has_any (x : Int) (i : Int) (w : World) (h1 : 0 ≤ i) (h2 : i ≤ 6) :
    Calls Try.prog 32 #[.int .i64 x, .int .i64 i] w fun e w' => e = .returned (.bool (tb x i.toNat)) ∧ w = w' := by
  have HB := Lib.hid (has_pw x (i := i.toNat) (by omega))
  rcases seven h1 h2 with rfl | rfl | rfl | rfl | rfl | rfl | rfl
  all_goals
    go_enter Try.func32, Try.ntmps32
    go_wp2_with fail
    go_ret
    exact ⟨ret_bool HB.out, rfl⟩
def isN (i : Int) : Bool := decide (0 ≤ i ∧ i ≤ 6)
theorem isNode_any (i : Int) (w : World) :
    Calls Try.prog 33 #[.int .i64 i] w fun e w' => e = .returned (.bool (isN i)) ∧ w = w' := by
  by_cases h : 0 ≤ i
  · have HC := Lib.hid (show isN i = decide (i < 7) by unfold isN; rw [decide_eq_decide]; omega)
    go_enter Try.func33, Try.ntmps33
    go_wp2_with fail
    go_ret
    exact ⟨ret_bool HC.out.symm, rfl⟩
  · have HC := Lib.hid (show isN i = false by unfold isN; simp [h])
    go_enter Try.func33, Try.ntmps33
    go_wp2_with fail
    go_ret
    exact ⟨ret_bool HC.out.symm, rfl⟩
theorem Voters_any (c : C) (w : World) :
    Calls Try.prog 19 #[c.val] w fun e w' => e = .returned (.int .i64 c.vot) ∧ Below w.heap.size w w' := by
  obtain ⟨f, wt, l, x⟩ := c
  go_enter Try.func19, Try.ntmps19
  go_wp2_with fail
  go_ret
  exact ⟨rfl, below_alloc _ _⟩
set_option maxHeartbeats 400000 in
theorem Count_any (x : Int) (w : World) :
    Calls Try.prog 20 #[.int .i64 x] w fun e w' => e = .returned (.int .i64 (cnt x : Nat)) ∧ w = w' := by
  go_enter Try.func20, Try.ntmps20
  go_wp2_with fail
  go_loop [3, 5] (fun n i => ∃ k : Nat, k ≤ 7 ∧ i = .int .i64 k ∧ n = .int .i64 (cntTo x k : Nat)) (fun _ i => 7 - (intOf i).toNat)
  case atStart => exact ⟨0, by omega, rfl, rfl⟩
  case round =>
    obtain ⟨k, hk, rfl, rfl⟩ := hrel
    by_cases hlt : k < 7
    · have HL := Lib.hid (cntTo_le x k)
      have hle : cntTo x k ≤ 7 := by have := HL.out; omega
      have HN := Lib.hid (show cntTo x (k + 1) = cntTo x k + (tb x k).toNat from rfl)
      clear HL
      generalize cntTo x k = n at *
      cases hb : tb x k
      all_goals
        go_wp2_with (first | (go_at_call 32; refine (has_any _ _ _ (by omega) (by omega)).mono ?_; rintro e w' ⟨rfl, rfl⟩; simp only [Int.toNat_natCast, hb]))
        go_round
        case rel => exact ⟨k + 1, by omega, by go_num, by rw [HN.out, hb]; first | rfl | go_num⟩
        case measure => simp [intOf]; omega
    · obtain rfl : k = 7 := by omega
      go_wp2_with fail
      go_ret
      exact ⟨ret_int (by rw [cntTo_7]), rfl⟩

set_option maxHeartbeats 400000 in
theorem Quorum_any (c : C) (b : Int) (w : World) :
    Calls Try.prog 18 #[c.val, .int .i64 b] w fun e w' => e = .returned (.bool (quo c b)) ∧ Below w.heap.size w w' := by
  have HQQ := Lib.hid (show quo c b = decide (((cnt c.vot : Nat) : Int) < IntKind.i64.wrap (2 * ((cnt (bits .and .i64 c.vot b) : Nat) : Int))) by
    have := cnt_le (bits .and .i64 c.vot b)
    unfold quo; rw [decide_eq_decide, wrap_i64]; omega)
  have HL := Lib.hid (cnt_le c.vot)
  have HM := Lib.hid (cnt_le (bits .and .i64 c.vot b))
  have HV := Lib.hid (show ∀ w, Calls Try.prog 19 #[c.val] w fun e w' => e = .returned (.int .i64 c.vot) ∧ Below w.heap.size w w' from fun w => Voters_any c w)
  obtain ⟨f, wt, l, x⟩ := c
  generalize C.vot ⟨f, wt, l, x⟩ = v at *
  have hl : cnt v ≤ 7 := HL.out
  have hm : cnt (bits .and .i64 v b) ≤ 7 := HM.out
  clear HL HM
  go_enter Try.func18, Try.ntmps18
  go_wp2_with fail
  refine wp_region_quiet (C := Beh (w.alloc (.cells #[.int .i64 f, .int .i64 wt, .int .i64 l, .int .i64 x] 23))) (by kernel_rfl) (by kernel_rfl) (Beh.start _).drew ?_
  repeat (first
    | (refine BigFrame.wpQuiet_skip (by exact Eq.refl false) ?_
       ((try simp only [Act.put]); (try simp only [List.setIfInBounds_toArray]); (try simp only [List.set_cons_zero, List.set_cons_succ])))
    | (refine BigFrame.wpQuiet_want (by exact Eq.refl true) (fun K hK => ?_)
       first
       | (refine quiet_move2 _ rfl (by go_simp; rfl) ?_; refine hK _ ?_)
       | (apply Exists.intro
          refine ⟨fun wq hq => ?_, hK _ ?_⟩
          · ((obtain ⟨c0, c1, c2, c3⟩ := cells4 (hq.box (alloc_here _ rfl)))
             have HQ := Lib.hid hq
             clear hq
             unfold Oper.quietAt
             go_simp
             first
             | rfl
             | (go_at_call 19; exact (HV.out _).mono (fun e w' ⟨he, hb⟩ => ⟨he, HQ.out.on hb⟩))
             | (go_at_call 20; exact (Count_any _ _).mono (fun e w' ⟨he, hb⟩ => ⟨he, hb ▸ HQ.out⟩))))
       clear hK K
       ((try simp only [Act.put]); (try simp only [List.setIfInBounds_toArray]); (try simp only [List.set_cons_zero, List.set_cons_succ]))))
  refine wpQuiet_nil ?_
  intro wq hq
  have HW := Lib.hid ((Beh.alloc (Beh.start w) _).trans hq)
  clear hq
  go_wp2_with fail
  go_ret
  exact ⟨ret_bool HQQ.out.symm, HW.out.below⟩

set_option maxHeartbeats 800000 in
theorem Kind_any (c : C) (i : Int) (w : World) :
    Calls Try.prog 22 #[c.val, .int .i64 i] w fun e w' => e = .returned (.string (kname (c.kind i))) ∧ Below w.heap.size w w' := by
  obtain ⟨f, wt, l, x⟩ := c
  by_cases hn : 0 ≤ i ∧ i ≤ 6
  · obtain ⟨h1, h2⟩ := hn
    have HI := Lib.hid (show isN i = true by unfold isN; simp [h1, h2])
    have HK := Lib.hid (show (C.mk f wt l x).kind i = (C.mk f wt l x).kd i.toNat by unfold C.kind; rw [if_pos ⟨h1, h2⟩])
    have HD := Lib.hid (show (C.mk f wt l x).kd i.toNat = if tb f i.toNat then 1 else if tb wt i.toNat then 2 else if tb l i.toNat then 3 else if tb x i.toNat then 4 else 0 from rfl)
    have H1 := Lib.hid h1
    have H2 := Lib.hid h2
    clear h1 h2
    cases b1 : tb f i.toNat
    · cases b2 : tb wt i.toNat
      · cases b3 : tb l i.toNat
        · cases b4 : tb x i.toNat
          all_goals
            go_enter Try.func22, Try.ntmps22
            go_wp2_with (first | (go_at_call 33; refine (isNode_any _ _).mono ?_; rintro e w' ⟨rfl, rfl⟩; rw [HI.out]) | (go_at_call 32; refine (has_any _ _ _ H1.out H2.out).mono ?_; rintro e w' ⟨rfl, rfl⟩; first | rw [b1] | rw [b2] | rw [b3] | rw [b4]))
            go_ret
            exact ⟨ret_str (by rw [HK.out, HD.out, b1, b2, b3, b4]; rfl), below_alloc _ _⟩
        · go_enter Try.func22, Try.ntmps22
          go_wp2_with (first | (go_at_call 33; refine (isNode_any _ _).mono ?_; rintro e w' ⟨rfl, rfl⟩; rw [HI.out]) | (go_at_call 32; refine (has_any _ _ _ H1.out H2.out).mono ?_; rintro e w' ⟨rfl, rfl⟩; first | rw [b1] | rw [b2] | rw [b3]))
          go_ret
          exact ⟨ret_str (by rw [HK.out, HD.out, b1, b2, b3]; rfl), below_alloc _ _⟩
      · go_enter Try.func22, Try.ntmps22
        go_wp2_with (first | (go_at_call 33; refine (isNode_any _ _).mono ?_; rintro e w' ⟨rfl, rfl⟩; rw [HI.out]) | (go_at_call 32; refine (has_any _ _ _ H1.out H2.out).mono ?_; rintro e w' ⟨rfl, rfl⟩; first | rw [b1] | rw [b2]))
        go_ret
        exact ⟨ret_str (by rw [HK.out, HD.out, b1, b2]; rfl), below_alloc _ _⟩
    · go_enter Try.func22, Try.ntmps22
      go_wp2_with (first | (go_at_call 33; refine (isNode_any _ _).mono ?_; rintro e w' ⟨rfl, rfl⟩; rw [HI.out]) | (go_at_call 32; refine (has_any _ _ _ H1.out H2.out).mono ?_; rintro e w' ⟨rfl, rfl⟩; rw [b1]))
      go_ret
      exact ⟨ret_str (by rw [HK.out, HD.out, b1]; rfl), below_alloc _ _⟩
  · have HI := Lib.hid (show isN i = false by unfold isN; simpa using hn)
    have HK := Lib.hid (show (C.mk f wt l x).kind i = 0 by unfold C.kind; rw [if_neg hn])
    clear hn
    go_enter Try.func22, Try.ntmps22
    go_wp2_with (first | (go_at_call 33; refine (isNode_any _ _).mono ?_; rintro e w' ⟨rfl, rfl⟩; rw [HI.out]))
    go_ret
    exact ⟨ret_str (by rw [HK.out]; rfl), below_alloc _ _⟩

/-! ### what Check tells -/
def fld (c : C) (k : Nat) : Int := if k = 0 then c.f else if k = 1 then c.w else if k = 2 then c.l else c.x
def seen (c : C) : Nat → Int
  | 0 => 0
  | k + 1 => bits .or .i64 (seen c k) (fld c k)
structure At (c : C) (k : Nat) : Prop where
  lo : 0 ≤ fld c k
  hi : fld c k ≤ 127
  no : bits .and .i64 (fld c k) (seen c k) = 0
def C.right (c : C) : Bool := decide (0 ≤ c.f ∧ c.f ≤ 127 ∧ 0 ≤ c.w ∧ c.w ≤ 127 ∧ 0 ≤ c.l ∧ c.l ≤ 127 ∧ 0 ≤ c.x ∧ c.x ≤ 127 ∧ c.f ≠ 0) && (List.range 7).all c.apt
theorem right_iff {c : C} : c.right = true ↔ c.Ok := by
  unfold C.right
  rw [Bool.and_eq_true, decide_eq_true_eq, List.all_eq_true]
  constructor
  · rintro ⟨⟨a, b, d, e, f, g, h, i, j⟩, k⟩
    exact ⟨⟨a, b⟩, ⟨d, e⟩, ⟨f, g⟩, ⟨h, i⟩, j, fun i hi => k i (List.mem_range.2 hi)⟩
  · rintro ⟨⟨a, b⟩, ⟨d, e⟩, ⟨f, g⟩, ⟨h, i⟩, j, k⟩
    exact ⟨⟨a, b, d, e, f, g, h, i, j⟩, fun i hi => k i (List.mem_range.1 hi)⟩
theorem seen_in {c : C} {k : Nat} (h : ∀ j, j < k → At c j) : In7 (seen c k) := by
  induction k with
  | zero => exact In7.zero
  | succ k ih => exact (ih (fun j hj => h j (by omega))).or ⟨(h k (by omega)).lo, (h k (by omega)).hi⟩
theorem ok_iff (c : C) : c.Ok ↔ c.f ≠ 0 ∧ ∀ k, k < 4 → At c k := by
  have s1 : ∀ i, tb (seen c 1) i = tb c.f i := fun i => by show tb (bits .or .i64 0 c.f) i = _; rw [tb_or, tb_0, Bool.false_or]
  have s2 : ∀ i, tb (seen c 2) i = (tb c.f i || tb c.w i) := fun i => by show tb (bits .or .i64 (seen c 1) c.w) i = _; rw [tb_or, s1]
  have s3 : ∀ i, tb (seen c 3) i = (tb c.f i || tb c.w i || tb c.l i) := fun i => by show tb (bits .or .i64 (seen c 2) c.l) i = _; rw [tb_or, s2]
  constructor
  · intro h
    have i1 : In7 (seen c 1) := In7.or In7.zero h.f
    have i2 : In7 (seen c 2) := i1.or h.w
    have i3 : In7 (seen c 3) := i2.or h.l
    have hp : ∀ i, i < 7 → apart (tb c.f i) (tb c.w i) (tb c.l i) (tb c.x i) = true := h.apt
    refine ⟨h.ne, fun k hk => ?_⟩
    obtain rfl | rfl | rfl | rfl : k = 0 ∨ k = 1 ∨ k = 2 ∨ k = 3 := by omega
    · exact ⟨h.f.1, h.f.2, by show bits .and .i64 c.f 0 = 0; rw [and_zero h.f In7.zero]; intro i _; rw [tb_0, Bool.and_false]⟩
    · refine ⟨h.w.1, h.w.2, ?_⟩
      show bits .and .i64 c.w (seen c 1) = 0
      rw [and_zero h.w i1]
      intro i hi
      have := hp i hi
      rw [s1]
      revert this
      cases tb c.f i <;> cases tb c.w i <;> cases tb c.l i <;> cases tb c.x i <;> decide
    · refine ⟨h.l.1, h.l.2, ?_⟩
      show bits .and .i64 c.l (seen c 2) = 0
      rw [and_zero h.l i2]
      intro i hi
      have := hp i hi
      rw [s2]
      revert this
      cases tb c.f i <;> cases tb c.w i <;> cases tb c.l i <;> cases tb c.x i <;> decide
    · refine ⟨h.x.1, h.x.2, ?_⟩
      show bits .and .i64 c.x (seen c 3) = 0
      rw [and_zero h.x i3]
      intro i hi
      have := hp i hi
      rw [s3]
      revert this
      cases tb c.f i <;> cases tb c.w i <;> cases tb c.l i <;> cases tb c.x i <;> decide
  · rintro ⟨hne, h⟩
    have i1 : In7 (seen c 1) := seen_in (fun j hj => h j (by omega))
    have i2 : In7 (seen c 2) := seen_in (fun j hj => h j (by omega))
    have i3 : In7 (seen c 3) := seen_in (fun j hj => h j (by omega))
    have f0 : In7 c.f := ⟨(h 0 (by omega)).lo, (h 0 (by omega)).hi⟩
    have f1 : In7 c.w := ⟨(h 1 (by omega)).lo, (h 1 (by omega)).hi⟩
    have f2 : In7 c.l := ⟨(h 2 (by omega)).lo, (h 2 (by omega)).hi⟩
    have f3 : In7 c.x := ⟨(h 3 (by omega)).lo, (h 3 (by omega)).hi⟩
    have n1 := (and_zero f1 i1).1 (h 1 (by omega)).no
    have n2 := (and_zero f2 i2).1 (h 2 (by omega)).no
    have n3 := (and_zero f3 i3).1 (h 3 (by omega)).no
    refine ⟨f0, f1, f2, f3, hne, fun i hi => ?_⟩
    have a1 := n1 i hi
    have a2 := n2 i hi
    have a3 := n3 i hi
    rw [s1] at a1
    rw [s2] at a2
    rw [s3] at a3
    show apart (tb c.f i) (tb c.w i) (tb c.l i) (tb c.x i) = true
    revert a1 a2 a3
    cases tb c.f i <;> cases tb c.w i <;> cases tb c.l i <;> cases tb c.x i <;> decide
end Go.Proofs.Ytakaflbfhpalhaa.Cn
