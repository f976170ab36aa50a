import Derived.Test.YtaengjgmchpabaaGreatWireW2
import Derived.Test.YtaengjgmchpabaaGreatMergeWr2
/- The landed writer: isNoCall. -/
namespace Go.Proofs.YtaengjgmchpabaaGreat.Wr
open Go Go.RowKit Vl Kv Ss Cn Mem Lg Nm
attribute [local go_sem] Nm.run_bits Nm.run_frombits run_store_float
/-- what == of a call and none answers -/
def callEq (c : Cl) : Bool :=
  decide (c.client = 0) && decide (c.seq = 0) && decide (c.cmd.kind = 0) && decide (c.cmd.key = ⟨#[]⟩) && decide (c.cmd.old.kind = 0) && (FloatKind.f64.format.order c.cmd.old.num 0 == some .eq) && decide (c.cmd.old.text = ⟨#[]⟩) &&
  decide (c.cmd.val.kind = 0) && (FloatKind.f64.format.order c.cmd.val.num 0 == some .eq) && decide (c.cmd.val.text = ⟨#[]⟩)
theorem order_zero : (FloatKind.f64.format.order 0 0 == some .eq) = true := by kernel_rfl
theorem callEq_no (c : Cl) : (callEq c && (c.cmd.old.num == 0) && (c.cmd.val.num == 0)) = noCall c := by
  rw [Bool.eq_iff_iff, noCall_iff]
  unfold callEq
  constructor
  · intro h
    simp only [Bool.and_eq_true, decide_eq_true_eq, beq_iff_eq] at h
    obtain ⟨⟨⟨⟨⟨⟨⟨⟨⟨⟨⟨h1, h2⟩, h3⟩, h4⟩, h5⟩, _⟩, h7⟩, h8⟩, _⟩, h10⟩, h6⟩, h9⟩ := h
    obtain ⟨cl, sq, ⟨kd, ky, ⟨ok, on, os⟩, ⟨vk, vn, vs⟩⟩⟩ := c
    simp only at h1 h2 h3 h4 h5 h6 h7 h8 h9 h10
    subst h1 h2 h3 h4 h5 h6 h7 h8 h9 h10
    rfl
  · rintro rfl
    kernel_rfl
theorem run_equalIn_float {P : Program} {w : World} (d : Nat) (t : TypeId) (k : FloatKind) (a b : Nat) (h : P.underlying t = some (.float k)) : (Op.equalIn (d + 1) t (.float k a) (.float k b)).run P w = .ok (k.format.order a b == some .eq) w := by
  simp [Op.equalIn, run_underlying h, Op.floatEq]
attribute [local go_sem] run_equalIn_float
set_option maxHeartbeats 1600000 in
set_option maxRecDepth 100000 in
theorem call_eq (c : Cl) (w : World) :
    (binOp .eql 68 (.agg #[.int .i64 c.client, .int .i64 c.seq, .int .i64 c.cmd.kind, .string c.cmd.key, .int .i64 c.cmd.old.kind, .float .f64 c.cmd.old.num, .string c.cmd.old.text, .int .i64 c.cmd.val.kind, .float .f64 c.cmd.val.num, .string c.cmd.val.text]) (.agg #[.int .i64 0, .int .i64 0, .int .i64 0, .string ⟨#[]⟩, .int .i64 0, .float .f64 0, .string ⟨#[]⟩, .int .i64 0, .float .f64 0, .string ⟨#[]⟩])).run Tryz.prog w = .ok (.bool (callEq c)) w := by
  obtain ⟨cl, sq, ⟨kd, ky, ⟨ok, on, os⟩, ⟨vk, vn, vs⟩⟩⟩ := c
  unfold callEq
  dsimp only
  by_cases h0 : cl = 0
  · subst h0
    by_cases h1 : sq = 0
    · subst h1
      by_cases h2 : kd = 0
      · subst h2
        have t3 := text_emp ky
        have u3 := text_nil ky
        obtain ⟨q3, hq3⟩ : ∃ q, decide (ky = ⟨#[]⟩) = q := ⟨_, rfl⟩
        rw [hq3] at t3 u3 ⊢
        clear hq3
        cases q3
        · go_simp
        · by_cases h4 : ok = 0
          · subst h4
            obtain ⟨q5, hq5⟩ : ∃ q, (FloatKind.f64.format.order on 0 == some .eq) = q := ⟨_, rfl⟩
            rw [hq5]
            cases q5
            · go_simp
            · have t6 := text_emp os
              have u6 := text_nil os
              obtain ⟨q6, hq6⟩ : ∃ q, decide (os = ⟨#[]⟩) = q := ⟨_, rfl⟩
              rw [hq6] at t6 u6 ⊢
              clear hq6
              cases q6
              · go_simp
              · by_cases h7 : vk = 0
                · subst h7
                  obtain ⟨q8, hq8⟩ : ∃ q, (FloatKind.f64.format.order vn 0 == some .eq) = q := ⟨_, rfl⟩
                  rw [hq8]
                  cases q8
                  · go_simp
                  · have t9 := text_emp vs
                    have u9 := text_nil vs
                    obtain ⟨q9, hq9⟩ : ∃ q, decide (vs = ⟨#[]⟩) = q := ⟨_, rfl⟩
                    rw [hq9] at t9 u9 ⊢
                    clear hq9
                    cases q9
                    · go_simp
                    · go_simp
                · have b7 := beq_eq_false_iff_ne.2 h7
                  rw [decide_eq_false h7]
                  clear h7
                  go_simp
          · have b4 := beq_eq_false_iff_ne.2 h4
            rw [decide_eq_false h4]
            clear h4
            go_simp
      · have b2 := beq_eq_false_iff_ne.2 h2
        rw [decide_eq_false h2]
        clear h2
        go_simp
    · have b1 := beq_eq_false_iff_ne.2 h1
      rw [decide_eq_false h1]
      clear h1
      go_simp
  · have b0 := beq_eq_false_iff_ne.2 h0
    rw [decide_eq_false h0]
    clear h0
    go_simp
def callCells (c : Cl) : Obj := .cells #[.int .i64 c.client, .int .i64 c.seq, .int .i64 c.cmd.kind, .string c.cmd.key, .int .i64 c.cmd.old.kind, .float .f64 c.cmd.old.num, .string c.cmd.old.text, .int .i64 c.cmd.val.kind, .float .f64 c.cmd.val.num, .string c.cmd.val.text] 68
@[reducible] def callVal (c : Cl) : Value := .agg #[.int .i64 c.client, .int .i64 c.seq, .int .i64 c.cmd.kind, .string c.cmd.key, .int .i64 c.cmd.old.kind, .float .f64 c.cmd.old.num, .string c.cmd.old.text, .int .i64 c.cmd.val.kind, .float .f64 c.cmd.val.num, .string c.cmd.val.text]
set_option maxHeartbeats 1600000 in
set_option maxRecDepth 100000 in
theorem isNoCall_any (c : Cl) (w : World) : Calls Tryz.prog 80 #[callVal c] w fun e w' => e = .returned (.bool (noCall c)) ∧ Beh w w' := by
  have HQ := Lib.hid (callEq_no c)
  have he := call_eq c
  have hb := alloc_here (w := w) (callCells c) rfl
  have HB := Lib.hid ((Beh.start w).alloc (callCells c))
  generalize callEq c = q at *
  generalize noCall c = r at *
  obtain ⟨cl, sq, ⟨kd, ky, ⟨ok, on, os⟩, ⟨vk, vn, vs⟩⟩⟩ := c
  unfold callCells at hb HB
  dsimp only at HQ he hb HB
  obtain ⟨c0, c1, c2, c3, c4, c5, c6, c7, c8, c9⟩ := Lg.cells10 hb
  clear hb
  obtain ⟨q2, hq2⟩ : ∃ q, (on == 0) = q := ⟨_, rfl⟩
  rw [hq2] at HQ
  have HN : Hid (∀ w, Calls Tryz.prog 91 #[.float .f64 on] w fun e w' => e = .returned (.bool q2) ∧ w = w') := fun w => by have := isNought_any on w; rw [hq2] at this; exact this
  obtain ⟨q3, hq3⟩ : ∃ q, (vn == 0) = q := ⟨_, rfl⟩
  rw [hq3] at HQ
  have HM : Hid (∀ w, Calls Tryz.prog 91 #[.float .f64 vn] w fun e w' => e = .returned (.bool q3) ∧ w = w') := fun w => by have := isNought_any vn w; rw [hq3] at this; exact this
  clear hq2 hq3
  cases q <;> cases q2
  all_goals
    go_enter Tryz.func80, Tryz.ntmps80
    go_wp2_with (first | (go_at_call 91; (with_reducible refine Calls.mono (HN.out _) ?_); rintro e w' ⟨rfl, rfl⟩) | (go_at_call 91; (with_reducible refine Calls.mono (HM.out _) ?_); rintro e w' ⟨rfl, rfl⟩))
    go_ret
    exact ⟨ret_bool (by rw [← HQ.out]; simp), HB.out⟩
end Go.Proofs.YtaengjgmchpabaaGreat.Wr
