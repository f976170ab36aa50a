/- The law ConfMeets, walked. -/
import Derived.Test.YtakaflbfhpalhaaConfLaw
import Derived.Test.YtakaflbfhpalhaaConfIn
namespace Go.Proofs.Ytakaflbfhpalhaa.Cn
open Go Go.RowKit Bh
attribute [local irreducible] wpQuiet

set_option maxHeartbeats 3200000 in
theorem ConfMeets_law (a b : C) (x y : Int) (w : World) :
    Calls Try.prog 4 #[a.val, b.val, .int .i64 x, .int .i64 y] w fun e w' => e = .returned (.bool true) ∧ Below w.heap.size w w' := by
  have HQ := Lib.hid (fun (c : C) (z : Int) W => Quorum_any c z W)
  have HV := Lib.hid (fun W => Voters_any a W)
  have HN := Lib.hid (fun W => Near_any a b W)
  have HM1 : Hid (quo a x = true → quo a y = true → (bits .and .i64 (bits .and .i64 (bits .and .i64 x y) a.vot) 127 == 0) = false) := fun h1 h2 => beq_eq_false_iff_ne.2 (meet1 h1 h2)
  have HM2 : Hid (nearM a b = true → quo a x = true → quo b y = true → (bits .and .i64 (bits .and .i64 x y) 127 != 0) = true) := fun h1 h2 h3 => by rw [bne_iff_ne]; exact meet2 h1 h2 h3
  have q1 : quo a x = quo a x := rfl
  have q2 : quo a y = quo a y := rfl
  have q3 : quo b y = quo b y := rfl
  generalize nearM a b = N at *
  generalize hq1 : quo a x = Q1 at HM1 HM2
  generalize hq2 : quo a y = Q2 at HM1
  generalize hq3 : quo b y = Q3 at HM2
  clear q1 q2 q3
  generalize a.vot = V at *
  obtain ⟨f, wt, l, xx⟩ := a
  obtain ⟨f', wt', l', x'⟩ := b
  have HB := Lib.hid (Two.start w (.cells #[.int .i64 f, .int .i64 wt, .int .i64 l, .int .i64 xx] 23) (.cells #[.int .i64 f', .int .i64 wt', .int .i64 l', .int .i64 x'] 23))
  have key : ∀ (q1 q2 q3 n : Bool), Q1 = q1 → Q2 = q2 → Q3 = q3 → N = n → Calls Try.prog 4 #[(C.mk f wt l xx).val, (C.mk f' wt' l' x').val, .int .i64 x, .int .i64 y] w fun e w' => e = .returned (.bool true) ∧ Below w.heap.size w w' := by
    intro q1 q2 q3 n e1 e2 e3 e4
    subst e1 e2 e3 e4
    cases Q1 <;> cases Q2 <;> cases Q3 <;> cases N
    all_goals first | (have h1 := HM1.out rfl rfl) | skip
    all_goals first | (have h2 := HM2.out rfl rfl rfl) | skip
    all_goals
      go_enter Try.func4, Try.ntmps4
      go_wp2_with (first
        | (go_at_call 18; refine Calls.mono (HQ.out ⟨_, _, _, _⟩ _ _) ?_; rintro e wq ⟨rfl, hb⟩; (first | rw [hq1] | rw [hq2] | rw [hq3]); have HB := Lib.hid (HB.out.on hb); clear hb; obtain ⟨c0, c1, c2, c3⟩ := cells4 HB.out.a; obtain ⟨d0, d1, d2, d3⟩ := cells4 HB.out.b)
        | (go_at_call 15; refine Calls.mono (HN.out _) ?_; rintro e wq ⟨rfl, hb⟩; have HB := Lib.hid (HB.out.on hb); clear hb; obtain ⟨c0, c1, c2, c3⟩ := cells4 HB.out.a; obtain ⟨d0, d1, d2, d3⟩ := cells4 HB.out.b)
        | (go_at_call 19; refine Calls.mono (HV.out _) ?_; rintro e wq ⟨rfl, hb⟩; have HB := Lib.hid (HB.out.on hb); clear hb; obtain ⟨c0, c1, c2, c3⟩ := cells4 HB.out.a; obtain ⟨d0, d1, d2, d3⟩ := cells4 HB.out.b)
        | (go_at_call 17; refine (wakes_any _).mono ?_; rintro e wq ⟨rfl, hb⟩; have HB := Lib.hid (HB.out.on hb); clear hb))
      go_ret
      exact ⟨rfl, HB.out.beh⟩
  exact key _ _ _ _ rfl rfl rfl rfl
theorem ConfMeets_told (a b : C) (x y : Int) (w : World) (_ : a.Came) (_ : b.Came) (_ : (Lit.int .i64 x).wf = true) (_ : (Lit.int .i64 y).wf = true) :
    Calls Try.prog 4 #[a.val, b.val, .int .i64 x, .int .i64 y] w fun e w' => e = .returned (.bool true) ∧ Below w.heap.size w w' := ConfMeets_law a b x y w
end Go.Proofs.Ytakaflbfhpalhaa.Cn
