/- Walks of layer 1's Ticks, with math.Ceil. -/
import Derived.Test.YtagofgadijeglaaDoorNumWalks
import Derived.Test.YtagofgadijeglaaDoorNumCeil
namespace Go.Proofs.YtagofgadijeglaaDoor.Nm
open Go Go.RowKit

theorem run_ceil_extern (a : Nat) (w : World) : (callFunc 48 #[.float .f64 a]).run Tryd.prog w = ((Extern.MathFloor.toIntegral "math.archCeil" .up #[.float .f64 a]).run Tryd.prog w).andThen fun v w' => .ok (.value v) w' :=
  run_callFunc_extern (fn := Tryd.f48) (e := Extern.MathFloor.toIntegral "math.archCeil" .up) Tryd.func48 (by kernel_rfl) (by kernel_rfl) (by kernel_rfl) (by kernel_rfl) _ _
def ceilSem (a : Nat) (d : Ieee.Datum) : Sem Value :=
  match d with
  | .nan s t =>
    if FloatKind.f64.format.quiet t = t then pure (.float .f64 a) else do
    let kept ← choose (.extern "math.Floor,Ceil,Trunc,RoundToEven.signallingNaN kept" 2)
    pure (.float .f64 (if kept == 1 then a else FloatKind.f64.encode (.nan s (FloatKind.f64.format.quiet t))))
  | d => pure (.float .f64 (FloatKind.f64.encode (d.integral .up)))
theorem toIntegral_eq (a : Nat) : Extern.MathFloor.toIntegral "math.archCeil" .up #[.float .f64 a] = ceilSem a (FloatKind.f64.decode a) := rfl
theorem run_ceil_num (a : Nat) (h : isNaN a = false) (w : World) : (callFunc 48 #[.float .f64 a]).run Tryd.prog w = .ok (.value (.float .f64 (ceilB a))) w := by
  rw [run_ceil_extern, toIntegral_eq]
  unfold ceilB
  have e : FloatKind.f64.decode a = FloatKind.f64.format.read a := rfl
  rcases Nat.lt_or_eq_of_le (isNaN_false h) with h1 | h1
  · obtain ⟨m, k, hr, _⟩ := read_num a h1
    rw [e, hr]; rfl
  · rw [e, read_inf a h1]; rfl
theorem quiet_parts (t : Nat) (ht : t < 4503599627370496) : 0 < FloatKind.f64.format.quiet t ∧ FloatKind.f64.format.quiet t < 4503599627370496 := by
  have e : FloatKind.f64.format.quiet t = t ||| 2251799813685248 := rfl
  have h1 : 2251799813685248 ≤ t ||| 2251799813685248 := Nat.right_le_or
  have h2 : t ||| 2251799813685248 < 2 ^ 52 := Nat.or_lt_two_pow ht (by omega)
  rw [e]
  exact ⟨by omega, h2⟩
theorem nan_word (s : Bool) (t : Nat) (h0 : 0 < t) (h1 : t < 4503599627370496) : isNaN (FloatKind.f64.encode (.nan s t)) = true ∧ FloatKind.f64.encode (.nan s t) < 18446744073709551616 := by
  have e : FloatKind.f64.encode (.nan s t) = if s = true then 9223372036854775808 + (9218868437227405312 + t % 4503599627370496) else 9218868437227405312 + t % 4503599627370496 := rfl
  rw [isNaN_iff, e, decide_eq_true_eq, Nat.mod_eq_of_lt h1]
  unfold rung
  cases s
  · simp only [Bool.false_eq_true, if_false]; omega
  · simp only [if_true]; omega
theorem run_ceil_nan (a : Nat) (ha : a < 18446744073709551616) (h : isNaN a = true) (w : World) :
    ∃ r n, (callFunc 48 #[.float .f64 a]).run Tryd.prog w = .ok (.value (.float .f64 r)) (w.drewN n) ∧ isNaN r = true ∧ r < 18446744073709551616 := by
  rw [run_ceil_extern, toIntegral_eq]
  have ht : rung a - 9218868437227405312 < 4503599627370496 := by unfold rung; omega
  have e : FloatKind.f64.decode a = .nan (neg a) (rung a - 9218868437227405312) := by
    have := isNaN_true h
    show FloatKind.f64.format.read a = _
    rw [read_eq, if_neg (by omega), if_neg (by omega), if_neg (by omega)]
  rw [e]
  generalize rung a - 9218868437227405312 = t at *
  unfold ceilSem
  dsimp only
  by_cases hq : FloatKind.f64.format.quiet t = t
  · refine ⟨a, 0, ?_, h, ha⟩
    rw [if_pos hq]; rfl
  · rw [if_neg hq]
    have hp := quiet_parts t ht
    have hw := nan_word (neg a) (FloatKind.f64.format.quiet t) hp.1 hp.2
    generalize FloatKind.f64.encode (.nan (neg a) (FloatKind.f64.format.quiet t)) = q at *
    refine ⟨if (Question.cut (.extern "math.Floor,Ceil,Trunc,RoundToEven.signallingNaN kept" 2) (w.tape w.drawn (.extern "math.Floor,Ceil,Trunc,RoundToEven.signallingNaN kept" 2)) == 1) = true then a else q, 1, ?_, ?_, ?_⟩
    · simp [Question.forced]
      rfl
    · split
      · exact h
      · exact hw.1
    · split
      · exact ha
      · exact hw.2
set_option maxHeartbeats 400000 in
theorem Ceil_num (a : Nat) (h : isNaN a = false) (w : World) :
    Calls Tryd.prog 44 #[.float .f64 a] w fun e w' => e = .returned (.float .f64 (ceilB a)) ∧ w = w' := by
  have hr := fun w => run_ceil_num a h w
  go_enter Tryd.func44, Tryd.ntmps44
  go_wp2
  go_ret
  exact ⟨rfl, rfl⟩
set_option maxHeartbeats 400000 in
theorem Ceil_nan (a : Nat) (ha : a < 18446744073709551616) (h : isNaN a = true) (w : World) :
    Calls Tryd.prog 44 #[.float .f64 a] w fun e w' => ∃ r n, e = .returned (.float .f64 r) ∧ isNaN r = true ∧ r < 18446744073709551616 ∧ w' = w.drewN n := by
  obtain ⟨r, n, hr, h1, h2⟩ := run_ceil_nan a ha h w
  have H1 := Lib.hid h1
  clear h1 h
  go_enter Tryd.func44, Tryd.ntmps44
  go_wp2
  go_ret
  exact ⟨r, n, rfl, H1.out, h2, rfl⟩

set_option maxHeartbeats 400000 in
theorem Ticks_any (x : Nat) (lo hi : Int) (hx : x < 18446744073709551616) (hl : -9223372036854775808 ≤ lo) (hh : hi ≤ 9223372036854775807) (w : World) :
    Calls Tryd.prog 27 #[.float .f64 x, .int .i64 lo, .int .i64 hi] w fun e w' => e = .returned (.int .i64 (ticksF x lo hi)) ∧ ∃ n, w' = w.drewN n := by
  cases hn : isNaN x
  · by_cases hb : hi < lo
    · go_enter Tryd.func27, Tryd.ntmps27
      go_wp2_with (first | (go_at_call 44; refine (Ceil_num _ (by assumption) _).mono ?_; rintro e w' ⟨rfl, rfl⟩) | (go_at_call 39; refine (IsNaN_any _ _).mono ?_; rintro e w' ⟨rfl, rfl⟩))
      go_ret
      exact ⟨ret_int (by unfold ticksF; rw [if_pos hb]), 0, rfl⟩
    · have hc := isNaN_ceil hn
      have hb2 : lo ≤ hi := by omega
      rcases ceil_ways x hn with ⟨h0, hpos, h2⟩ | ⟨h0, h2, h3⟩ | ⟨h0, h2, h3, h4⟩
      all_goals have h1 : (FloatKind.f64.format.order (ceilB x) 14114281232179134464 == some .lt) = _ := (by first | exact beq_iff_eq.2 h0 | exact beq_eq_false_iff_ne.2 h0)
      all_goals clear h0 hb
      · have hv := Lib.hid (h2 lo hi (by omega) hl)
        clear h2
        go_enter Tryd.func27, Tryd.ntmps27
        go_wp2_with (first | (go_at_call 44; refine (Ceil_num _ (by assumption) _).mono ?_; rintro e w' ⟨rfl, rfl⟩) | (go_at_call 39; refine (IsNaN_any _ _).mono ?_; rintro e w' ⟨rfl, rfl⟩))
        go_ret
        exact ⟨ret_int hv.out.symm, 0, rfl⟩
      · have hv := Lib.hid (h3 lo hi (by omega) hh)
        clear h3
        go_enter Tryd.func27, Tryd.ntmps27
        go_wp2_with (first | (go_at_call 44; refine (Ceil_num _ (by assumption) _).mono ?_; rintro e w' ⟨rfl, rfl⟩) | (go_at_call 39; refine (IsNaN_any _ _).mono ?_; rintro e w' ⟨rfl, rfl⟩))
        go_ret
        exact ⟨ret_int hv.out.symm, 0, rfl⟩
      · have hv := Lib.hid (h4 lo hi (by omega))
        have hr := fun w => run_convert_float_int (P := Tryd.prog) w 22 3 .f64 .i64 (ceilB x) (ceilI x) rfl Tryd.underlying3 h3
        clear h3 h4
        go_enter Tryd.func27, Tryd.ntmps27
        go_wp2_with (first | (go_at_call 44; refine (Ceil_num _ (by assumption) _).mono ?_; rintro e w' ⟨rfl, rfl⟩) | (go_at_call 39; refine (IsNaN_any _ _).mono ?_; rintro e w' ⟨rfl, rfl⟩))
        all_goals go_ret
        all_goals exact ⟨ret_int (by rw [hv.out]; first | omega | (split <;> omega)), 0, rfl⟩
  · by_cases hb : hi < lo
    all_goals
      go_enter Tryd.func27, Tryd.ntmps27
      go_wp2_with (first | (go_at_call 44; refine (Ceil_nan _ (by assumption) (by assumption) _).mono ?_; rintro e w' ⟨r, n, rfl, hrn, hrl, rfl⟩) | (go_at_call 39; refine (IsNaN_any _ _).mono ?_; rintro e w' ⟨rfl, rfl⟩))
      go_ret
      exact ⟨ret_int (by unfold ticksF; simp [hn]), n, rfl⟩
set_option maxHeartbeats 400000 in
theorem refTicks_any (x : Nat) (lo hi : Int) (hl : -9223372036854775808 ≤ lo) (hh : hi ≤ 9223372036854775807) (w : World) :
    Calls Tryd.prog 28 #[.float .f64 x, .int .i64 lo, .int .i64 hi] w fun e w' => e = .returned (.int .i64 (ticksF x lo hi)) ∧ w = w' := by
  cases hn : isNaN x
  · have hn' : (FloatKind.f64.format.order x x != some .eq) = _ := hn
    by_cases hb : hi < lo
    · go_enter Tryd.func28, Tryd.ntmps28
      go_wp2_with (first | (go_at_call 44; refine (Ceil_num _ (by assumption) _).mono ?_; rintro e w' ⟨rfl, rfl⟩))
      go_ret
      exact ⟨ret_int (by unfold ticksF; rw [if_pos hb]), rfl⟩
    · have hc := isNaN_ceil hn
      have hb2 : lo ≤ hi := by omega
      rcases ceil_ways x hn with ⟨h0, hpos, h2⟩ | ⟨h0, h2, h3⟩ | ⟨h0, h2, h3, h4⟩
      all_goals have h1 : (FloatKind.f64.format.order (ceilB x) 14114281232179134464 == some .lt) = _ := (by first | exact beq_iff_eq.2 h0 | exact beq_eq_false_iff_ne.2 h0)
      all_goals clear h0 hb
      · have hv := Lib.hid (h2 lo hi (by omega) hl)
        clear h2
        go_enter Tryd.func28, Tryd.ntmps28
        go_wp2_with (first | (go_at_call 44; refine (Ceil_num _ (by assumption) _).mono ?_; rintro e w' ⟨rfl, rfl⟩))
        go_ret
        exact ⟨ret_int hv.out.symm, rfl⟩
      · have hv := Lib.hid (h3 lo hi (by omega) hh)
        clear h3
        go_enter Tryd.func28, Tryd.ntmps28
        go_wp2_with (first | (go_at_call 44; refine (Ceil_num _ (by assumption) _).mono ?_; rintro e w' ⟨rfl, rfl⟩))
        go_ret
        exact ⟨ret_int hv.out.symm, rfl⟩
      · have hv := Lib.hid (h4 lo hi (by omega))
        have hr := fun w => run_convert_float_int (P := Tryd.prog) w 22 3 .f64 .i64 (ceilB x) (ceilI x) rfl Tryd.underlying3 h3
        clear h3 h4
        go_enter Tryd.func28, Tryd.ntmps28
        go_wp2_with (first | (go_at_call 44; refine (Ceil_num _ (by assumption) _).mono ?_; rintro e w' ⟨rfl, rfl⟩))
        all_goals go_ret
        all_goals exact ⟨ret_int (by rw [hv.out]; first | omega | (split <;> omega)), rfl⟩
  · have hn' : (FloatKind.f64.format.order x x != some .eq) = _ := hn
    by_cases hb : hi < lo
    all_goals
      go_enter Tryd.func28, Tryd.ntmps28
      go_wp2
      go_ret
      exact ⟨ret_int (by unfold ticksF; simp [hn]), rfl⟩
end Go.Proofs.YtagofgadijeglaaDoor.Nm
