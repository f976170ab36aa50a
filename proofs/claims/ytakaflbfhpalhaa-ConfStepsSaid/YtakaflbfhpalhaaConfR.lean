/- Walks of the reference's conf: within, Node, Bits, Has, Conf, Kind. -/
import Derived.Test.YtakaflbfhpalhaaConfLaw2
namespace Go.Proofs.Ytakaflbfhpalhaa.Cn
open Go Go.RowKit Bh
attribute [local irreducible] wpQuiet

theorem rwithin_any (a lo hi : Int) (w : World) :
    Calls Try.prog 36 #[.int .i64 a, .int .i64 lo, .int .i64 hi] w fun e w' => e = .returned (.bool (decide (lo ≤ a) && decide (a ≤ hi))) ∧ w = w' := by
  by_cases h : lo ≤ a
  · have HC := Lib.hid (show (decide (lo ≤ a) && decide (a ≤ hi)) = decide (a ≤ hi) by rw [decide_eq_true h, Bool.true_and])
    generalize (decide (lo ≤ a) && decide (a ≤ hi)) = Q at *
    go_enter Try.func36, Try.ntmps36
    go_wp2_with fail
    go_ret
    exact ⟨ret_bool HC.out.symm, rfl⟩
  · have HC := Lib.hid (show (decide (lo ≤ a) && decide (a ≤ hi)) = false by rw [decide_eq_false h, Bool.false_and])
    generalize (decide (lo ≤ a) && decide (a ≤ hi)) = Q at *
    go_enter Try.func36, Try.ntmps36
    go_wp2_with fail
    go_ret
    exact ⟨ret_bool HC.out.symm, rfl⟩
theorem rNode_any (i : Int) (w : World) :
    Calls Try.prog 26 #[.int .i64 i] w fun e w' => e = .returned (.bool (isN i)) ∧ w = w' := by
  have HC := Lib.hid (show isN i = (decide (0 ≤ i) && decide (i ≤ 6)) by unfold isN; rw [Bool.decide_and])
  have HW := Lib.hid (fun w => rwithin_any i 0 6 w)
  rw [← HC.out] at HW
  generalize isN i = Q at *
  go_enter Try.func26, Try.ntmps26
  go_wp2_with (first | (go_at_call 36; refine Calls.mono (HW.out _) ?_; rintro e w' ⟨rfl, rfl⟩))
  go_ret
  exact ⟨rfl, rfl⟩
def inB (x : Int) : Bool := decide (0 ≤ x) && decide (x ≤ 127)
theorem inB_iff {x : Int} : inB x = true ↔ In7 x := by unfold inB In7; simp
theorem rBits_any (x : Int) (w : World) :
    Calls Try.prog 35 #[.int .i64 x] w fun e w' => e = .returned (.bool (inB x)) ∧ w = w' := by
  have HC := Lib.hid (show inB x = (decide (0 ≤ x) && decide (x ≤ 127)) from rfl)
  have HW := Lib.hid (fun w => rwithin_any x 0 127 w)
  rw [← HC.out] at HW
  generalize inB x = Q at *
  go_enter Try.func35, Try.ntmps35
  go_wp2_with (first | (go_at_call 36; refine Calls.mono (HW.out _) ?_; rintro e w' ⟨rfl, rfl⟩))
  go_ret
  exact ⟨rfl, rfl⟩
theorem and_one (y : Int) : bits .and .i64 y 1 = y % 2 := by
  have h := i64_and127 y
  have : bits .and .i64 y 1 = bits .and .i64 (bits .and .i64 y 127) 1 := by
    unfold bits
    show IntKind.i64.wrap ((BitVec.ofInt 64 y &&& BitVec.ofInt 64 1).toNat : Int) = IntKind.i64.wrap ((BitVec.ofInt 64 (IntKind.i64.wrap ((BitVec.ofInt 64 y &&& BitVec.ofInt 64 127).toNat : Int)) &&& BitVec.ofInt 64 1).toNat : Int)
    rw [ofInt_wrap, BitVec.and_assoc]
    rfl
  rw [this, h]
  have all : ∀ n : Fin 128, bits .and .i64 ((n.val : Nat) : Int) 1 = ((n.val : Nat) : Int) % 2 := by decide +kernel
  have h1 : 0 ≤ y % 128 := Int.emod_nonneg _ (by decide)
  have h2 : y % 128 < 128 := Int.emod_lt_of_pos _ (by decide)
  have := all ⟨(y % 128).toNat, by omega⟩
  rw [show (((y % 128).toNat : Nat) : Int) = y % 128 by omega] at this
  rw [this]
  omega
theorem tb_div (x : Int) {i : Nat} (hi : i < 7) : tb x i = decide ((x / 2 ^ i) % 2 = 1) := by
  unfold tb
  rw [← BitVec.testBit_toNat, BitVec.toNat_ofInt, Nat.testBit_eq_decide_div_mod_eq, decide_eq_decide]
  obtain rfl | rfl | rfl | rfl | rfl | rfl | rfl : i = 0 ∨ i = 1 ∨ i = 2 ∨ i = 3 ∨ i = 4 ∨ i = 5 ∨ i = 6 := by omega
  all_goals simp only [Nat.reducePow, Int.reducePow]; omega
theorem rHas_any (x : Int) (i : Int) (w : World) (h1 : 0 ≤ i) (h2 : i ≤ 6) :
    Calls Try.prog 37 #[.int .i64 x, .int .i64 i] w fun e w' => e = .returned (.bool (tb x i.toNat)) ∧ w = w' := by
  have HT := Lib.hid (tb_div x (i := i.toNat) (by omega))
  have HA := Lib.hid (fun y => and_one y)
  generalize tb x i.toNat = Q at *
  rcases seven h1 h2 with rfl | rfl | rfl | rfl | rfl | rfl | rfl
  all_goals
    go_enter Try.func37, Try.ntmps37
    go_wp2_with fail
    go_ret
    exact ⟨ret_bool (by rw [HT.out, HA.out, Bool.eq_iff_iff, beq_iff_eq, decide_eq_true_eq]; simp), rfl⟩
end Go.Proofs.Ytakaflbfhpalhaa.Cn
