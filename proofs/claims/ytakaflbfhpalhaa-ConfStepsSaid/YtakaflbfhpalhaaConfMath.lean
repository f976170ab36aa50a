/- Plain mathematics of layer 8: numbers as bits of nodes, configurations, steps. No program. -/
import Derived.Test.YtakaflbfhpalhaaProg
import Derived.Laws.BitsAllLaws
import Derived.Laws.Bits128
import Derived.Below
namespace Go.Proofs.Ytakaflbfhpalhaa.Cn
open Go Go.RowKit

/-- bit i of a whole number -/
def tb (x : Int) (i : Nat) : Bool := (BitVec.ofInt 64 x).getLsbD i
theorem wrap_i64 (n : Int) : IntKind.i64.wrap n = (n + 9223372036854775808) % 18446744073709551616 - 9223372036854775808 := by
  have e : IntKind.i64.wrap n = if n % 18446744073709551616 ≥ 9223372036854775808 then n % 18446744073709551616 - 18446744073709551616 else n % 18446744073709551616 := by
    simp [IntKind.wrap, IntKind.bits, IntKind.signed]
  rw [e]
  split <;> omega
theorem ofInt_wrap (r : BitVec 64) : BitVec.ofInt 64 (IntKind.i64.wrap (r.toNat : Int)) = r := by
  apply BitVec.eq_of_toNat_eq
  have := r.isLt
  rw [BitVec.toNat_ofInt, wrap_i64]
  omega
theorem tb_and (x y : Int) (i : Nat) : tb (bits .and .i64 x y) i = (tb x i && tb y i) := by
  unfold tb bits
  show (BitVec.ofInt 64 (IntKind.i64.wrap ((BitVec.ofInt 64 x &&& BitVec.ofInt 64 y).toNat : Int))).getLsbD i = _
  rw [ofInt_wrap, BitVec.getLsbD_and]
theorem tb_or (x y : Int) (i : Nat) : tb (bits .or .i64 x y) i = (tb x i || tb y i) := by
  unfold tb bits
  show (BitVec.ofInt 64 (IntKind.i64.wrap ((BitVec.ofInt 64 x ||| BitVec.ofInt 64 y).toNat : Int))).getLsbD i = _
  rw [ofInt_wrap, BitVec.getLsbD_or]
theorem tb_xor (x y : Int) (i : Nat) : tb (bits .xor .i64 x y) i = (tb x i ^^ tb y i) := by
  unfold tb bits
  show (BitVec.ofInt 64 (IntKind.i64.wrap ((BitVec.ofInt 64 x ^^^ BitVec.ofInt 64 y).toNat : Int))).getLsbD i = _
  rw [ofInt_wrap, BitVec.getLsbD_xor]
theorem tb_andNot (x y : Int) (i : Nat) (hi : i < 64) : tb (bits .andNot .i64 x y) i = (tb x i && !tb y i) := by
  unfold tb bits
  show (BitVec.ofInt 64 (IntKind.i64.wrap ((BitVec.ofInt 64 x &&& ~~~ BitVec.ofInt 64 y).toNat : Int))).getLsbD i = _
  rw [ofInt_wrap, BitVec.getLsbD_and, BitVec.getLsbD_not]
  simp [hi]
/-- the number whose one bit is i -/
def pw (i : Nat) : Int := 2 ^ i
theorem tb_pw : ∀ i j : Fin 7, tb (pw i.val) j.val = decide (i = j) := by decide +kernel
theorem tb_m1 : ∀ i : Fin 7, tb (-1) i.val = true := by decide +kernel
theorem tb_0 (i : Nat) : tb 0 i = false := by unfold tb; simp
theorem tb_127 : ∀ i : Fin 7, tb 127 i.val = true := by decide +kernel

/-! ### numbers that are bits of nodes alone -/
def In7 (x : Int) : Prop := 0 ≤ x ∧ x ≤ 127
def sum7 (b : Nat → Bool) : Int := (b 0).toNat + 2 * (b 1).toNat + 4 * (b 2).toNat + 8 * (b 3).toNat + 16 * (b 4).toNat + 32 * (b 5).toNat + 64 * (b 6).toNat
theorem val7_all : ∀ n : Fin 128, ((n.val : Nat) : Int) = sum7 (tb ((n.val : Nat) : Int)) := by decide +kernel
theorem In7.fin {x : Int} (h : In7 x) : ∃ n : Fin 128, x = ((n.val : Nat) : Int) := ⟨⟨x.toNat, by have := h.1; have := h.2; omega⟩, by have := h.1; show x = (x.toNat : Int); omega⟩
theorem val7 {x : Int} (h : In7 x) : x = sum7 (tb x) := by
  obtain ⟨n, rfl⟩ := h.fin
  exact val7_all n
theorem ext7 {x y : Int} (hx : In7 x) (hy : In7 y) (h : ∀ i, i < 7 → tb x i = tb y i) : x = y := by
  rw [val7 hx, val7 hy]
  unfold sum7
  rw [h 0 (by omega), h 1 (by omega), h 2 (by omega), h 3 (by omega), h 4 (by omega), h 5 (by omega), h 6 (by omega)]
theorem In7.pw {i : Nat} (h : i < 7) : In7 (pw i) := by
  have : ∀ i : Fin 7, 0 ≤ Cn.pw i.val ∧ Cn.pw i.val ≤ 127 := by decide +kernel
  exact this ⟨i, h⟩
theorem and_nat (a b : Nat) (ha : a < 128) (hb : b < 128) : bits .and .i64 (a : Int) (b : Int) = ((a &&& b : Nat) : Int) := by
  have h1 : a &&& b ≤ a := Nat.and_le_left
  unfold bits
  show IntKind.i64.wrap ((BitVec.ofInt 64 a &&& BitVec.ofInt 64 b).toNat : Int) = _
  rw [BitVec.toNat_and, BitVec.toNat_ofInt, BitVec.toNat_ofInt, show ((a : Int) % (2 ^ 64 : Nat)).toNat = a by omega, show ((b : Int) % (2 ^ 64 : Nat)).toNat = b by omega, wrap_i64]
  omega
theorem or_nat (a b : Nat) (ha : a < 128) (hb : b < 128) : bits .or .i64 (a : Int) (b : Int) = ((a ||| b : Nat) : Int) := by
  have h1 : a ||| b < 2 ^ 7 := Nat.or_lt_two_pow (by omega) (by omega)
  unfold bits
  show IntKind.i64.wrap ((BitVec.ofInt 64 a ||| BitVec.ofInt 64 b).toNat : Int) = _
  rw [BitVec.toNat_or, BitVec.toNat_ofInt, BitVec.toNat_ofInt, show ((a : Int) % (2 ^ 64 : Nat)).toNat = a by omega, show ((b : Int) % (2 ^ 64 : Nat)).toNat = b by omega, wrap_i64]
  omega
theorem In7.and {x y : Int} (hx : In7 x) (hy : In7 y) : In7 (bits .and .i64 x y) := by
  obtain ⟨a, rfl⟩ := hx.fin
  obtain ⟨b, rfl⟩ := hy.fin
  rw [and_nat _ _ a.isLt b.isLt]
  have h1 : a.val &&& b.val ≤ a.val := Nat.and_le_left
  have := a.isLt
  exact ⟨by omega, by omega⟩
theorem In7.or {x y : Int} (hx : In7 x) (hy : In7 y) : In7 (bits .or .i64 x y) := by
  obtain ⟨a, rfl⟩ := hx.fin
  obtain ⟨b, rfl⟩ := hy.fin
  rw [or_nat _ _ a.isLt b.isLt]
  have h1 : a.val ||| b.val < 2 ^ 7 := Nat.or_lt_two_pow (by have := a.isLt; omega) (by have := b.isLt; omega)
  exact ⟨by omega, by omega⟩
theorem In7.andNot_pw {x : Int} (hx : In7 x) {i : Nat} (hi : i < 7) : In7 (bits .andNot .i64 x (Cn.pw i)) := by
  have : ∀ n : Fin 128, ∀ i : Fin 7, 0 ≤ bits .andNot .i64 ((n.val : Nat) : Int) (Cn.pw i.val) ∧ bits .andNot .i64 ((n.val : Nat) : Int) (Cn.pw i.val) ≤ 127 := by decide +kernel
  obtain ⟨a, rfl⟩ := hx.fin
  exact this a ⟨i, hi⟩
theorem In7.zero : In7 0 := ⟨by omega, by omega⟩
theorem and_zero {x y : Int} (hx : In7 x) (hy : In7 y) : bits .and .i64 x y = 0 ↔ ∀ i, i < 7 → (tb x i && tb y i) = false := by
  constructor
  · intro h i _
    rw [← tb_and, h, tb_0]
  · intro h
    exact ext7 (hx.and hy) In7.zero (fun i hi => by rw [tb_and, h i hi, tb_0])
theorem ne_zero {x : Int} (hx : In7 x) : x ≠ 0 ↔ ∃ i, i < 7 ∧ tb x i = true := by
  constructor
  · intro h
    by_cases hn : ∃ i, i < 7 ∧ tb x i = true
    · exact hn
    · exact absurd (ext7 hx In7.zero (fun i hi => by
        rw [tb_0]
        cases hb : tb x i
        · rfl
        · exact absurd ⟨i, hi, hb⟩ hn)) h
  · rintro ⟨i, _, hb⟩ rfl
    rw [tb_0] at hb
    cases hb
/-- taken away, added: the reference's sums -/
theorem sub_pw {x : Int} (hx : In7 x) {i : Nat} (hi : i < 7) (h : tb x i = true) : x - pw i = bits .andNot .i64 x (pw i) := by
  have : ∀ n : Fin 128, ∀ i : Fin 7, tb ((n.val : Nat) : Int) i.val = true → ((n.val : Nat) : Int) - pw i.val = bits .andNot .i64 ((n.val : Nat) : Int) (pw i.val) := by decide +kernel
  obtain ⟨a, rfl⟩ := hx.fin
  exact this a ⟨i, hi⟩ h
theorem add_pw {x : Int} (hx : In7 x) {i : Nat} (hi : i < 7) (h : tb x i = false) : x + pw i = bits .or .i64 (bits .andNot .i64 x (pw i)) (pw i) := by
  have : ∀ n : Fin 128, ∀ i : Fin 7, tb ((n.val : Nat) : Int) i.val = false → ((n.val : Nat) : Int) + pw i.val = bits .or .i64 (bits .andNot .i64 ((n.val : Nat) : Int) (pw i.val)) (pw i.val) := by decide +kernel
  obtain ⟨a, rfl⟩ := hx.fin
  exact this a ⟨i, hi⟩ h
theorem clear_pw {x : Int} (hx : In7 x) {i : Nat} (hi : i < 7) (h : tb x i = false) : bits .andNot .i64 x (pw i) = x := by
  have : ∀ n : Fin 128, ∀ i : Fin 7, tb ((n.val : Nat) : Int) i.val = false → bits .andNot .i64 ((n.val : Nat) : Int) (pw i.val) = ((n.val : Nat) : Int) := by decide +kernel
  obtain ⟨a, rfl⟩ := hx.fin
  exact this a ⟨i, hi⟩ h

/-! ### how a program asks for a bit -/
theorem has_pw (x : Int) {i : Nat} (hi : i < 7) : (bits .and .i64 x (pw i) != 0) = tb x i := by
  have h1 : ∀ i : Fin 7, BitVec.ofInt 64 (pw i.val) = BitVec.twoPow 64 i.val := by decide +kernel
  have h2 : ∀ i : Fin 7, (IntKind.i64.wrap ((BitVec.twoPow 64 i.val).toNat : Int) != 0) = true := by decide +kernel
  unfold bits tb
  show (IntKind.i64.wrap ((BitVec.ofInt 64 x &&& BitVec.ofInt 64 (pw i)).toNat : Int) != 0) = _
  rw [h1 ⟨i, hi⟩, BitVec.and_twoPow]
  cases hb : (BitVec.ofInt 64 x).getLsbD i
  · rw [if_neg (by simp)]; rfl
  · rw [if_pos rfl]; exact h2 ⟨i, hi⟩

/-! ### how many -/
def cnt (x : Int) : Nat := (tb x 0).toNat + (tb x 1).toNat + (tb x 2).toNat + (tb x 3).toNat + (tb x 4).toNat + (tb x 5).toNat + (tb x 6).toNat
def cntTo (x : Int) : Nat → Nat
  | 0 => 0
  | k + 1 => cntTo x k + (tb x k).toNat
theorem cntTo_7 (x : Int) : cntTo x 7 = cnt x := by simp only [cntTo, cnt]; omega
theorem cntTo_le (x : Int) (k : Nat) : cntTo x k ≤ k := by
  induction k with
  | zero => exact Nat.le_refl _
  | succ k ih => have := Bool.toNat_le (tb x k); simp only [cntTo]; omega

theorem cnt_le (x : Int) : cnt x ≤ 7 := by rw [← cntTo_7]; exact cntTo_le x 7
/-! ### configurations -/
structure C where
  f : Int
  w : Int
  l : Int
  x : Int
deriving DecidableEq
def C.zero : C := ⟨0, 0, 0, 0⟩
@[reducible] def C.val (c : C) : Value := .agg #[.int .i64 c.f, .int .i64 c.w, .int .i64 c.l, .int .i64 c.x]
def C.vot (c : C) : Int := bits .or .i64 c.f c.w
def C.all (c : C) : Int := bits .or .i64 (bits .or .i64 (bits .or .i64 c.f c.w) c.l) c.x
def quo (c : C) (b : Int) : Bool := decide (cnt c.vot < 2 * cnt (bits .and .i64 c.vot b))
/-- the kind of node i: 0 none, 1 full, 2 wit, 3 learn, 4 learnwit -/
def C.kd (c : C) (i : Nat) : Nat := if tb c.f i then 1 else if tb c.w i then 2 else if tb c.l i then 3 else if tb c.x i then 4 else 0
def C.kind (c : C) (i : Int) : Nat := if 0 ≤ i ∧ i ≤ 6 then c.kd i.toNat else 0
def kname (k : Nat) : ByteArray := if k = 1 then ⟨#[102, 117, 108, 108]⟩ else if k = 2 then ⟨#[119, 105, 116]⟩ else if k = 3 then ⟨#[108, 101, 97, 114, 110]⟩ else if k = 4 then ⟨#[108, 101, 97, 114, 110, 119, 105, 116]⟩ else ⟨#[]⟩
/-- no two of four -/
def apart (a b c d : Bool) : Bool := !(a && b) && !((a || b) && c) && !((a || b || c) && d)
def C.apt (c : C) (i : Nat) : Bool := apart (tb c.f i) (tb c.w i) (tb c.l i) (tb c.x i)
structure C.Ok (c : C) : Prop where
  f : In7 c.f
  w : In7 c.w
  l : In7 c.l
  x : In7 c.x
  ne : c.f ≠ 0
  apt : ∀ i, i < 7 → c.apt i = true
end Go.Proofs.Ytakaflbfhpalhaa.Cn
