import Derived.Test.YtjdebdfbjcpjgaaProg
import Derived.Laws.BitsAllLaws
import Derived.Laws.Bits128
import Derived.Below
import Derived.WalkKit
import Derived.Laws.ResultCell
import Derived.Deep.Quiet
import Derived.Deep.QuietTactic
import Derived.StillTailTactics
import Derived.BigGuardPart
import Derived.Lib.Hide
import Derived.BigQuiet
import Derived.LoopTactic
import Derived.Test.YtjdebdfbjcpjgaaMergeWr0
import Derived.Test.YtjdebdfbjcpjgaaMergeWr8
section
/- Plain mathematics of layer 8: numbers as bits of nodes, configurations, steps. No program. -/
namespace Go.Proofs.Ytjdebdfbjcpjgaa.Cn
open Go Go.RowKit

/-- bit i of a whole number -/
def tb (x : Int) (i : Nat) : Bool := (BitVec.ofInt 64 x).getLsbD i
theorem wrap_i64 (n : Int) : IntKind.i64.wrap n = (n + 9223372036854775808) % 18446744073709551616 - 9223372036854775808 := by
  have e : IntKind.i64.wrap n = if n % 18446744073709551616 ≥ 9223372036854775808 then n % 18446744073709551616 - 18446744073709551616 else n % 18446744073709551616 := by
    simp [IntKind.wrap, IntKind.bits, IntKind.signed]
  rw [e]
  split <;> omega
theorem ofInt_wrap (r : BitVec 64) : BitVec.ofInt 64 (IntKind.i64.wrap (r.toNat : Int)) = r := by
  apply BitVec.eq_of_toNat_eq
  have := r.isLt
  rw [BitVec.toNat_ofInt, wrap_i64]
  omega
theorem tb_and (x y : Int) (i : Nat) : tb (bits .and .i64 x y) i = (tb x i && tb y i) := by
  unfold tb bits
  show (BitVec.ofInt 64 (IntKind.i64.wrap ((BitVec.ofInt 64 x &&& BitVec.ofInt 64 y).toNat : Int))).getLsbD i = _
  rw [ofInt_wrap, BitVec.getLsbD_and]
theorem tb_or (x y : Int) (i : Nat) : tb (bits .or .i64 x y) i = (tb x i || tb y i) := by
  unfold tb bits
  show (BitVec.ofInt 64 (IntKind.i64.wrap ((BitVec.ofInt 64 x ||| BitVec.ofInt 64 y).toNat : Int))).getLsbD i = _
  rw [ofInt_wrap, BitVec.getLsbD_or]
theorem tb_xor (x y : Int) (i : Nat) : tb (bits .xor .i64 x y) i = (tb x i ^^ tb y i) := by
  unfold tb bits
  show (BitVec.ofInt 64 (IntKind.i64.wrap ((BitVec.ofInt 64 x ^^^ BitVec.ofInt 64 y).toNat : Int))).getLsbD i = _
  rw [ofInt_wrap, BitVec.getLsbD_xor]
theorem tb_andNot (x y : Int) (i : Nat) (hi : i < 64) : tb (bits .andNot .i64 x y) i = (tb x i && !tb y i) := by
  unfold tb bits
  show (BitVec.ofInt 64 (IntKind.i64.wrap ((BitVec.ofInt 64 x &&& ~~~ BitVec.ofInt 64 y).toNat : Int))).getLsbD i = _
  rw [ofInt_wrap, BitVec.getLsbD_and, BitVec.getLsbD_not]
  simp [hi]
/-- the number whose one bit is i -/
def pw (i : Nat) : Int := 2 ^ i
theorem tb_pw : ∀ i j : Fin 7, tb (pw i.val) j.val = decide (i = j) := by decide +kernel
theorem tb_m1 : ∀ i : Fin 7, tb (-1) i.val = true := by decide +kernel
theorem tb_0 (i : Nat) : tb 0 i = false := by unfold tb; simp
theorem tb_127 : ∀ i : Fin 7, tb 127 i.val = true := by decide +kernel

/-! ### numbers that are bits of nodes alone -/
def In7 (x : Int) : Prop := 0 ≤ x ∧ x ≤ 127
def sum7 (b : Nat → Bool) : Int := (b 0).toNat + 2 * (b 1).toNat + 4 * (b 2).toNat + 8 * (b 3).toNat + 16 * (b 4).toNat + 32 * (b 5).toNat + 64 * (b 6).toNat
theorem val7_all : ∀ n : Fin 128, ((n.val : Nat) : Int) = sum7 (tb ((n.val : Nat) : Int)) := by decide +kernel
theorem In7.fin {x : Int} (h : In7 x) : ∃ n : Fin 128, x = ((n.val : Nat) : Int) := ⟨⟨x.toNat, by have := h.1; have := h.2; omega⟩, by have := h.1; show x = (x.toNat : Int); omega⟩
theorem val7 {x : Int} (h : In7 x) : x = sum7 (tb x) := by
  obtain ⟨n, rfl⟩ := h.fin
  exact val7_all n
theorem ext7 {x y : Int} (hx : In7 x) (hy : In7 y) (h : ∀ i, i < 7 → tb x i = tb y i) : x = y := by
  rw [val7 hx, val7 hy]
  unfold sum7
  rw [h 0 (by omega), h 1 (by omega), h 2 (by omega), h 3 (by omega), h 4 (by omega), h 5 (by omega), h 6 (by omega)]
theorem In7.pw {i : Nat} (h : i < 7) : In7 (pw i) := by
  have : ∀ i : Fin 7, 0 ≤ Cn.pw i.val ∧ Cn.pw i.val ≤ 127 := by decide +kernel
  exact this ⟨i, h⟩
theorem and_nat (a b : Nat) (ha : a < 128) (hb : b < 128) : bits .and .i64 (a : Int) (b : Int) = ((a &&& b : Nat) : Int) := by
  have h1 : a &&& b ≤ a := Nat.and_le_left
  unfold bits
  show IntKind.i64.wrap ((BitVec.ofInt 64 a &&& BitVec.ofInt 64 b).toNat : Int) = _
  rw [BitVec.toNat_and, BitVec.toNat_ofInt, BitVec.toNat_ofInt, show ((a : Int) % (2 ^ 64 : Nat)).toNat = a by omega, show ((b : Int) % (2 ^ 64 : Nat)).toNat = b by omega, wrap_i64]
  omega
theorem or_nat (a b : Nat) (ha : a < 128) (hb : b < 128) : bits .or .i64 (a : Int) (b : Int) = ((a ||| b : Nat) : Int) := by
  have h1 : a ||| b < 2 ^ 7 := Nat.or_lt_two_pow (by omega) (by omega)
  unfold bits
  show IntKind.i64.wrap ((BitVec.ofInt 64 a ||| BitVec.ofInt 64 b).toNat : Int) = _
  rw [BitVec.toNat_or, BitVec.toNat_ofInt, BitVec.toNat_ofInt, show ((a : Int) % (2 ^ 64 : Nat)).toNat = a by omega, show ((b : Int) % (2 ^ 64 : Nat)).toNat = b by omega, wrap_i64]
  omega
theorem In7.and {x y : Int} (hx : In7 x) (hy : In7 y) : In7 (bits .and .i64 x y) := by
  obtain ⟨a, rfl⟩ := hx.fin
  obtain ⟨b, rfl⟩ := hy.fin
  rw [and_nat _ _ a.isLt b.isLt]
  have h1 : a.val &&& b.val ≤ a.val := Nat.and_le_left
  have := a.isLt
  exact ⟨by omega, by omega⟩
theorem In7.or {x y : Int} (hx : In7 x) (hy : In7 y) : In7 (bits .or .i64 x y) := by
  obtain ⟨a, rfl⟩ := hx.fin
  obtain ⟨b, rfl⟩ := hy.fin
  rw [or_nat _ _ a.isLt b.isLt]
  have h1 : a.val ||| b.val < 2 ^ 7 := Nat.or_lt_two_pow (by have := a.isLt; omega) (by have := b.isLt; omega)
  exact ⟨by omega, by omega⟩
theorem In7.andNot_pw {x : Int} (hx : In7 x) {i : Nat} (hi : i < 7) : In7 (bits .andNot .i64 x (Cn.pw i)) := by
  have : ∀ n : Fin 128, ∀ i : Fin 7, 0 ≤ bits .andNot .i64 ((n.val : Nat) : Int) (Cn.pw i.val) ∧ bits .andNot .i64 ((n.val : Nat) : Int) (Cn.pw i.val) ≤ 127 := by decide +kernel
  obtain ⟨a, rfl⟩ := hx.fin
  exact this a ⟨i, hi⟩
theorem In7.zero : In7 0 := ⟨by omega, by omega⟩
theorem and_zero {x y : Int} (hx : In7 x) (hy : In7 y) : bits .and .i64 x y = 0 ↔ ∀ i, i < 7 → (tb x i && tb y i) = false := by
  constructor
  · intro h i _
    rw [← tb_and, h, tb_0]
  · intro h
    exact ext7 (hx.and hy) In7.zero (fun i hi => by rw [tb_and, h i hi, tb_0])
theorem ne_zero {x : Int} (hx : In7 x) : x ≠ 0 ↔ ∃ i, i < 7 ∧ tb x i = true := by
  constructor
  · intro h
    by_cases hn : ∃ i, i < 7 ∧ tb x i = true
    · exact hn
    · exact absurd (ext7 hx In7.zero (fun i hi => by
        rw [tb_0]
        cases hb : tb x i
        · rfl
        · exact absurd ⟨i, hi, hb⟩ hn)) h
  · rintro ⟨i, _, hb⟩ rfl
    rw [tb_0] at hb
    cases hb
/-- taken away, added: the reference's sums -/
theorem sub_pw {x : Int} (hx : In7 x) {i : Nat} (hi : i < 7) (h : tb x i = true) : x - pw i = bits .andNot .i64 x (pw i) := by
  have : ∀ n : Fin 128, ∀ i : Fin 7, tb ((n.val : Nat) : Int) i.val = true → ((n.val : Nat) : Int) - pw i.val = bits .andNot .i64 ((n.val : Nat) : Int) (pw i.val) := by decide +kernel
  obtain ⟨a, rfl⟩ := hx.fin
  exact this a ⟨i, hi⟩ h
theorem add_pw {x : Int} (hx : In7 x) {i : Nat} (hi : i < 7) (h : tb x i = false) : x + pw i = bits .or .i64 (bits .andNot .i64 x (pw i)) (pw i) := by
  have : ∀ n : Fin 128, ∀ i : Fin 7, tb ((n.val : Nat) : Int) i.val = false → ((n.val : Nat) : Int) + pw i.val = bits .or .i64 (bits .andNot .i64 ((n.val : Nat) : Int) (pw i.val)) (pw i.val) := by decide +kernel
  obtain ⟨a, rfl⟩ := hx.fin
  exact this a ⟨i, hi⟩ h
theorem clear_pw {x : Int} (hx : In7 x) {i : Nat} (hi : i < 7) (h : tb x i = false) : bits .andNot .i64 x (pw i) = x := by
  have : ∀ n : Fin 128, ∀ i : Fin 7, tb ((n.val : Nat) : Int) i.val = false → bits .andNot .i64 ((n.val : Nat) : Int) (pw i.val) = ((n.val : Nat) : Int) := by decide +kernel
  obtain ⟨a, rfl⟩ := hx.fin
  exact this a ⟨i, hi⟩ h

/-! ### how a program asks for a bit -/
theorem has_pw (x : Int) {i : Nat} (hi : i < 7) : (bits .and .i64 x (pw i) != 0) = tb x i := by
  have h1 : ∀ i : Fin 7, BitVec.ofInt 64 (pw i.val) = BitVec.twoPow 64 i.val := by decide +kernel
  have h2 : ∀ i : Fin 7, (IntKind.i64.wrap ((BitVec.twoPow 64 i.val).toNat : Int) != 0) = true := by decide +kernel
  unfold bits tb
  show (IntKind.i64.wrap ((BitVec.ofInt 64 x &&& BitVec.ofInt 64 (pw i)).toNat : Int) != 0) = _
  rw [h1 ⟨i, hi⟩, BitVec.and_twoPow]
  cases hb : (BitVec.ofInt 64 x).getLsbD i
  · rw [if_neg (by simp)]; rfl
  · rw [if_pos rfl]; exact h2 ⟨i, hi⟩

/-! ### how many -/
def cnt (x : Int) : Nat := (tb x 0).toNat + (tb x 1).toNat + (tb x 2).toNat + (tb x 3).toNat + (tb x 4).toNat + (tb x 5).toNat + (tb x 6).toNat
def cntTo (x : Int) : Nat → Nat
  | 0 => 0
  | k + 1 => cntTo x k + (tb x k).toNat
theorem cntTo_7 (x : Int) : cntTo x 7 = cnt x := by simp only [cntTo, cnt]; omega
theorem cntTo_le (x : Int) (k : Nat) : cntTo x k ≤ k := by
  induction k with
  | zero => exact Nat.le_refl _
  | succ k ih => have := Bool.toNat_le (tb x k); simp only [cntTo]; omega

theorem cnt_le (x : Int) : cnt x ≤ 7 := by rw [← cntTo_7]; exact cntTo_le x 7
/-! ### configurations -/
structure C where
  f : Int
  w : Int
  l : Int
  x : Int
deriving DecidableEq
def C.zero : C := ⟨0, 0, 0, 0⟩
@[reducible] def C.val (c : C) : Value := .agg #[.int .i64 c.f, .int .i64 c.w, .int .i64 c.l, .int .i64 c.x]
def C.vot (c : C) : Int := bits .or .i64 c.f c.w
def C.all (c : C) : Int := bits .or .i64 (bits .or .i64 (bits .or .i64 c.f c.w) c.l) c.x
def quo (c : C) (b : Int) : Bool := decide (cnt c.vot < 2 * cnt (bits .and .i64 c.vot b))
/-- the kind of node i: 0 none, 1 full, 2 wit, 3 learn, 4 learnwit -/
def C.kd (c : C) (i : Nat) : Nat := if tb c.f i then 1 else if tb c.w i then 2 else if tb c.l i then 3 else if tb c.x i then 4 else 0
def C.kind (c : C) (i : Int) : Nat := if 0 ≤ i ∧ i ≤ 6 then c.kd i.toNat else 0
def kname (k : Nat) : ByteArray := if k = 1 then ⟨#[102, 117, 108, 108]⟩ else if k = 2 then ⟨#[119, 105, 116]⟩ else if k = 3 then ⟨#[108, 101, 97, 114, 110]⟩ else if k = 4 then ⟨#[108, 101, 97, 114, 110, 119, 105, 116]⟩ else ⟨#[]⟩
/-- no two of four -/
def apart (a b c d : Bool) : Bool := !(a && b) && !((a || b) && c) && !((a || b || c) && d)
def C.apt (c : C) (i : Nat) : Bool := apart (tb c.f i) (tb c.w i) (tb c.l i) (tb c.x i)
structure C.Ok (c : C) : Prop where
  f : In7 c.f
  w : In7 c.w
  l : In7 c.l
  x : In7 c.x
  ne : c.f ≠ 0
  apt : ∀ i, i < 7 → c.apt i = true
end Go.Proofs.Ytjdebdfbjcpjgaa.Cn
end
section
/- Worlds behind a world, blocks, results: for any program, no program's function. -/
namespace Go.Proofs.Ytjdebdfbjcpjgaa.Bh
open Go Go.RowKit

theorem ret_int {k : IntKind} {a b : Int} (h : a = b) : Ending.returned (.int k a) = .returned (.int k b) := by rw [h]
theorem ret_bool {a b : Bool} (h : a = b) : Ending.returned (.bool a) = .returned (.bool b) := by rw [h]
theorem ret_str {a b : ByteArray} (h : a = b) : Ending.returned (.string a) = .returned (.string b) := by rw [h]
theorem ret_val {a b : Value} (h : a = b) : Ending.returned a = .returned b := by rw [h]
theorem below_alloc (w : World) (o : Obj) : Below w.heap.size w (w.alloc o) := (Below.refl _ _).alloc (Nat.le_refl _) _
theorem below_alloc2 (w : World) (o p : Obj) : Below w.heap.size w ((w.alloc o).alloc p) := (below_alloc w o).alloc (below_alloc w o).size _
theorem below_drewN {B : Nat} {a w : World} (h : Below B a w) (n : Nat) : Below B a (w.drewN n) := ⟨h.os, h.tape, h.output, h.size, h.block⟩
theorem blw {w w1 w2 : World} (h : Below w.heap.size w w1) (k : Below w1.heap.size w1 w2) : Below w.heap.size w w2 := h.trans (k.mono h.size)
theorem heap_lt {w : World} {n : Nat} {v : Obj} (h : w.heap[n]? = some v) : n < w.heap.size := (Array.getElem?_eq_some_iff.1 h).1
theorem box_on {w w' : World} {n : Nat} {v : Obj} (h : w.heap[n]? = some v) (hb : Below w.heap.size w w') : w'.heap[n]? = some v := (hb.block n (heap_lt h)).trans h
theorem size_alloc (w : World) (o : Obj) : (w.alloc o).heap.size = w.heap.size + 1 := by simp
theorem alloc_here {w : World} {n : Nat} (o : Obj) (h : n = w.heap.size) : (w.alloc o).heap[n]? = some o := by
  subst h
  show (w.heap.push o)[w.heap.size]? = some o
  simp
theorem alloc_old {w : World} {n : Nat} {v : Obj} (o : Obj) (h : w.heap[n]? = some v) : (w.alloc o).heap[n]? = some v := box_on h (below_alloc w o)
theorem quiet_move2 {P : Program} {C : World → Prop} {a : Go.Act} {o : Oper} {K : Go.Act → Prop} {v : Value} (x : Operand) (h : o.op = .move x) (hv : a.eval x = v) (hk : K (a.put o.dst v)) : o.quiet P a C K :=
  BigFrame.quiet_move x h (hv ▸ hk)
/-- the worlds behind a world, which leave alone what there was -/
def Beh (w0 w : World) : Prop := Below w0.heap.size w0 w
theorem Beh.start (w : World) : Beh w w := Below.refl _ _
theorem Beh.on {w0 w w' : World} (h : Beh w0 w) (hb : Below w.heap.size w w') : Beh w0 w' := blw h hb
theorem Beh.alloc {w0 w : World} (h : Beh w0 w) (o : Obj) : Beh w0 (w.alloc o) := h.on (below_alloc _ _)
theorem Beh.drew {w0 w : World} (h : Beh w0 w) : Beh w0 w.drew := below_drewN h 1
theorem Beh.drewN {w0 w : World} (h : Beh w0 w) (n : Nat) : Beh w0 (w.drewN n) := below_drewN h n
theorem Beh.set {w0 w : World} (h : Beh w0 w) {b : Nat} (hb : w0.heap.size ≤ b) (i : Nat) (v : Value) : Beh w0 (w.setCell ⟨b, i, none⟩ v) := Below.setCell h hb v
theorem Beh.below {w0 w : World} (h : Beh w0 w) : Below w0.heap.size w0 w := h
theorem Beh.size {w0 w : World} (h : Beh w0 w) : w0.heap.size ≤ w.heap.size := h.below.size
theorem Beh.trans {w0 w w' : World} (h : Beh w0 w) (k : Beh w w') : Beh w0 w' := h.on k
theorem Beh.box {w0 w : World} (h : Beh w0 w) {n : Nat} {v : Obj} (hv : w0.heap[n]? = some v) : w.heap[n]? = some v := box_on hv h
theorem results_cell_one {fn : Func} {p : Tmp} {ty : TypeId} (h : fn.results = #[.cell p ty]) (tmps : Array Value) (P : Program) (w : World) :
    (results fn tmps).run P w = ((asAddr (tmps.getD p undef)).run P w).andThen fun a w₁ => (loadVar ty a).run P w₁ := by
  simp only [results, h]
  simp [Sem.run_bind, Result.andThen]
theorem cells4 {w : World} {b : Nat} {x0 x1 x2 x3 : Value} {t : TypeId} (h : w.heap[b]? = some (.cells #[x0, x1, x2, x3] t)) :
    w.cell? ⟨b, 0, none⟩ = some x0 ∧ w.cell? ⟨b, 1, none⟩ = some x1 ∧ w.cell? ⟨b, 2, none⟩ = some x2 ∧ w.cell? ⟨b, 3, none⟩ = some x3 := by
  refine ⟨?_, ?_, ?_, ?_⟩ <;> simp [World.cell?, h]
theorem cells1 {w : World} {b : Nat} {x0 : Value} {t : TypeId} (h : w.heap[b]? = some (.cells #[x0] t)) : w.cell? ⟨b, 0, none⟩ = some x0 := by simp [World.cell?, h]
theorem frozen_of {w : World} {b : Nat} {cs : Array Value} {t : TypeId} (h : w.heap[b]? = some (.cells cs t)) (j : Nat) : w.frozen? ⟨b, j, none⟩ = false := by simp [World.frozen?, h]
theorem heap_set {w : World} {b i : Nat} {cs : Array Value} {t : TypeId} (v : Value) (h : w.heap[b]? = some (.cells cs t)) : (w.setCell ⟨b, i, none⟩ v).heap[b]? = some (.cells (cs.setIfInBounds i v) t) := by
  simp [World.setCell, Array.getElem?_modify, h]
/-- two blocks of a call's own, the first two that it lays -/
structure Two (w : World) (p q : Obj) (w' : World) : Prop where
  beh : Beh w w'
  a : w'.heap[w.heap.size]? = some p
  b : w'.heap[w.heap.size + 1]? = some q
theorem Two.start (w : World) (p q : Obj) : Two w p q ((w.alloc p).alloc q) :=
  ⟨below_alloc2 w p q, alloc_old q (alloc_here p rfl), alloc_here q (by simp)⟩
theorem Two.on {w w' w'' : World} {p q : Obj} (h : Two w p q w') (hb : Below w'.heap.size w' w'') : Two w p q w'' := ⟨h.beh.on hb, box_on h.a hb, box_on h.b hb⟩
theorem Two.alloc {w w' : World} {p q : Obj} (h : Two w p q w') (o : Obj) : Two w p q (w'.alloc o) := h.on (below_alloc _ _)
theorem Two.drewN {w w' : World} {p q : Obj} (h : Two w p q w') (n : Nat) : Two w p q (w'.drewN n) := ⟨h.beh.drewN n, h.a, h.b⟩
/-- a block of four cells, all four stored -/
def set4 (w : World) (b : Nat) (x0 x1 x2 x3 : Value) : World := (((w.setCell ⟨b, 0, none⟩ x0).setCell ⟨b, 1, none⟩ x1).setCell ⟨b, 2, none⟩ x2).setCell ⟨b, 3, none⟩ x3
theorem set4_heap {w : World} {b : Nat} {a0 a1 a2 a3 x0 x1 x2 x3 : Value} {t : TypeId} (h : w.heap[b]? = some (.cells #[a0, a1, a2, a3] t)) : (set4 w b x0 x1 x2 x3).heap[b]? = some (.cells #[x0, x1, x2, x3] t) := by
  have h1 := heap_set (i := 0) x0 h
  have h2 := heap_set (i := 1) x1 h1
  have h3 := heap_set (i := 2) x2 h2
  exact heap_set (i := 3) x3 h3
theorem set4_other {w : World} {b n : Nat} {x0 x1 x2 x3 : Value} (h : n ≠ b) : (set4 w b x0 x1 x2 x3).heap[n]? = w.heap[n]? := by
  unfold set4
  rw [Below.heap_setCell _ _ _ _ h, Below.heap_setCell _ _ _ _ h, Below.heap_setCell _ _ _ _ h, Below.heap_setCell _ _ _ _ h]
theorem Beh.set4 {w0 w : World} (h : Beh w0 w) {b : Nat} (hb : w0.heap.size ≤ b) (x0 x1 x2 x3 : Value) : Beh w0 (Bh.set4 w b x0 x1 x2 x3) := (((h.set hb 0 x0).set hb 1 x1).set hb 2 x2).set hb 3 x3
theorem Two.set {w w' : World} {p : Obj} {a0 a1 a2 a3 : Value} {t : TypeId} (h : Two w p (.cells #[a0, a1, a2, a3] t) w') (x0 x1 x2 x3 : Value) : Two w p (.cells #[x0, x1, x2, x3] t) (set4 w' (w.heap.size + 1) x0 x1 x2 x3) :=
  ⟨h.beh.set4 (by omega) _ _ _ _, (set4_other (by omega)).trans h.a, set4_heap h.b⟩
theorem set4_eq (w : World) (b : Nat) (x0 x1 x2 x3 : Value) : (((w.setCell ⟨b, 0, none⟩ x0).setCell ⟨b, 1, none⟩ x1).setCell ⟨b, 2, none⟩ x2).setCell ⟨b, 3, none⟩ x3 = set4 w b x0 x1 x2 x3 := rfl
end Go.Proofs.Ytjdebdfbjcpjgaa.Bh
end
section
/- What Check tells of a configuration. No program. -/
namespace Go.Proofs.Ytjdebdfbjcpjgaa.Cn
open Go Go.RowKit Bh
attribute [local irreducible] wpQuiet
def fld (c : C) (k : Nat) : Int := if k = 0 then c.f else if k = 1 then c.w else if k = 2 then c.l else c.x
def seen (c : C) : Nat → Int
  | 0 => 0
  | k + 1 => bits .or .i64 (seen c k) (fld c k)
structure At (c : C) (k : Nat) : Prop where
  lo : 0 ≤ fld c k
  hi : fld c k ≤ 127
  no : bits .and .i64 (fld c k) (seen c k) = 0
def C.right (c : C) : Bool := decide (0 ≤ c.f ∧ c.f ≤ 127 ∧ 0 ≤ c.w ∧ c.w ≤ 127 ∧ 0 ≤ c.l ∧ c.l ≤ 127 ∧ 0 ≤ c.x ∧ c.x ≤ 127 ∧ c.f ≠ 0) && (List.range 7).all c.apt
theorem right_iff {c : C} : c.right = true ↔ c.Ok := by
  unfold C.right
  rw [Bool.and_eq_true, decide_eq_true_eq, List.all_eq_true]
  constructor
  · rintro ⟨⟨a, b, d, e, f, g, h, i, j⟩, k⟩
    exact ⟨⟨a, b⟩, ⟨d, e⟩, ⟨f, g⟩, ⟨h, i⟩, j, fun i hi => k i (List.mem_range.2 hi)⟩
  · rintro ⟨⟨a, b⟩, ⟨d, e⟩, ⟨f, g⟩, ⟨h, i⟩, j, k⟩
    exact ⟨⟨a, b, d, e, f, g, h, i, j⟩, fun i hi => k i (List.mem_range.1 hi)⟩
theorem seen_in {c : C} {k : Nat} (h : ∀ j, j < k → At c j) : In7 (seen c k) := by
  induction k with
  | zero => exact In7.zero
  | succ k ih => exact (ih (fun j hj => h j (by omega))).or ⟨(h k (by omega)).lo, (h k (by omega)).hi⟩
theorem ok_iff (c : C) : c.Ok ↔ c.f ≠ 0 ∧ ∀ k, k < 4 → At c k := by
  have s1 : ∀ i, tb (seen c 1) i = tb c.f i := fun i => by show tb (bits .or .i64 0 c.f) i = _; rw [tb_or, tb_0, Bool.false_or]
  have s2 : ∀ i, tb (seen c 2) i = (tb c.f i || tb c.w i) := fun i => by show tb (bits .or .i64 (seen c 1) c.w) i = _; rw [tb_or, s1]
  have s3 : ∀ i, tb (seen c 3) i = (tb c.f i || tb c.w i || tb c.l i) := fun i => by show tb (bits .or .i64 (seen c 2) c.l) i = _; rw [tb_or, s2]
  constructor
  · intro h
    have i1 : In7 (seen c 1) := In7.or In7.zero h.f
    have i2 : In7 (seen c 2) := i1.or h.w
    have i3 : In7 (seen c 3) := i2.or h.l
    have hp : ∀ i, i < 7 → apart (tb c.f i) (tb c.w i) (tb c.l i) (tb c.x i) = true := h.apt
    refine ⟨h.ne, fun k hk => ?_⟩
    obtain rfl | rfl | rfl | rfl : k = 0 ∨ k = 1 ∨ k = 2 ∨ k = 3 := by omega
    · exact ⟨h.f.1, h.f.2, by show bits .and .i64 c.f 0 = 0; rw [and_zero h.f In7.zero]; intro i _; rw [tb_0, Bool.and_false]⟩
    · refine ⟨h.w.1, h.w.2, ?_⟩
      show bits .and .i64 c.w (seen c 1) = 0
      rw [and_zero h.w i1]
      intro i hi
      have := hp i hi
      rw [s1]
      revert this
      cases tb c.f i <;> cases tb c.w i <;> cases tb c.l i <;> cases tb c.x i <;> decide
    · refine ⟨h.l.1, h.l.2, ?_⟩
      show bits .and .i64 c.l (seen c 2) = 0
      rw [and_zero h.l i2]
      intro i hi
      have := hp i hi
      rw [s2]
      revert this
      cases tb c.f i <;> cases tb c.w i <;> cases tb c.l i <;> cases tb c.x i <;> decide
    · refine ⟨h.x.1, h.x.2, ?_⟩
      show bits .and .i64 c.x (seen c 3) = 0
      rw [and_zero h.x i3]
      intro i hi
      have := hp i hi
      rw [s3]
      revert this
      cases tb c.f i <;> cases tb c.w i <;> cases tb c.l i <;> cases tb c.x i <;> decide
  · rintro ⟨hne, h⟩
    have i1 : In7 (seen c 1) := seen_in (fun j hj => h j (by omega))
    have i2 : In7 (seen c 2) := seen_in (fun j hj => h j (by omega))
    have i3 : In7 (seen c 3) := seen_in (fun j hj => h j (by omega))
    have f0 : In7 c.f := ⟨(h 0 (by omega)).lo, (h 0 (by omega)).hi⟩
    have f1 : In7 c.w := ⟨(h 1 (by omega)).lo, (h 1 (by omega)).hi⟩
    have f2 : In7 c.l := ⟨(h 2 (by omega)).lo, (h 2 (by omega)).hi⟩
    have f3 : In7 c.x := ⟨(h 3 (by omega)).lo, (h 3 (by omega)).hi⟩
    have n1 := (and_zero f1 i1).1 (h 1 (by omega)).no
    have n2 := (and_zero f2 i2).1 (h 2 (by omega)).no
    have n3 := (and_zero f3 i3).1 (h 3 (by omega)).no
    refine ⟨f0, f1, f2, f3, hne, fun i hi => ?_⟩
    have a1 := n1 i hi
    have a2 := n2 i hi
    have a3 := n3 i hi
    rw [s1] at a1
    rw [s2] at a2
    rw [s3] at a3
    show apart (tb c.f i) (tb c.w i) (tb c.l i) (tb c.x i) = true
    revert a1 a2 a3
    cases tb c.f i <;> cases tb c.w i <;> cases tb c.l i <;> cases tb c.x i <;> decide
end Go.Proofs.Ytjdebdfbjcpjgaa.Cn
end
section
/- Plain mathematics of layer 9: entries, logs behind a snapshot, what is put, compacted, installed. No program. -/
namespace Go.Proofs.Ytjdebdfbjcpjgaa.Lg
open Go Go.RowKit Vl Kv Ss Cn

/-! ### entries -/
structure E where
  term : Int
  kind : Int
  call : Cl
  conf : C
def E.zero : E := ⟨0, 0, Cl.zero, C.zero⟩
instance : Inhabited E := ⟨E.zero⟩
/-- the same, floats by their bits, all NaN being one -/
def Cm.same (a b : Cm) : Bool := (a.kind == b.kind) && decide (a.key = b.key) && a.old.same b.old && a.val.same b.val
def Cl.same (a b : Cl) : Bool := (a.client == b.client) && (a.seq == b.seq) && Cm.same a.cmd b.cmd
theorem Cm.same_refl (a : Cm) : Cm.same a a = true := by unfold Cm.same; simp [V.same, Nm.same]
theorem Cl.same_refl (a : Cl) : Cl.same a a = true := by unfold Cl.same; simp [Cm.same_refl]
def noCall (c : Cl) : Bool := Cl.same c Cl.zero
/-- a call that is right, as a call -/
def callOk (c : Cl) : Bool := (if mayBe c.client c.seq = true then c.cmd.right else 1) == 0
/-- right, but for its term -/
def E.right (x : E) : Bool :=
  if x.kind = 0 then noCall x.call && decide (x.conf = C.zero)
  else if x.kind = 1 then callOk x.call && decide (x.conf = C.zero)
  else if x.kind = 2 then noCall x.call && x.conf.right
  else false
/-- may entries stand behind a term, in a log of this Term? -/
def rowOk : List E → Int → Int → Bool
  | [], _, _ => true
  | x :: r, ahead, most => decide (max ahead 1 ≤ x.term) && decide (x.term ≤ most) && x.right && rowOk r x.term most

/-! ### logs -/
structure H where
  term : Int
  vote : Int
  base : Int
  bterm : Int
  conf : C
  snap : List Nat
  log : List E
def H.zero : H := ⟨0, 0, 0, 0, C.zero, [], []⟩
def numsOk (h : H) : Bool := decide (0 ≤ h.term) && decide (h.term ≤ 1099511627776) && (decide (-1 ≤ h.vote) && decide (h.vote ≤ 6)) && (decide (0 ≤ h.base) && decide (h.base ≤ 1099511627776)) && (decide (0 ≤ h.bterm) && decide (h.bterm ≤ h.term))
def baseOk (h : H) : Bool := (decide (h.base = 0) == decide (h.bterm = 0)) && (decide (h.base ≠ 0) || decide (h.snap.length = 0)) && (decide (h.snap.length ≤ 16384) && h.conf.right)
def H.right (h : H) : Bool := numsOk h && baseOk h && rowOk h.log h.bterm h.term
def H.check (h : H) : Int := if h.right = true then 0 else 6
def begin_ (c : C) : H := ⟨0, -1, 0, 0, c, [], []⟩
def H.last (h : H) : Int := h.base + h.log.length
def lastT (b : Int) : List E → Int
  | [] => b
  | x :: r => lastT x.term r
def H.lastT (h : H) : Int := Lg.lastT h.bterm h.log
/-- is there an entry of that index? -/
def H.has (h : H) (i : Int) : Bool := decide (h.base < i) && decide (i ≤ h.last)
def H.pos (h : H) (i : Int) : Nat := (i - h.base - 1).toNat
def H.entry (h : H) (i : Int) : E := if h.has i = true then h.log.getD (h.pos i) E.zero else E.zero
def H.termOf (h : H) (i : Int) : Int := if i = h.base then h.bterm else if h.has i = true then (h.log.getD (h.pos i) E.zero).term else -1
def H.from_ (h : H) (i most : Int) : List E := if h.has i = true ∧ 1 ≤ most then (h.log.drop (h.pos i)).take most.toNat else []
/-- the configuration in force up to an index: behind k entries -/
def forceK (h : H) (upto : Int) : Nat → C × Int
  | 0 => (h.conf, h.base)
  | k + 1 => if (h.log.getD k E.zero).kind = 2 ∧ h.base + k + 1 ≤ upto then ((h.log.getD k E.zero).conf, h.base + k + 1) else forceK h upto k
def H.force (h : H) (upto : Int) : C × Int := forceK h upto h.log.length
def H.fits (h : H) (i t : Int) : Bool := (t != -1) && (h.termOf i == t)
def H.newer (h : H) (i t : Int) : Bool := decide (h.lastT < t) || (t == h.lastT) && decide (h.last ≤ i)
/-- how many of l stand there already, by their terms -/
def there : List E → List E → Nat
  | x :: r, y :: s => if y.term = x.term then there r s + 1 else 0
  | _, _ => 0
def putL (L : List E) (n : Nat) (l : List E) : List E :=
  (if there (L.drop n) l < l.length then L.take (n + there (L.drop n) l) else L) ++ l.drop (there (L.drop n) l)
def H.off (h : H) (i : Int) : Nat := (i - h.base).toNat
def H.putOk (h : H) (i : Int) (l : List E) : Int := if h.right = false then 6 else if (h.termOf i == -1) || !rowOk l (h.termOf i) h.term then 1 else 0
def H.put (h : H) (i : Int) (l : List E) : H := if h.putOk i l = 0 then { h with log := putL h.log (h.off i) l } else H.zero
def H.instOk (h : H) (i t : Int) (c : C) (s : List Nat) : Int :=
  if h.right = false then 6 else if !(decide (h.base + 1 ≤ i) && decide (i ≤ 1099511627776)) || !(decide (max h.bterm 1 ≤ t) && decide (t ≤ h.term)) then 1 else if c.right = false then 14 else if 16384 < s.length then 2 else 0
def H.inst (h : H) (i t : Int) (c : C) (s : List Nat) : H :=
  if h.instOk i t c s = 0 then ⟨h.term, h.vote, i, t, c, s, if h.fits i t = true then h.log.drop (h.off i) else []⟩ else H.zero
def H.compOk (h : H) (i : Int) (s : List Nat) : Int := if h.right = false then 6 else if !(h.has i) || decide (1099511627776 < i) then 1 else if 16384 < s.length then 2 else 0
def H.comp (h : H) (i : Int) (s : List Nat) : H :=
  if h.compOk i s = 0 then ⟨h.term, h.vote, i, h.termOf i, (h.force i).1, s, h.log.drop (h.off i)⟩ else H.zero
end Go.Proofs.Ytjdebdfbjcpjgaa.Lg
end
section
/- Plain mathematics of layer 10: values, commands, calls, configurations, entries, logs, messages as codes. No program. -/
namespace Go.Proofs.Ytjdebdfbjcpjgaa.Wr
open Go Go.RowKit Vl Kv Ss Cn Mem Lg
variable {α β : Type}
/-- some things of another kind -/
def Cod.emb (A : Cod α) (f : α → β) (g : β → α) (hg : ∀ a, A.ok a → g (f a) = a) : Cod β where
  enc y := A.enc (g y)
  rd l := match A.rd l with
    | none => none
    | some (a, r) => some (f a, r)
  ok y := A.ok (g y) ∧ f (g y) = y
  sound l h8 y r h := by
    cases ha : A.rd l with
    | none => rw [ha] at h; cases h
    | some p =>
      obtain ⟨a, q⟩ := p
      rw [ha] at h
      simp only at h
      injection h with h
      injection h with h1 h2
      subst h1 h2
      obtain ⟨e1, o1⟩ := A.sound l h8 a q ha
      rw [hg a o1]
      exact ⟨e1, o1, rfl⟩
  comp y r h := by
    rw [A.comp (g y) r h.1]
    simp only
    rw [h.2]
theorem bl_lb {t : List Nat} (h : B8 t) : bl (lb t) = t := by
  unfold bl lb
  show (List.map UInt8.ofNat t).map UInt8.toNat = t
  rw [List.map_map]
  conv => rhs; rw [← List.map_id t]
  refine List.map_congr_left fun x hx => ?_
  have : x < 256 := h x hx
  show (UInt8.ofNat x).toNat = x
  rw [UInt8.toNat_ofNat']
  omega
def cKey : Cod ByteArray := cText.emb lb bl fun _ h => bl_lb h.2
def valPart (k : Int) : Cod (Nat × ByteArray) := if k = 1 then cFlt.emb (fun x => (x, ⟨#[]⟩)) Prod.fst (fun _ _ => rfl) else if k = 2 then cKey.emb (fun t => (0, t)) Prod.snd (fun _ _ => rfl) else if k = 0 then Cod.one (0, ⟨#[]⟩) else Cod.non
def cVal : Cod V := (cInt.sel valPart).as (fun x => ⟨x.1, x.2.1, x.2.2⟩) (fun v => (v.kind, v.num, v.text)) (fun _ => rfl) (fun _ => rfl)
theorem cVal_enc (v : V) : cVal.enc v = valB v := by
  show Pk.intB v.kind ++ (valPart v.kind).enc (v.num, v.text) = _
  unfold valB valPart
  congr 1
  by_cases h1 : v.kind = 1
  · rw [if_pos h1, if_pos h1]; rfl
  · rw [if_neg h1, if_neg h1]
    by_cases h2 : v.kind = 2
    · rw [if_pos h2, if_pos h2]; rfl
    · rw [if_neg h2, if_neg h2]
      split <;> rfl
def cCmd : Cod Cm := (cInt.seq (cKey.seq (cVal.seq cVal))).as (fun x => ⟨x.1, x.2.1, x.2.2.1, x.2.2.2⟩) (fun c => (c.kind, c.key, c.old, c.val)) (fun _ => rfl) (fun _ => rfl)
def cCall : Cod Cl := (cInt.seq (cInt.seq cCmd)).as (fun x => ⟨x.1, x.2.1, x.2.2⟩) (fun c => (c.client, c.seq, c.cmd)) (fun _ => rfl) (fun _ => rfl)
def cConf : Cod C := (cInt.seq (cInt.seq (cInt.seq cInt))).as (fun x => ⟨x.1, x.2.1, x.2.2.1, x.2.2.2⟩) (fun c => (c.f, c.w, c.l, c.x)) (fun _ => rfl) (fun _ => rfl)
def entPart (k : Int) : Cod (Cl × C) := if k = 1 then cCall.emb (fun c => (c, C.zero)) Prod.fst (fun _ _ => rfl) else if k = 2 then cConf.emb (fun c => (Cl.zero, c)) Prod.snd (fun _ _ => rfl) else if k = 0 then Cod.one (Cl.zero, C.zero) else Cod.non
def cEnt : Cod E := ((cInt.seq cInt).sel (fun x => entPart x.2)).as (fun x => ⟨x.1.1, x.1.2, x.2.1, x.2.2⟩) (fun e => ((e.term, e.kind), e.call, e.conf)) (fun _ => rfl) (fun _ => rfl)
/-- a list: how many, and these; P: how many there may be -/
def cList (A : Cod α) (P : Int → Bool) : Cod (List α) := (cInt.sel (fun n => if 0 ≤ n ∧ P n = true then A.rep n.toNat else Cod.non)).emb Prod.snd (fun L => ((L.length : Int), L)) fun x h => by
  obtain ⟨n, L⟩ := x
  have h2 := h.2
  by_cases hn : 0 ≤ n ∧ P n = true
  · simp only [if_pos hn] at h2
    have := (rep_ok.1 h2).1
    have e : (L.length : Int) = n := by omega
    simp only [e]
  · simp only [if_neg hn] at h2
    exact (h2 : False).elim
theorem cList_enc (A : Cod α) {P : Int → Bool} {L : List α} (h : P L.length = true) : (cList A P).enc L = Pk.intB L.length ++ L.flatMap A.enc := by
  show Pk.intB L.length ++ (if 0 ≤ (L.length : Int) ∧ P L.length = true then A.rep (L.length : Int).toNat else Cod.non).enc L = _
  rw [if_pos ⟨by omega, h⟩, rep_enc (by simp)]
theorem cList_ok (A : Cod α) {P : Int → Bool} {L : List α} : (cList A P).ok L ↔ In64 L.length ∧ P L.length = true ∧ ∀ x ∈ L, A.ok x := by
  show ((In64 L.length ∧ (if 0 ≤ (L.length : Int) ∧ P L.length = true then A.rep (L.length : Int).toNat else Cod.non).ok L) ∧ L = L) ↔ _
  by_cases h : P L.length = true
  · rw [if_pos ⟨by omega, h⟩, rep_ok]
    exact ⟨fun x => ⟨x.1.1, h, x.1.2.2⟩, fun x => ⟨⟨x.1, by simp, x.2.2⟩, rfl⟩⟩
  · rw [if_neg (fun x => h x.2)]
    exact ⟨fun x => (x.1.2 : False).elim, fun x => absurd x.2.1 h⟩
def cHard : Cod H := (cInt.seq (cInt.seq (cInt.seq (cInt.seq (cConf.seq (cText.seq (cList cEnt (fun _ => true)))))))).as
  (fun x => ⟨x.1, x.2.1, x.2.2.1, x.2.2.2.1, x.2.2.2.2.1, x.2.2.2.2.2.1, x.2.2.2.2.2.2⟩) (fun h => (h.term, h.vote, h.base, h.bterm, h.conf, h.snap, h.log)) (fun _ => rfl) (fun _ => rfl)
/-- a message but for its inner ones -/
structure Fl where
  kind : Int
  from_ : Int
  to : Int
  term : Int
  index : Int
  logt : Int
  commit : Int
  round : Int
  yes : Bool
  ents : List E
  conf : C
  snap : List Nat
def cHead : Cod Fl := (cInt.seq (cInt.seq (cInt.seq (cInt.seq (cInt.seq (cInt.seq (cInt.seq (cInt.seq (cMark.seq ((cList cEnt (fun n => decide (n ≤ 8))).seq (cConf.seq cText))))))))))).as
  (fun x => ⟨x.1, x.2.1, x.2.2.1, x.2.2.2.1, x.2.2.2.2.1, x.2.2.2.2.2.1, x.2.2.2.2.2.2.1, x.2.2.2.2.2.2.2.1, x.2.2.2.2.2.2.2.2.1, x.2.2.2.2.2.2.2.2.2.1, x.2.2.2.2.2.2.2.2.2.2.1, x.2.2.2.2.2.2.2.2.2.2.2⟩)
  (fun m => (m.kind, m.from_, m.to, m.term, m.index, m.logt, m.commit, m.round, m.yes, m.ents, m.conf, m.snap)) (fun _ => rfl) (fun _ => rfl)
/-- a number that is nought -/
def cNone : Cod Unit := (cInt.sel (fun n => if n = 0 then Cod.one () else Cod.non)).emb (fun _ => ()) (fun _ => (0, ())) fun x h => by
  obtain ⟨n, u⟩ := x
  have h2 := h.2
  by_cases hn : n = 0
  · subst hn; rfl
  · simp only [if_neg hn] at h2
    exact (h2 : False).elim
def cInner : Cod Fl := (cHead.seq cNone).as (fun x => x.1) (fun m => (m, ())) (fun _ => rfl) (fun _ => rfl)
structure Me where
  head : Fl
  inner : List Fl
def cMsg : Cod Me := (cHead.seq (cList cInner (fun n => decide (n ≤ 16)))).as (fun x => ⟨x.1, x.2⟩) (fun m => (m.head, m.inner)) (fun _ => rfl) (fun _ => rfl)

/-! ### all bytes -/
def Cod.all (A : Cod α) (b : List Nat) : Option α := match A.rd b with
  | some (x, []) => if b.length ≤ 16384 then some x else none
  | _ => none
theorem all_enc (A : Cod α) {x : α} (h : A.ok x) (hl : (A.enc x).length ≤ 16384) : A.all (A.enc x) = some x := by
  unfold Cod.all
  have := A.comp x [] h
  rw [List.append_nil] at this
  rw [this]
  simp only
  rw [if_pos hl]
theorem all_sound (A : Cod α) {b : List Nat} {x : α} (h8 : B8 b) (h : A.all b = some x) : b = A.enc x ∧ A.ok x ∧ b.length ≤ 16384 := by
  unfold Cod.all at h
  cases hd : A.rd b with
  | none => rw [hd] at h; cases h
  | some p =>
    obtain ⟨y, r⟩ := p
    rw [hd] at h
    cases r with
    | cons z s => simp at h
    | nil =>
      simp only at h
      by_cases hl : b.length ≤ 16384
      · rw [if_pos hl] at h
        injection h with h
        subst h
        obtain ⟨e, o⟩ := A.sound b h8 y [] hd
        exact ⟨by rw [List.append_nil] at e; exact e, o, hl⟩
      · rw [if_neg hl] at h; cases h
theorem enc_inj (A : Cod α) {x y : α} (hx : A.ok x) (hy : A.ok y) {d : List Nat} (e : A.enc x ++ d = A.enc y) : x = y ∧ d = [] := by
  have h1 := A.comp x d hx
  have h2 := A.comp y [] hy
  rw [List.append_nil] at h2
  rw [e, h2] at h1
  injection h1 with h1
  injection h1 with h1 h3
  exact ⟨h1.symm, h3.symm⟩
/-- a strict beginning, and something more, is none -/
theorem all_cut (A : Cod α) {x : α} (hx : A.ok x) {c d : List Nat} (h8 : B8 c) (e : c ++ d = A.enc x) (hd : d ≠ []) : A.all c = none := by
  cases h : A.all c with
  | none => rfl
  | some y =>
    obtain ⟨e2, o, _⟩ := all_sound A h8 h
    rw [e2] at e
    exact absurd (enc_inj A o hx e).2 hd
theorem all_more (A : Cod α) {x : α} (hx : A.ok x) {d : List Nat} (h8 : B8 (A.enc x ++ d)) (hd : d ≠ []) : A.all (A.enc x ++ d) = none := by
  cases h : A.all (A.enc x ++ d) with
  | none => rfl
  | some y =>
    obtain ⟨e2, o, _⟩ := all_sound A h8 h
    exact absurd (enc_inj A hx o e2).2 hd
end Go.Proofs.Ytjdebdfbjcpjgaa.Wr
end
