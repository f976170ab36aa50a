import Derived.Test.YtaengjgmchpabaaGreatMergeWr7
import Derived.Test.YtaengjgmchpabaaGreatProg
import Derived.Laws.BitsAllLaws
import Derived.Laws.Bits128
import Derived.Below
import Derived.WalkKit
import Derived.Laws.ResultCell
import Derived.Deep.Quiet
import Derived.Deep.QuietTactic
import Derived.StillTailTactics
import Derived.BigGuardPart
import Derived.Lib.Hide
import Derived.BigQuiet
import Derived.LoopTactic
section
/- Codes: what is written, and a reading that finds just what was written; how they are put together. Plain; no program. -/
namespace Go.Proofs.YtaengjgmchpabaaGreat.Wr
open Go Go.RowKit Vl Kv Ss Mem
theorem b8_right {a b l : List Nat} (h : B8 l) (e : l = a ++ b) : B8 b := fun x hx => h x (by rw [e]; exact List.mem_append_right _ hx)
/-- a code: a writing, a reading of it (none: bytes that are no such thing), and what may be written -/
structure Cod (α : Type) where
  enc : α → List Nat
  rd : List Nat → Option (α × List Nat)
  ok : α → Prop
  sound : ∀ l, B8 l → ∀ x r, rd l = some (x, r) → l = enc x ++ r ∧ ok x
  comp : ∀ x r, ok x → rd (enc x ++ r) = some (x, r)
variable {α β : Type}
/-- one behind the other -/
def Cod.seq (A : Cod α) (B : Cod β) : Cod (α × β) where
  enc x := A.enc x.1 ++ B.enc x.2
  rd l := match A.rd l with
    | none => none
    | some (a, q) => match B.rd q with
      | none => none
      | some (b, r) => some ((a, b), r)
  ok x := A.ok x.1 ∧ B.ok x.2
  sound l h8 x r h := by
    cases ha : A.rd l with
    | none => rw [ha] at h; cases h
    | some p =>
      obtain ⟨a, q⟩ := p
      rw [ha] at h
      simp only at h
      obtain ⟨e1, o1⟩ := A.sound l h8 a q ha
      cases hb : B.rd q with
      | none => rw [hb] at h; cases h
      | some p2 =>
        obtain ⟨b, r2⟩ := p2
        rw [hb] at h
        simp only at h
        injection h with h
        injection h with h1 h2
        subst h1 h2
        obtain ⟨e2, o2⟩ := B.sound q (b8_right h8 e1) b r2 hb
        exact ⟨by rw [e1, e2, List.append_assoc], o1, o2⟩
  comp x r h := by
    rw [List.append_assoc, A.comp x.1 _ h.1]
    simp only
    rw [B.comp x.2 r h.2]
/-- the same things under other names -/
def Cod.as (A : Cod α) (f : α → β) (g : β → α) (hf : ∀ b, f (g b) = b) (hg : ∀ a, g (f a) = a) : Cod β where
  enc y := A.enc (g y)
  rd l := match A.rd l with
    | none => none
    | some (a, r) => some (f a, r)
  ok y := A.ok (g y)
  sound l h8 y r h := by
    cases ha : A.rd l with
    | none => rw [ha] at h; cases h
    | some p =>
      obtain ⟨a, q⟩ := p
      rw [ha] at h
      simp only at h
      injection h with h
      injection h with h1 h2
      subst h1 h2
      obtain ⟨e1, o1⟩ := A.sound l h8 a q ha
      rw [hg]
      exact ⟨e1, o1⟩
  comp y r h := by
    rw [A.comp (g y) r h]
    simp only
    rw [hf]
/-- what is read first says how to go on -/
def Cod.sel (A : Cod α) (B : α → Cod β) : Cod (α × β) where
  enc x := A.enc x.1 ++ (B x.1).enc x.2
  rd l := match A.rd l with
    | none => none
    | some (a, q) => match (B a).rd q with
      | none => none
      | some (b, r) => some ((a, b), r)
  ok x := A.ok x.1 ∧ (B x.1).ok x.2
  sound l h8 x r h := by
    cases ha : A.rd l with
    | none => rw [ha] at h; cases h
    | some p =>
      obtain ⟨a, q⟩ := p
      rw [ha] at h
      simp only at h
      obtain ⟨e1, o1⟩ := A.sound l h8 a q ha
      cases hb : (B a).rd q with
      | none => rw [hb] at h; cases h
      | some p2 =>
        obtain ⟨b, r2⟩ := p2
        rw [hb] at h
        simp only at h
        injection h with h
        injection h with h1 h2
        subst h1 h2
        obtain ⟨e2, o2⟩ := (B a).sound q (b8_right h8 e1) b r2 hb
        exact ⟨by rw [e1, e2, List.append_assoc], o1, o2⟩
  comp x r h := by
    rw [List.append_assoc, A.comp x.1 _ h.1]
    simp only
    rw [(B x.1).comp x.2 r h.2]
/-- nothing is written of one thing alone -/
def Cod.one (c : α) : Cod α where
  enc _ := []
  rd l := some (c, l)
  ok x := x = c
  sound l _ x r h := by
    injection h with h
    injection h with h1 h2
    subst h1 h2
    exact ⟨rfl, rfl⟩
  comp x r h := by subst h; rfl
/-- nothing may be written -/
def Cod.non : Cod α where
  enc _ := []
  rd _ := none
  ok _ := False
  sound l _ x r h := by cases h
  comp x r h := h.elim
/-- so many of them -/
def Cod.rep (A : Cod α) : Nat → Cod (List α)
  | 0 => Cod.one []
  | n + 1 => { enc := fun L => match L with | [] => [] | x :: r => A.enc x ++ (Cod.rep A n).enc r
               rd := fun l => match A.rd l with
                 | none => none
                 | some (a, q) => match (Cod.rep A n).rd q with
                   | none => none
                   | some (L, r) => some (a :: L, r)
               ok := fun L => match L with | [] => False | x :: r => A.ok x ∧ (Cod.rep A n).ok r
               sound := fun l h8 x r h => by
                 cases ha : A.rd l with
                 | none => rw [ha] at h; cases h
                 | some p =>
                   obtain ⟨a, q⟩ := p
                   rw [ha] at h
                   simp only at h
                   obtain ⟨e1, o1⟩ := A.sound l h8 a q ha
                   cases hb : (Cod.rep A n).rd q with
                   | none => rw [hb] at h; cases h
                   | some p2 =>
                     obtain ⟨b, r2⟩ := p2
                     rw [hb] at h
                     simp only at h
                     injection h with h
                     injection h with h1 h2
                     subst h1 h2
                     obtain ⟨e2, o2⟩ := (Cod.rep A n).sound q (b8_right h8 e1) b r2 hb
                     exact ⟨by show l = (A.enc a ++ (Cod.rep A n).enc b) ++ r2; rw [e1, e2, List.append_assoc], o1, o2⟩
               comp := fun x r h => by
                 cases x with
                 | nil => exact h.elim
                 | cons y s =>
                   show (match A.rd ((A.enc y ++ (Cod.rep A n).enc s) ++ r) with | none => none | some (a, q) => match (Cod.rep A n).rd q with | none => none | some (L, r) => some (a :: L, r)) = _
                   rw [List.append_assoc, A.comp y _ h.1]
                   simp only
                   rw [(Cod.rep A n).comp s r h.2] }
theorem rep_ok {A : Cod α} {n : Nat} {L : List α} : (Cod.rep A n).ok L ↔ L.length = n ∧ ∀ x ∈ L, A.ok x := by
  induction n generalizing L with
  | zero =>
    show L = [] ↔ _
    constructor
    · rintro rfl; exact ⟨rfl, fun x hx => by cases hx⟩
    · exact fun h => List.eq_nil_of_length_eq_zero h.1
  | succ n ih =>
    cases L with
    | nil => exact ⟨fun h => (h : False).elim, fun h => by cases h.1⟩
    | cons x r =>
      show A.ok x ∧ (Cod.rep A n).ok r ↔ _
      rw [ih]
      constructor
      · rintro ⟨h1, h2, h3⟩
        exact ⟨by rw [List.length_cons, h2], fun y hy => by rcases List.mem_cons.1 hy with rfl | hy; exact h1; exact h3 y hy⟩
      · rintro ⟨h1, h2⟩
        exact ⟨h2 x (List.mem_cons_self ..), by simpa using h1, fun y hy => h2 y (List.mem_cons_of_mem _ hy)⟩
theorem rep_enc {A : Cod α} {n : Nat} {L : List α} (h : L.length = n) : (Cod.rep A n).enc L = L.flatMap A.enc := by
  induction n generalizing L with
  | zero => rw [List.eq_nil_of_length_eq_zero h]; rfl
  | succ n ih =>
    cases L with
    | nil => cases h
    | cons x r =>
      show A.enc x ++ (Cod.rep A n).enc r = _
      rw [ih (by simpa using h), List.flatMap_cons]

/-! ### numbers, marks, floats, texts -/
def In64 (n : Int) : Prop := -9223372036854775808 ≤ n ∧ n ≤ 9223372036854775807
def cInt : Cod Int where
  enc := Pk.intB
  rd := Pk.rdInt
  ok := In64
  sound l h8 x r h := by
    have := Pk.rdInt_sound h8 h
    exact ⟨this.1, this.2.1, this.2.2⟩
  comp x r h := Pk.rdInt_enc h.1 h.2 r
def cMark : Cod Bool where
  enc := Pk.markB
  rd := Pk.rdMark
  ok _ := True
  sound l h8 x r h := by
    refine ⟨?_, trivial⟩
    unfold Pk.rdMark at h
    cases l with
    | nil => cases h
    | cons b q =>
      simp only at h
      by_cases hb : 1 < b
      · rw [if_pos hb] at h; cases h
      · rw [if_neg hb] at h
        injection h with h
        injection h with h1 h2
        subst h1 h2
        rcases Nat.le_one_iff_eq_zero_or_eq_one.1 (Nat.le_of_not_lt hb) with rfl | rfl <;> rfl
  comp x r _ := Pk.rdMark_enc x r
def cFlt : Cod Nat where
  enc := Pk.fltB
  rd := Pk.rdFlt
  ok x := x < 18446744073709551616 ∧ Nm.canon x = x
  sound l h8 x r h := by
    unfold Pk.rdFlt at h
    split at h
    · cases h
    · rename_i hl
      split at h
      · rename_i hc
        injection h with h
        injection h with h1 h2
        subst h1 h2
        have h3 := Pk.high8_num8 (by rw [List.length_take]; omega) (h8.take 8)
        unfold Pk.fltB
        exact ⟨by rw [hc, h3.1, List.take_append_drop], h3.2, hc⟩
      · cases h
  comp x r h := by rw [Pk.rdFlt_enc h.1, h.2]
def rdT (l : List Nat) : Option (List Nat × List Nat) := match Pk.rdText l with | .ok x => some x | .error _ => none
def cText : Cod (List Nat) where
  enc := Pk.textB
  rd := rdT
  ok t := t.length ≤ 16384 ∧ B8 t
  sound l h8 t r h := by
    unfold rdT Pk.rdText at h
    cases hd : Pk.rdInt l with
    | none => rw [hd] at h; cases h
    | some p =>
      obtain ⟨n, q⟩ := p
      rw [hd] at h
      simp only at h
      have hs := Pk.rdInt_sound h8 hd
      by_cases hb : 16384 < n
      · rw [if_pos hb] at h; cases h
      · rw [if_neg hb] at h
        by_cases hf : n < 0 ∨ (q.length : Int) < n
        · rw [if_pos hf] at h; cases h
        · rw [if_neg hf] at h
          injection h with h
          injection h with ht hr
          subst ht hr
          have hlen : ((q.take n.toNat).length : Int) = n := by rw [List.length_take]; omega
          refine ⟨?_, by omega, (b8_right h8 hs.1).take _⟩
          unfold Pk.textB
          rw [hlen, List.append_assoc, List.take_append_drop]
          exact hs.1
  comp t r h := by
    unfold rdT
    rw [Pk.rdText_enc h.1]
end Go.Proofs.YtaengjgmchpabaaGreat.Wr
end
section
/- Plain mathematics of layer 8: numbers as bits of nodes, configurations, steps. No program. -/
namespace Go.Proofs.YtaengjgmchpabaaGreat.Cn
open Go Go.RowKit

/-- bit i of a whole number -/
def tb (x : Int) (i : Nat) : Bool := (BitVec.ofInt 64 x).getLsbD i
theorem wrap_i64 (n : Int) : IntKind.i64.wrap n = (n + 9223372036854775808) % 18446744073709551616 - 9223372036854775808 := by
  have e : IntKind.i64.wrap n = if n % 18446744073709551616 ≥ 9223372036854775808 then n % 18446744073709551616 - 18446744073709551616 else n % 18446744073709551616 := by
    simp [IntKind.wrap, IntKind.bits, IntKind.signed]
  rw [e]
  split <;> omega
theorem ofInt_wrap (r : BitVec 64) : BitVec.ofInt 64 (IntKind.i64.wrap (r.toNat : Int)) = r := by
  apply BitVec.eq_of_toNat_eq
  have := r.isLt
  rw [BitVec.toNat_ofInt, wrap_i64]
  omega
theorem tb_and (x y : Int) (i : Nat) : tb (bits .and .i64 x y) i = (tb x i && tb y i) := by
  unfold tb bits
  show (BitVec.ofInt 64 (IntKind.i64.wrap ((BitVec.ofInt 64 x &&& BitVec.ofInt 64 y).toNat : Int))).getLsbD i = _
  rw [ofInt_wrap, BitVec.getLsbD_and]
theorem tb_or (x y : Int) (i : Nat) : tb (bits .or .i64 x y) i = (tb x i || tb y i) := by
  unfold tb bits
  show (BitVec.ofInt 64 (IntKind.i64.wrap ((BitVec.ofInt 64 x ||| BitVec.ofInt 64 y).toNat : Int))).getLsbD i = _
  rw [ofInt_wrap, BitVec.getLsbD_or]
theorem tb_xor (x y : Int) (i : Nat) : tb (bits .xor .i64 x y) i = (tb x i ^^ tb y i) := by
  unfold tb bits
  show (BitVec.ofInt 64 (IntKind.i64.wrap ((BitVec.ofInt 64 x ^^^ BitVec.ofInt 64 y).toNat : Int))).getLsbD i = _
  rw [ofInt_wrap, BitVec.getLsbD_xor]
theorem tb_andNot (x y : Int) (i : Nat) (hi : i < 64) : tb (bits .andNot .i64 x y) i = (tb x i && !tb y i) := by
  unfold tb bits
  show (BitVec.ofInt 64 (IntKind.i64.wrap ((BitVec.ofInt 64 x &&& ~~~ BitVec.ofInt 64 y).toNat : Int))).getLsbD i = _
  rw [ofInt_wrap, BitVec.getLsbD_and, BitVec.getLsbD_not]
  simp [hi]
/-- the number whose one bit is i -/
def pw (i : Nat) : Int := 2 ^ i
theorem tb_pw : ∀ i j : Fin 7, tb (pw i.val) j.val = decide (i = j) := by decide +kernel
theorem tb_m1 : ∀ i : Fin 7, tb (-1) i.val = true := by decide +kernel
theorem tb_0 (i : Nat) : tb 0 i = false := by unfold tb; simp
theorem tb_127 : ∀ i : Fin 7, tb 127 i.val = true := by decide +kernel

/-! ### numbers that are bits of nodes alone -/
def In7 (x : Int) : Prop := 0 ≤ x ∧ x ≤ 127
def sum7 (b : Nat → Bool) : Int := (b 0).toNat + 2 * (b 1).toNat + 4 * (b 2).toNat + 8 * (b 3).toNat + 16 * (b 4).toNat + 32 * (b 5).toNat + 64 * (b 6).toNat
theorem val7_all : ∀ n : Fin 128, ((n.val : Nat) : Int) = sum7 (tb ((n.val : Nat) : Int)) := by decide +kernel
theorem In7.fin {x : Int} (h : In7 x) : ∃ n : Fin 128, x = ((n.val : Nat) : Int) := ⟨⟨x.toNat, by have := h.1; have := h.2; omega⟩, by have := h.1; show x = (x.toNat : Int); omega⟩
theorem val7 {x : Int} (h : In7 x) : x = sum7 (tb x) := by
  obtain ⟨n, rfl⟩ := h.fin
  exact val7_all n
theorem ext7 {x y : Int} (hx : In7 x) (hy : In7 y) (h : ∀ i, i < 7 → tb x i = tb y i) : x = y := by
  rw [val7 hx, val7 hy]
  unfold sum7
  rw [h 0 (by omega), h 1 (by omega), h 2 (by omega), h 3 (by omega), h 4 (by omega), h 5 (by omega), h 6 (by omega)]
theorem In7.pw {i : Nat} (h : i < 7) : In7 (pw i) := by
  have : ∀ i : Fin 7, 0 ≤ Cn.pw i.val ∧ Cn.pw i.val ≤ 127 := by decide +kernel
  exact this ⟨i, h⟩
theorem and_nat (a b : Nat) (ha : a < 128) (hb : b < 128) : bits .and .i64 (a : Int) (b : Int) = ((a &&& b : Nat) : Int) := by
  have h1 : a &&& b ≤ a := Nat.and_le_left
  unfold bits
  show IntKind.i64.wrap ((BitVec.ofInt 64 a &&& BitVec.ofInt 64 b).toNat : Int) = _
  rw [BitVec.toNat_and, BitVec.toNat_ofInt, BitVec.toNat_ofInt, show ((a : Int) % (2 ^ 64 : Nat)).toNat = a by omega, show ((b : Int) % (2 ^ 64 : Nat)).toNat = b by omega, wrap_i64]
  omega
theorem or_nat (a b : Nat) (ha : a < 128) (hb : b < 128) : bits .or .i64 (a : Int) (b : Int) = ((a ||| b : Nat) : Int) := by
  have h1 : a ||| b < 2 ^ 7 := Nat.or_lt_two_pow (by omega) (by omega)
  unfold bits
  show IntKind.i64.wrap ((BitVec.ofInt 64 a ||| BitVec.ofInt 64 b).toNat : Int) = _
  rw [BitVec.toNat_or, BitVec.toNat_ofInt, BitVec.toNat_ofInt, show ((a : Int) % (2 ^ 64 : Nat)).toNat = a by omega, show ((b : Int) % (2 ^ 64 : Nat)).toNat = b by omega, wrap_i64]
  omega
theorem In7.and {x y : Int} (hx : In7 x) (hy : In7 y) : In7 (bits .and .i64 x y) := by
  obtain ⟨a, rfl⟩ := hx.fin
  obtain ⟨b, rfl⟩ := hy.fin
  rw [and_nat _ _ a.isLt b.isLt]
  have h1 : a.val &&& b.val ≤ a.val := Nat.and_le_left
  have := a.isLt
  exact ⟨by omega, by omega⟩
theorem In7.or {x y : Int} (hx : In7 x) (hy : In7 y) : In7 (bits .or .i64 x y) := by
  obtain ⟨a, rfl⟩ := hx.fin
  obtain ⟨b, rfl⟩ := hy.fin
  rw [or_nat _ _ a.isLt b.isLt]
  have h1 : a.val ||| b.val < 2 ^ 7 := Nat.or_lt_two_pow (by have := a.isLt; omega) (by have := b.isLt; omega)
  exact ⟨by omega, by omega⟩
theorem In7.andNot_pw {x : Int} (hx : In7 x) {i : Nat} (hi : i < 7) : In7 (bits .andNot .i64 x (Cn.pw i)) := by
  have : ∀ n : Fin 128, ∀ i : Fin 7, 0 ≤ bits .andNot .i64 ((n.val : Nat) : Int) (Cn.pw i.val) ∧ bits .andNot .i64 ((n.val : Nat) : Int) (Cn.pw i.val) ≤ 127 := by decide +kernel
  obtain ⟨a, rfl⟩ := hx.fin
  exact this a ⟨i, hi⟩
theorem In7.zero : In7 0 := ⟨by omega, by omega⟩
theorem and_zero {x y : Int} (hx : In7 x) (hy : In7 y) : bits .and .i64 x y = 0 ↔ ∀ i, i < 7 → (tb x i && tb y i) = false := by
  constructor
  · intro h i _
    rw [← tb_and, h, tb_0]
  · intro h
    exact ext7 (hx.and hy) In7.zero (fun i hi => by rw [tb_and, h i hi, tb_0])
theorem ne_zero {x : Int} (hx : In7 x) : x ≠ 0 ↔ ∃ i, i < 7 ∧ tb x i = true := by
  constructor
  · intro h
    by_cases hn : ∃ i, i < 7 ∧ tb x i = true
    · exact hn
    · exact absurd (ext7 hx In7.zero (fun i hi => by
        rw [tb_0]
        cases hb : tb x i
        · rfl
        · exact absurd ⟨i, hi, hb⟩ hn)) h
  · rintro ⟨i, _, hb⟩ rfl
    rw [tb_0] at hb
    cases hb
/-- taken away, added: the reference's sums -/
theorem sub_pw {x : Int} (hx : In7 x) {i : Nat} (hi : i < 7) (h : tb x i = true) : x - pw i = bits .andNot .i64 x (pw i) := by
  have : ∀ n : Fin 128, ∀ i : Fin 7, tb ((n.val : Nat) : Int) i.val = true → ((n.val : Nat) : Int) - pw i.val = bits .andNot .i64 ((n.val : Nat) : Int) (pw i.val) := by decide +kernel
  obtain ⟨a, rfl⟩ := hx.fin
  exact this a ⟨i, hi⟩ h
theorem add_pw {x : Int} (hx : In7 x) {i : Nat} (hi : i < 7) (h : tb x i = false) : x + pw i = bits .or .i64 (bits .andNot .i64 x (pw i)) (pw i) := by
  have : ∀ n : Fin 128, ∀ i : Fin 7, tb ((n.val : Nat) : Int) i.val = false → ((n.val : Nat) : Int) + pw i.val = bits .or .i64 (bits .andNot .i64 ((n.val : Nat) : Int) (pw i.val)) (pw i.val) := by decide +kernel
  obtain ⟨a, rfl⟩ := hx.fin
  exact this a ⟨i, hi⟩ h
theorem clear_pw {x : Int} (hx : In7 x) {i : Nat} (hi : i < 7) (h : tb x i = false) : bits .andNot .i64 x (pw i) = x := by
  have : ∀ n : Fin 128, ∀ i : Fin 7, tb ((n.val : Nat) : Int) i.val = false → bits .andNot .i64 ((n.val : Nat) : Int) (pw i.val) = ((n.val : Nat) : Int) := by decide +kernel
  obtain ⟨a, rfl⟩ := hx.fin
  exact this a ⟨i, hi⟩ h

/-! ### how a program asks for a bit -/
theorem has_pw (x : Int) {i : Nat} (hi : i < 7) : (bits .and .i64 x (pw i) != 0) = tb x i := by
  have h1 : ∀ i : Fin 7, BitVec.ofInt 64 (pw i.val) = BitVec.twoPow 64 i.val := by decide +kernel
  have h2 : ∀ i : Fin 7, (IntKind.i64.wrap ((BitVec.twoPow 64 i.val).toNat : Int) != 0) = true := by decide +kernel
  unfold bits tb
  show (IntKind.i64.wrap ((BitVec.ofInt 64 x &&& BitVec.ofInt 64 (pw i)).toNat : Int) != 0) = _
  rw [h1 ⟨i, hi⟩, BitVec.and_twoPow]
  cases hb : (BitVec.ofInt 64 x).getLsbD i
  · rw [if_neg (by simp)]; rfl
  · rw [if_pos rfl]; exact h2 ⟨i, hi⟩

/-! ### how many -/
def cnt (x : Int) : Nat := (tb x 0).toNat + (tb x 1).toNat + (tb x 2).toNat + (tb x 3).toNat + (tb x 4).toNat + (tb x 5).toNat + (tb x 6).toNat
def cntTo (x : Int) : Nat → Nat
  | 0 => 0
  | k + 1 => cntTo x k + (tb x k).toNat
theorem cntTo_7 (x : Int) : cntTo x 7 = cnt x := by simp only [cntTo, cnt]; omega
theorem cntTo_le (x : Int) (k : Nat) : cntTo x k ≤ k := by
  induction k with
  | zero => exact Nat.le_refl _
  | succ k ih => have := Bool.toNat_le (tb x k); simp only [cntTo]; omega

theorem cnt_le (x : Int) : cnt x ≤ 7 := by rw [← cntTo_7]; exact cntTo_le x 7
/-! ### configurations -/
structure C where
  f : Int
  w : Int
  l : Int
  x : Int
deriving DecidableEq
def C.zero : C := ⟨0, 0, 0, 0⟩
@[reducible] def C.val (c : C) : Value := .agg #[.int .i64 c.f, .int .i64 c.w, .int .i64 c.l, .int .i64 c.x]
def C.vot (c : C) : Int := bits .or .i64 c.f c.w
def C.all (c : C) : Int := bits .or .i64 (bits .or .i64 (bits .or .i64 c.f c.w) c.l) c.x
def quo (c : C) (b : Int) : Bool := decide (cnt c.vot < 2 * cnt (bits .and .i64 c.vot b))
/-- the kind of node i: 0 none, 1 full, 2 wit, 3 learn, 4 learnwit -/
def C.kd (c : C) (i : Nat) : Nat := if tb c.f i then 1 else if tb c.w i then 2 else if tb c.l i then 3 else if tb c.x i then 4 else 0
def C.kind (c : C) (i : Int) : Nat := if 0 ≤ i ∧ i ≤ 6 then c.kd i.toNat else 0
def kname (k : Nat) : ByteArray := if k = 1 then ⟨#[102, 117, 108, 108]⟩ else if k = 2 then ⟨#[119, 105, 116]⟩ else if k = 3 then ⟨#[108, 101, 97, 114, 110]⟩ else if k = 4 then ⟨#[108, 101, 97, 114, 110, 119, 105, 116]⟩ else ⟨#[]⟩
/-- no two of four -/
def apart (a b c d : Bool) : Bool := !(a && b) && !((a || b) && c) && !((a || b || c) && d)
def C.apt (c : C) (i : Nat) : Bool := apart (tb c.f i) (tb c.w i) (tb c.l i) (tb c.x i)
structure C.Ok (c : C) : Prop where
  f : In7 c.f
  w : In7 c.w
  l : In7 c.l
  x : In7 c.x
  ne : c.f ≠ 0
  apt : ∀ i, i < 7 → c.apt i = true
end Go.Proofs.YtaengjgmchpabaaGreat.Cn
end
section
/- Worlds behind a world, blocks, results: for any program, no program's function. -/
namespace Go.Proofs.YtaengjgmchpabaaGreat.Bh
open Go Go.RowKit

theorem ret_int {k : IntKind} {a b : Int} (h : a = b) : Ending.returned (.int k a) = .returned (.int k b) := by rw [h]
theorem ret_bool {a b : Bool} (h : a = b) : Ending.returned (.bool a) = .returned (.bool b) := by rw [h]
theorem ret_str {a b : ByteArray} (h : a = b) : Ending.returned (.string a) = .returned (.string b) := by rw [h]
theorem ret_val {a b : Value} (h : a = b) : Ending.returned a = .returned b := by rw [h]
theorem below_alloc (w : World) (o : Obj) : Below w.heap.size w (w.alloc o) := (Below.refl _ _).alloc (Nat.le_refl _) _
theorem below_alloc2 (w : World) (o p : Obj) : Below w.heap.size w ((w.alloc o).alloc p) := (below_alloc w o).alloc (below_alloc w o).size _
theorem below_drewN {B : Nat} {a w : World} (h : Below B a w) (n : Nat) : Below B a (w.drewN n) := ⟨h.os, h.tape, h.output, h.size, h.block⟩
theorem blw {w w1 w2 : World} (h : Below w.heap.size w w1) (k : Below w1.heap.size w1 w2) : Below w.heap.size w w2 := h.trans (k.mono h.size)
theorem heap_lt {w : World} {n : Nat} {v : Obj} (h : w.heap[n]? = some v) : n < w.heap.size := (Array.getElem?_eq_some_iff.1 h).1
theorem box_on {w w' : World} {n : Nat} {v : Obj} (h : w.heap[n]? = some v) (hb : Below w.heap.size w w') : w'.heap[n]? = some v := (hb.block n (heap_lt h)).trans h
theorem size_alloc (w : World) (o : Obj) : (w.alloc o).heap.size = w.heap.size + 1 := by simp
theorem alloc_here {w : World} {n : Nat} (o : Obj) (h : n = w.heap.size) : (w.alloc o).heap[n]? = some o := by
  subst h
  show (w.heap.push o)[w.heap.size]? = some o
  simp
theorem alloc_old {w : World} {n : Nat} {v : Obj} (o : Obj) (h : w.heap[n]? = some v) : (w.alloc o).heap[n]? = some v := box_on h (below_alloc w o)
theorem quiet_move2 {P : Program} {C : World → Prop} {a : Go.Act} {o : Oper} {K : Go.Act → Prop} {v : Value} (x : Operand) (h : o.op = .move x) (hv : a.eval x = v) (hk : K (a.put o.dst v)) : o.quiet P a C K :=
  BigFrame.quiet_move x h (hv ▸ hk)
/-- the worlds behind a world, which leave alone what there was -/
def Beh (w0 w : World) : Prop := Below w0.heap.size w0 w
theorem Beh.start (w : World) : Beh w w := Below.refl _ _
theorem Beh.on {w0 w w' : World} (h : Beh w0 w) (hb : Below w.heap.size w w') : Beh w0 w' := blw h hb
theorem Beh.alloc {w0 w : World} (h : Beh w0 w) (o : Obj) : Beh w0 (w.alloc o) := h.on (below_alloc _ _)
theorem Beh.drew {w0 w : World} (h : Beh w0 w) : Beh w0 w.drew := below_drewN h 1
theorem Beh.drewN {w0 w : World} (h : Beh w0 w) (n : Nat) : Beh w0 (w.drewN n) := below_drewN h n
theorem Beh.set {w0 w : World} (h : Beh w0 w) {b : Nat} (hb : w0.heap.size ≤ b) (i : Nat) (v : Value) : Beh w0 (w.setCell ⟨b, i, none⟩ v) := Below.setCell h hb v
theorem Beh.below {w0 w : World} (h : Beh w0 w) : Below w0.heap.size w0 w := h
theorem Beh.size {w0 w : World} (h : Beh w0 w) : w0.heap.size ≤ w.heap.size := h.below.size
theorem Beh.trans {w0 w w' : World} (h : Beh w0 w) (k : Beh w w') : Beh w0 w' := h.on k
theorem Beh.box {w0 w : World} (h : Beh w0 w) {n : Nat} {v : Obj} (hv : w0.heap[n]? = some v) : w.heap[n]? = some v := box_on hv h
theorem results_cell_one {fn : Func} {p : Tmp} {ty : TypeId} (h : fn.results = #[.cell p ty]) (tmps : Array Value) (P : Program) (w : World) :
    (results fn tmps).run P w = ((asAddr (tmps.getD p undef)).run P w).andThen fun a w₁ => (loadVar ty a).run P w₁ := by
  simp only [results, h]
  simp [Sem.run_bind, Result.andThen]
theorem cells4 {w : World} {b : Nat} {x0 x1 x2 x3 : Value} {t : TypeId} (h : w.heap[b]? = some (.cells #[x0, x1, x2, x3] t)) :
    w.cell? ⟨b, 0, none⟩ = some x0 ∧ w.cell? ⟨b, 1, none⟩ = some x1 ∧ w.cell? ⟨b, 2, none⟩ = some x2 ∧ w.cell? ⟨b, 3, none⟩ = some x3 := by
  refine ⟨?_, ?_, ?_, ?_⟩ <;> simp [World.cell?, h]
theorem cells1 {w : World} {b : Nat} {x0 : Value} {t : TypeId} (h : w.heap[b]? = some (.cells #[x0] t)) : w.cell? ⟨b, 0, none⟩ = some x0 := by simp [World.cell?, h]
theorem frozen_of {w : World} {b : Nat} {cs : Array Value} {t : TypeId} (h : w.heap[b]? = some (.cells cs t)) (j : Nat) : w.frozen? ⟨b, j, none⟩ = false := by simp [World.frozen?, h]
theorem heap_set {w : World} {b i : Nat} {cs : Array Value} {t : TypeId} (v : Value) (h : w.heap[b]? = some (.cells cs t)) : (w.setCell ⟨b, i, none⟩ v).heap[b]? = some (.cells (cs.setIfInBounds i v) t) := by
  simp [World.setCell, Array.getElem?_modify, h]
/-- two blocks of a call's own, the first two that it lays -/
structure Two (w : World) (p q : Obj) (w' : World) : Prop where
  beh : Beh w w'
  a : w'.heap[w.heap.size]? = some p
  b : w'.heap[w.heap.size + 1]? = some q
theorem Two.start (w : World) (p q : Obj) : Two w p q ((w.alloc p).alloc q) :=
  ⟨below_alloc2 w p q, alloc_old q (alloc_here p rfl), alloc_here q (by simp)⟩
theorem Two.on {w w' w'' : World} {p q : Obj} (h : Two w p q w') (hb : Below w'.heap.size w' w'') : Two w p q w'' := ⟨h.beh.on hb, box_on h.a hb, box_on h.b hb⟩
theorem Two.alloc {w w' : World} {p q : Obj} (h : Two w p q w') (o : Obj) : Two w p q (w'.alloc o) := h.on (below_alloc _ _)
theorem Two.drewN {w w' : World} {p q : Obj} (h : Two w p q w') (n : Nat) : Two w p q (w'.drewN n) := ⟨h.beh.drewN n, h.a, h.b⟩
/-- a block of four cells, all four stored -/
def set4 (w : World) (b : Nat) (x0 x1 x2 x3 : Value) : World := (((w.setCell ⟨b, 0, none⟩ x0).setCell ⟨b, 1, none⟩ x1).setCell ⟨b, 2, none⟩ x2).setCell ⟨b, 3, none⟩ x3
theorem set4_heap {w : World} {b : Nat} {a0 a1 a2 a3 x0 x1 x2 x3 : Value} {t : TypeId} (h : w.heap[b]? = some (.cells #[a0, a1, a2, a3] t)) : (set4 w b x0 x1 x2 x3).heap[b]? = some (.cells #[x0, x1, x2, x3] t) := by
  have h1 := heap_set (i := 0) x0 h
  have h2 := heap_set (i := 1) x1 h1
  have h3 := heap_set (i := 2) x2 h2
  exact heap_set (i := 3) x3 h3
theorem set4_other {w : World} {b n : Nat} {x0 x1 x2 x3 : Value} (h : n ≠ b) : (set4 w b x0 x1 x2 x3).heap[n]? = w.heap[n]? := by
  unfold set4
  rw [Below.heap_setCell _ _ _ _ h, Below.heap_setCell _ _ _ _ h, Below.heap_setCell _ _ _ _ h, Below.heap_setCell _ _ _ _ h]
theorem Beh.set4 {w0 w : World} (h : Beh w0 w) {b : Nat} (hb : w0.heap.size ≤ b) (x0 x1 x2 x3 : Value) : Beh w0 (Bh.set4 w b x0 x1 x2 x3) := (((h.set hb 0 x0).set hb 1 x1).set hb 2 x2).set hb 3 x3
theorem Two.set {w w' : World} {p : Obj} {a0 a1 a2 a3 : Value} {t : TypeId} (h : Two w p (.cells #[a0, a1, a2, a3] t) w') (x0 x1 x2 x3 : Value) : Two w p (.cells #[x0, x1, x2, x3] t) (set4 w' (w.heap.size + 1) x0 x1 x2 x3) :=
  ⟨h.beh.set4 (by omega) _ _ _ _, (set4_other (by omega)).trans h.a, set4_heap h.b⟩
theorem set4_eq (w : World) (b : Nat) (x0 x1 x2 x3 : Value) : (((w.setCell ⟨b, 0, none⟩ x0).setCell ⟨b, 1, none⟩ x1).setCell ⟨b, 2, none⟩ x2).setCell ⟨b, 3, none⟩ x3 = set4 w b x0 x1 x2 x3 := rfl
end Go.Proofs.YtaengjgmchpabaaGreat.Bh
end
section
/- What Check tells of a configuration. No program. -/
namespace Go.Proofs.YtaengjgmchpabaaGreat.Cn
open Go Go.RowKit Bh
attribute [local irreducible] wpQuiet
def fld (c : C) (k : Nat) : Int := if k = 0 then c.f else if k = 1 then c.w else if k = 2 then c.l else c.x
def seen (c : C) : Nat → Int
  | 0 => 0
  | k + 1 => bits .or .i64 (seen c k) (fld c k)
structure At (c : C) (k : Nat) : Prop where
  lo : 0 ≤ fld c k
  hi : fld c k ≤ 127
  no : bits .and .i64 (fld c k) (seen c k) = 0
def C.right (c : C) : Bool := decide (0 ≤ c.f ∧ c.f ≤ 127 ∧ 0 ≤ c.w ∧ c.w ≤ 127 ∧ 0 ≤ c.l ∧ c.l ≤ 127 ∧ 0 ≤ c.x ∧ c.x ≤ 127 ∧ c.f ≠ 0) && (List.range 7).all c.apt
theorem right_iff {c : C} : c.right = true ↔ c.Ok := by
  unfold C.right
  rw [Bool.and_eq_true, decide_eq_true_eq, List.all_eq_true]
  constructor
  · rintro ⟨⟨a, b, d, e, f, g, h, i, j⟩, k⟩
    exact ⟨⟨a, b⟩, ⟨d, e⟩, ⟨f, g⟩, ⟨h, i⟩, j, fun i hi => k i (List.mem_range.2 hi)⟩
  · rintro ⟨⟨a, b⟩, ⟨d, e⟩, ⟨f, g⟩, ⟨h, i⟩, j, k⟩
    exact ⟨⟨a, b, d, e, f, g, h, i, j⟩, fun i hi => k i (List.mem_range.1 hi)⟩
theorem seen_in {c : C} {k : Nat} (h : ∀ j, j < k → At c j) : In7 (seen c k) := by
  induction k with
  | zero => exact In7.zero
  | succ k ih => exact (ih (fun j hj => h j (by omega))).or ⟨(h k (by omega)).lo, (h k (by omega)).hi⟩
theorem ok_iff (c : C) : c.Ok ↔ c.f ≠ 0 ∧ ∀ k, k < 4 → At c k := by
  have s1 : ∀ i, tb (seen c 1) i = tb c.f i := fun i => by show tb (bits .or .i64 0 c.f) i = _; rw [tb_or, tb_0, Bool.false_or]
  have s2 : ∀ i, tb (seen c 2) i = (tb c.f i || tb c.w i) := fun i => by show tb (bits .or .i64 (seen c 1) c.w) i = _; rw [tb_or, s1]
  have s3 : ∀ i, tb (seen c 3) i = (tb c.f i || tb c.w i || tb c.l i) := fun i => by show tb (bits .or .i64 (seen c 2) c.l) i = _; rw [tb_or, s2]
  constructor
  · intro h
    have i1 : In7 (seen c 1) := In7.or In7.zero h.f
    have i2 : In7 (seen c 2) := i1.or h.w
    have i3 : In7 (seen c 3) := i2.or h.l
    have hp : ∀ i, i < 7 → apart (tb c.f i) (tb c.w i) (tb c.l i) (tb c.x i) = true := h.apt
    refine ⟨h.ne, fun k hk => ?_⟩
    obtain rfl | rfl | rfl | rfl : k = 0 ∨ k = 1 ∨ k = 2 ∨ k = 3 := by omega
    · exact ⟨h.f.1, h.f.2, by show bits .and .i64 c.f 0 = 0; rw [and_zero h.f In7.zero]; intro i _; rw [tb_0, Bool.and_false]⟩
    · refine ⟨h.w.1, h.w.2, ?_⟩
      show bits .and .i64 c.w (seen c 1) = 0
      rw [and_zero h.w i1]
      intro i hi
      have := hp i hi
      rw [s1]
      revert this
      cases tb c.f i <;> cases tb c.w i <;> cases tb c.l i <;> cases tb c.x i <;> decide
    · refine ⟨h.l.1, h.l.2, ?_⟩
      show bits .and .i64 c.l (seen c 2) = 0
      rw [and_zero h.l i2]
      intro i hi
      have := hp i hi
      rw [s2]
      revert this
      cases tb c.f i <;> cases tb c.w i <;> cases tb c.l i <;> cases tb c.x i <;> decide
    · refine ⟨h.x.1, h.x.2, ?_⟩
      show bits .and .i64 c.x (seen c 3) = 0
      rw [and_zero h.x i3]
      intro i hi
      have := hp i hi
      rw [s3]
      revert this
      cases tb c.f i <;> cases tb c.w i <;> cases tb c.l i <;> cases tb c.x i <;> decide
  · rintro ⟨hne, h⟩
    have i1 : In7 (seen c 1) := seen_in (fun j hj => h j (by omega))
    have i2 : In7 (seen c 2) := seen_in (fun j hj => h j (by omega))
    have i3 : In7 (seen c 3) := seen_in (fun j hj => h j (by omega))
    have f0 : In7 c.f := ⟨(h 0 (by omega)).lo, (h 0 (by omega)).hi⟩
    have f1 : In7 c.w := ⟨(h 1 (by omega)).lo, (h 1 (by omega)).hi⟩
    have f2 : In7 c.l := ⟨(h 2 (by omega)).lo, (h 2 (by omega)).hi⟩
    have f3 : In7 c.x := ⟨(h 3 (by omega)).lo, (h 3 (by omega)).hi⟩
    have n1 := (and_zero f1 i1).1 (h 1 (by omega)).no
    have n2 := (and_zero f2 i2).1 (h 2 (by omega)).no
    have n3 := (and_zero f3 i3).1 (h 3 (by omega)).no
    refine ⟨f0, f1, f2, f3, hne, fun i hi => ?_⟩
    have a1 := n1 i hi
    have a2 := n2 i hi
    have a3 := n3 i hi
    rw [s1] at a1
    rw [s2] at a2
    rw [s3] at a3
    show apart (tb c.f i) (tb c.w i) (tb c.l i) (tb c.x i) = true
    revert a1 a2 a3
    cases tb c.f i <;> cases tb c.w i <;> cases tb c.l i <;> cases tb c.x i <;> decide
end Go.Proofs.YtaengjgmchpabaaGreat.Cn
end
