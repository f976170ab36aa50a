import Derived.Test.YtaengjgmchpabaaGreatMergeWr0
import Derived.Test.YtaengjgmchpabaaGreatMergeWr2
import Derived.Laws.BitsAllLaws
import Derived.IntWalk
import Derived.Test.YtaengjgmchpabaaGreatChecked
import Derived.WalkKit
import Derived.WalkSpells
import Derived.WalkLawsBesides
import Derived.Lib.Hide
import Derived.Outline
import Derived.BigGuardPart
import Derived.Deep.QuietTactic
import Derived.BigQuiet
section
/- A call as a value, as a block. -/
namespace Go.Proofs.YtaengjgmchpabaaGreat.Ss
open Go Go.RowKit Vl Kv Mem
@[reducible] def Cl.agg (c : Cl) : Value := .agg #[.int .i64 c.client, .int .i64 c.seq, .int .i64 c.cmd.kind, .string c.cmd.key, .int .i64 c.cmd.old.kind, .float .f64 c.cmd.old.num, .string c.cmd.old.text, .int .i64 c.cmd.val.kind, .float .f64 c.cmd.val.num, .string c.cmd.val.text]
def Cl.obj (c : Cl) : Obj := .cells #[.int .i64 c.client, .int .i64 c.seq, .int .i64 c.cmd.kind, .string c.cmd.key, .int .i64 c.cmd.old.kind, .float .f64 c.cmd.old.num, .string c.cmd.old.text, .int .i64 c.cmd.val.kind, .float .f64 c.cmd.val.num, .string c.cmd.val.text] 68
end Go.Proofs.YtaengjgmchpabaaGreat.Ss
end
section
/- Plain mathematics of pack: whole numbers in groups of seven bits, bytes of a word. No program. -/
namespace Go.Proofs.YtaengjgmchpabaaGreat.Pk
open Go Go.RowKit Mem

/-- what a whole number is written as -/
def zig (n : Int) : Nat := if 0 ≤ n then (2 * n).toNat else (-2 * n - 1).toNat
def unzig (z : Nat) : Int := if z % 2 = 1 then -((z / 2 : Nat) : Int) - 1 else ((z / 2 : Nat) : Int)
theorem zig_lt {n : Int} (h1 : -9223372036854775808 ≤ n) (h2 : n ≤ 9223372036854775807) : zig n < 18446744073709551616 := by unfold zig; split <;> omega
theorem unzig_zig (n : Int) : unzig (zig n) = n := by unfold unzig zig; split <;> split <;> omega
theorem zig_unzig (z : Nat) : zig (unzig z) = z := by unfold unzig zig; split <;> split <;> omega
theorem unzig_bd {z : Nat} (h : z < 18446744073709551616) : -9223372036854775808 ≤ unzig z ∧ unzig z ≤ 9223372036854775807 := by unfold unzig; split <;> omega

theorem xor_m1 (n : Int) (h1 : -9223372036854775808 ≤ n) (h2 : n ≤ 9223372036854775807) : bits .xor .i64 (-1) n = -n - 1 := by
  have e : (BitVec.ofInt 64 (-1) ^^^ BitVec.ofInt 64 n).toNat = ((-n - 1) % 18446744073709551616).toNat := by
    have : BitVec.ofInt 64 (-1) = BitVec.allOnes 64 := by decide
    rw [this, BitVec.allOnes_xor, BitVec.toNat_not, BitVec.toNat_ofInt]
    omega
  show IntKind.i64.wrap (((BitVec.ofInt 64 (-1) ^^^ BitVec.ofInt 64 n).toNat : Nat) : Int) = _
  rw [e]
  have h3 : ((((-n - 1) % 18446744073709551616).toNat : Nat) : Int) = (-n - 1) % 18446744073709551616 := by omega
  rw [h3]
  unfold IntKind.wrap
  simp [IntKind.bits, IntKind.signed]
  omega
theorem or_even (k : Nat) (hk : 2 * k < 18446744073709551615) : bits .or .u64 ((2 * k : Nat) : Int) 1 = ((2 * k + 1 : Nat) : Int) := by
  have := u64_or_nat (2 * k) 1 (by omega) (by omega)
  rw [show (1 : Int) = ((1 : Nat) : Int) from rfl, this]
  congr 1
  have h2 := Nat.two_pow_add_eq_or_of_lt (i := 1) (b := 1) (by decide) k
  simp only [Nat.pow_one] at h2
  exact h2.symm
theorem and_one (z : Nat) (hz : z < 18446744073709551616) : bits .and .u64 (z : Int) 1 = ((z % 2 : Nat) : Int) := by
  have := u64_and_nat z 1 hz (by omega)
  rw [show (1 : Int) = ((1 : Nat) : Int) from rfl, this]
  congr 1
  exact Nat.and_two_pow_sub_one_eq_mod z 1
theorem and_127 (z : Nat) (hz : z < 18446744073709551616) : bits .and .u64 (z : Int) 127 = ((z % 128 : Nat) : Int) := by
  have := u64_and_nat z 127 hz (by omega)
  rw [show (127 : Int) = ((127 : Nat) : Int) from rfl, this]
  congr 1
  exact Nat.and_two_pow_sub_one_eq_mod z 7
theorem and8_127 (z : Nat) (hz : z < 256) : bits .and .u8 (z : Int) 127 = ((z % 128 : Nat) : Int) := by
  have := u8_and_nat z 127 hz (by omega)
  rw [show (127 : Int) = ((127 : Nat) : Int) from rfl, this]
  congr 1
  exact Nat.and_two_pow_sub_one_eq_mod z 7
theorem or8_128 (z : Nat) (hz : z < 128) : bits .or .u8 (z : Int) 128 = ((z + 128 : Nat) : Int) := by
  have := u8_or_nat z 128 (by omega) (by omega)
  rw [show (128 : Int) = ((128 : Nat) : Int) from rfl, this]
  congr 1
  have h2 := Nat.two_pow_add_eq_or_of_lt (i := 7) (b := z) (by omega) 1
  simp only [Nat.mul_one] at h2
  rw [Nat.or_comm, ← h2]; omega
/-- the bits of unlike places are added -/
theorem or_high (a c i : Nat) (ha : a < 2 ^ i) (hc : 2 ^ i * c < 18446744073709551616) (ha2 : a < 18446744073709551616) : bits .or .u64 (a : Int) ((2 ^ i * c : Nat) : Int) = ((a + 2 ^ i * c : Nat) : Int) := by
  have := u64_or_nat a (2 ^ i * c) ha2 hc
  rw [this]
  congr 1
  rw [Nat.or_comm, ← Nat.two_pow_add_eq_or_of_lt ha, Nat.add_comm]
theorem or_low (a c : Nat) (ha : a < 256) (hc : c * 256 < 18446744073709551616) : bits .or .u64 ((c * 256 : Nat) : Int) (a : Int) = ((c * 256 + a : Nat) : Int) := by
  have := u64_or_nat (c * 256) a hc (by omega)
  rw [this]
  congr 1
  have := Nat.two_pow_add_eq_or_of_lt (i := 8) (b := a) (by omega) c
  rw [show (2 : Nat) ^ 8 = 256 from rfl] at this
  rw [Nat.mul_comm c 256]; exact this.symm

/-- z in groups: with fuel, so that it computes -/
def groupsN : Nat → Nat → List Nat
  | 0, z => [z % 256]
  | f + 1, z => if z ≤ 127 then [z] else (z % 128 + 128) :: groupsN f (z / 128)
def groups (z : Nat) : List Nat := groupsN 9 z
/-- the bytes of a whole number -/
def intB (n : Int) : List Nat := groups (zig n)
theorem groupsN_b8 (f : Nat) : ∀ z, B8 (groupsN f z) := by
  induction f with
  | zero => intro z x hx; simp [groupsN] at hx; omega
  | succ f ih =>
    intro z x hx
    unfold groupsN at hx
    split at hx
    · simp at hx; omega
    · rcases List.mem_cons.1 hx with rfl | hx
      · omega
      · exact ih _ x hx
theorem groupsN_len (f : Nat) : ∀ z, 0 < (groupsN f z).length ∧ (groupsN f z).length ≤ f + 1 := by
  induction f with
  | zero => intro z; simp [groupsN]
  | succ f ih =>
    intro z
    unfold groupsN
    split
    · simp
    · have := ih (z / 128); simp; omega
theorem groupsN_small (f z : Nat) (h : z ≤ 127) : groupsN f z = [z] := by
  cases f with
  | zero => simp [groupsN]; omega
  | succ f => simp [groupsN, h]
theorem intB_b8 (n : Int) : B8 (intB n) := groupsN_b8 _ _
theorem intB_len (n : Int) : 0 < (intB n).length ∧ (intB n).length ≤ 10 := groupsN_len _ _
/-- few rounds: what is left of z behind k groups -/
theorem few {z k q : Nat} (hz : z < 18446744073709551616) (h : q * 128 ^ k ≤ z) (hq : 127 < q) : k ≤ 8 := by
  rcases Nat.lt_or_ge k 9 with h1 | h1
  · omega
  · have h2 : 128 ^ 9 ≤ 128 ^ k := Nat.pow_le_pow_right (by decide) h1
    have h3 : 128 * 128 ^ 9 ≤ q * 128 ^ k := Nat.mul_le_mul (by omega) h2
    rw [show 128 * 128 ^ 9 = 1180591620717411303424 from rfl] at h3
    omega

/-- a whole number's groups, read -/
def dec : Nat → Nat → List Nat → Option (Nat × List Nat)
  | _, _, [] => none
  | i, acc, b :: r => if i = 9 ∧ 1 < b then none else if 128 ≤ b then dec (i + 1) (acc + 128 ^ i * (b % 128)) r else if b = 0 ∧ 0 < i then none else some (acc + 128 ^ i * b, r)

theorem dec_groupsN (r : List Nat) (f : Nat) : ∀ (i acc z : Nat), i + f = 9 → z * 128 ^ i < 18446744073709551616 → (0 < i → 0 < z) → dec i acc (groupsN f z ++ r) = some (acc + 128 ^ i * z, r) := by
  induction f with
  | zero =>
    intro i acc z hi hz h0
    obtain rfl : i = 9 := by omega
    have hz1 : z ≤ 1 := by
      rw [show 128 ^ 9 = 9223372036854775808 from rfl] at hz; omega
    have := h0 (by omega)
    obtain rfl : z = 1 := by omega
    rfl
  | succ f ih =>
    intro i acc z hi hz h0
    by_cases h : z ≤ 127
    · rw [groupsN_small _ _ h]
      show dec i acc (z :: r) = _
      rw [dec, if_neg (by omega), if_neg (by omega), if_neg (by omega)]
    · rw [groupsN, if_neg h]
      show dec i acc ((z % 128 + 128) :: (groupsN f (z / 128) ++ r)) = _
      rw [dec, if_neg (by omega), if_pos (by omega)]
      rw [ih (i + 1) _ (z / 128) (by omega) ?_ (by omega)]
      · rw [show (z % 128 + 128) % 128 = z % 128 by omega, Nat.pow_succ, Nat.add_assoc, Nat.mul_assoc, ← Nat.mul_add, Nat.mod_add_div]
      · refine Nat.lt_of_le_of_lt ?_ hz
        rw [Nat.pow_succ, Nat.mul_comm (128 ^ i) 128, ← Nat.mul_assoc]
        exact Nat.mul_le_mul_right _ (Nat.div_mul_le_self _ _)
theorem dec_groups {z : Nat} (hz : z < 18446744073709551616) (r : List Nat) : dec 0 0 (groups z ++ r) = some (z, r) := by
  unfold groups
  rw [dec_groupsN r 9 0 0 z rfl (by simpa using hz) (by omega)]
  simp
theorem dec_sound (f : Nat) : ∀ (l : List Nat) (i acc z : Nat) (r : List Nat), i + f = 9 → B8 l → dec i acc l = some (z, r) → ∃ q, z = acc + 128 ^ i * q ∧ l = groupsN f q ++ r ∧ (0 < i → 0 < q) ∧ q * 128 ^ i < 18446744073709551616 := by
  induction f with
  | zero =>
    intro l i acc z r hi h8 h
    obtain rfl : i = 9 := by omega
    cases l with
    | nil => simp [dec] at h
    | cons b l =>
      rw [dec] at h
      by_cases h1 : 1 < b
      · rw [if_pos ⟨rfl, h1⟩] at h; cases h
      · rw [if_neg (by omega), if_neg (by omega)] at h
        split at h
        · cases h
        · simp only [Option.some.injEq, Prod.mk.injEq] at h
          obtain ⟨rfl, rfl⟩ := h
          obtain rfl : b = 1 := by omega
          exact ⟨1, rfl, rfl, fun _ => by omega, by decide⟩
  | succ f ih =>
    intro l i acc z r hi h8 h
    cases l with
    | nil => simp [dec] at h
    | cons b l =>
      have hb : b < 256 := h8 b (List.mem_cons_self ..)
      rw [dec, if_neg (by omega)] at h
      split at h
      · obtain ⟨q, e1, e2, e3, e4⟩ := ih l (i + 1) _ z r (by omega) (fun x hx => h8 x (List.mem_cons_of_mem _ hx)) h
        have hq := e3 (by omega)
        refine ⟨b % 128 + 128 * q, ?_, ?_, fun _ => by omega, ?_⟩
        · rw [e1, Nat.pow_succ, Nat.mul_add, Nat.mul_assoc, Nat.add_assoc]
        · rw [groupsN, if_neg (by omega), e2]
          rw [show (b % 128 + 128 * q) % 128 + 128 = b by omega, show (b % 128 + 128 * q) / 128 = q by omega]
          rfl
        · have hp : 128 ^ i * 128 = 128 ^ (i + 1) := (Nat.pow_succ ..).symm
          have hd : 128 ^ (i + 1) * 128 ^ f = 128 ^ 9 := by rw [← Nat.pow_add]; congr 1; omega
          have hP : 0 < 128 ^ (i + 1) := Nat.pow_pos (by decide)
          have e18 : (18446744073709551616 : Nat) = 2 * 128 ^ f * 128 ^ (i + 1) := by rw [Nat.mul_assoc, Nat.mul_comm (128 ^ f), hd]
          have h5 : q < 2 * 128 ^ f := Nat.lt_of_mul_lt_mul_right (Nat.lt_of_lt_of_eq e4 e18)
          have h6 : (q + 1) * 128 ^ (i + 1) ≤ 2 * 128 ^ f * 128 ^ (i + 1) := Nat.mul_le_mul_right _ h5
          have h7 : (b % 128 + 128 * q) * 128 ^ i < (q + 1) * 128 ^ (i + 1) := by
            rw [← hp, Nat.mul_comm (128 ^ i) 128, ← Nat.mul_assoc]
            exact Nat.mul_lt_mul_of_pos_right (by omega) (Nat.pow_pos (by decide))
          rw [e18]; exact Nat.lt_of_lt_of_le h7 h6
      · split at h
        · cases h
        · simp only [Option.some.injEq, Prod.mk.injEq] at h
          obtain ⟨rfl, rfl⟩ := h
          refine ⟨b, rfl, ?_, fun _ => by omega, ?_⟩
          · rw [groupsN_small _ _ (by omega)]; rfl
          · have h2 : 128 ^ i ≤ 128 ^ 8 := Nat.pow_le_pow_right (by decide) (by omega)
            have h3 : b * 128 ^ i ≤ 127 * 128 ^ 8 := Nat.mul_le_mul (by omega) h2
            rw [show 127 * 128 ^ 8 = 9151314442816847872 from rfl] at h3
            omega
theorem dec_more (d : List Nat) : ∀ (l : List Nat) (i acc z : Nat) (r : List Nat), dec i acc l = some (z, r) → dec i acc (l ++ d) = some (z, r ++ d) := by
  intro l
  induction l with
  | nil => intro i acc z r h; simp [dec] at h
  | cons b l ih =>
    intro i acc z r h
    rw [dec] at h
    show dec i acc (b :: (l ++ d)) = _
    rw [dec]
    split at h
    · cases h
    · rw [if_neg ‹_›]
      split at h
      · rw [if_pos ‹_›]; exact ih _ _ _ _ h
      · rw [if_neg ‹_›]
        split at h
        · cases h
        · rw [if_neg ‹_›]
          simp only [Option.some.injEq, Prod.mk.injEq] at h
          obtain ⟨rfl, rfl⟩ := h
          rfl

/-- a word's bytes, the highest first -/
def high8 (x : Nat) : List Nat := [x / 72057594037927936 % 256, x / 281474976710656 % 256, x / 1099511627776 % 256, x / 4294967296 % 256, x / 16777216 % 256, x / 65536 % 256, x / 256 % 256, x % 256]
def num8 (l : List Nat) : Nat := l.foldl (fun a b => a * 256 + b) 0
theorem high8_b8 (x : Nat) : B8 (high8 x) := by intro y hy; simp [high8] at hy; omega
theorem num8_high8 {x : Nat} (hx : x < 18446744073709551616) : num8 (high8 x) = x := by simp [num8, high8]; omega
theorem high8_num8 {l : List Nat} (hl : l.length = 8) (h : B8 l) : high8 (num8 l) = l ∧ num8 l < 18446744073709551616 := by
  match l, hl with
  | [a, b, c, d, e, f, g, k], _ =>
    have ha := h a (by simp)
    have hb := h b (by simp)
    have hc := h c (by simp)
    have hd := h d (by simp)
    have he := h e (by simp)
    have hf := h f (by simp)
    have hg := h g (by simp)
    have hk := h k (by simp)
    refine ⟨?_, by simp [num8]; omega⟩
    simp [num8, high8]
    refine ⟨?_, ?_, ?_, ?_, ?_, ?_, ?_, ?_⟩ <;> omega

/-- what is written and read -/
inductive V where
  | int (n : Int)
  | mark (b : Bool)
  | flt (x : Nat)
  | text (t : List Nat)
def V.ok : V → Prop
  | .int n => -9223372036854775808 ≤ n ∧ n ≤ 9223372036854775807
  | .mark _ => True
  | .flt x => x < 18446744073709551616
  | .text t => t.length ≤ 16384 ∧ B8 t
def V.kind : V → Nat
  | .int _ => 0
  | .mark _ => 1
  | .flt _ => 2
  | .text _ => 3
/-- as it is read again: each NaN as the one -/
def V.one : V → V
  | .flt x => .flt (Nm.canon x)
  | v => v
def markB (b : Bool) : List Nat := [if b then 1 else 0]
def fltB (x : Nat) : List Nat := high8 (Nm.canon x)
def textB (t : List Nat) : List Nat := intB t.length ++ t
def V.enc : V → List Nat
  | .int n => intB n
  | .mark b => markB b
  | .flt x => fltB x
  | .text t => textB t
def rdInt (l : List Nat) : Option (Int × List Nat) := match dec 0 0 l with | some (z, r) => some (unzig z, r) | none => none
def rdMark (l : List Nat) : Option (Bool × List Nat) := match l with | [] => none | b :: r => if 1 < b then none else some (b == 1, r)
def rdFlt (l : List Nat) : Option (Nat × List Nat) := if l.length < 8 then none else if Nm.canon (num8 (l.take 8)) = num8 (l.take 8) then some (num8 (l.take 8), l.drop 8) else none
/-- the error that is told, or the text -/
def rdText (l : List Nat) : Except Int (List Nat × List Nat) := match rdInt l with
  | none => .error 3
  | some (n, r) => if 16384 < n then .error 2 else if n < 0 ∨ (r.length : Int) < n then .error 3 else .ok (r.take n.toNat, r.drop n.toNat)
def rd (k : Nat) (l : List Nat) : Option (V × List Nat) := match k with
  | 0 => match rdInt l with | some (n, r) => some (.int n, r) | none => none
  | 1 => match rdMark l with | some (n, r) => some (.mark n, r) | none => none
  | 2 => match rdFlt l with | some (n, r) => some (.flt n, r) | none => none
  | _ => match rdText l with | .ok (n, r) => some (.text n, r) | .error _ => none

theorem enc_b8 {v : V} (h : v.ok) : B8 v.enc := by
  cases v with
  | int n => exact intB_b8 n
  | mark b => intro x hx; cases b <;> simp [V.enc, markB] at hx <;> omega
  | flt x => exact high8_b8 _
  | text t => exact (intB_b8 _).append h.2
theorem rdInt_enc {n : Int} (h1 : -9223372036854775808 ≤ n) (h2 : n ≤ 9223372036854775807) (r : List Nat) : rdInt (intB n ++ r) = some (n, r) := by
  unfold rdInt intB
  rw [dec_groups (zig_lt h1 h2)]
  simp [unzig_zig]
theorem rdMark_enc (b : Bool) (r : List Nat) : rdMark (markB b ++ r) = some (b, r) := by cases b <;> rfl
theorem rdFlt_enc {x : Nat} (hx : x < 18446744073709551616) (r : List Nat) : rdFlt (fltB x ++ r) = some (Nm.canon x, r) := by
  have hl : (fltB x).length = 8 := rfl
  have ht : (fltB x ++ r).take 8 = fltB x := by rw [← hl]; exact List.take_left
  have hd : (fltB x ++ r).drop 8 = r := by rw [← hl]; exact List.drop_left
  have hn : num8 (fltB x) = Nm.canon x := num8_high8 (Nm.canon_lt hx)
  unfold rdFlt
  rw [if_neg (by rw [List.length_append, hl]; omega), ht, hd, hn, if_pos (Nm.canon_canon x)]
theorem rdText_enc {t : List Nat} (h : t.length ≤ 16384) (r : List Nat) : rdText (textB t ++ r) = .ok (t, r) := by
  unfold rdText textB
  rw [List.append_assoc, rdInt_enc (by omega) (by omega)]
  show (if 16384 < (t.length : Int) then _ else _) = _
  rw [if_neg (by omega), if_neg (by simp; omega)]
  simp
theorem rd_enc {v : V} (h : v.ok) (r : List Nat) : rd v.kind (v.enc ++ r) = some (v.one, r) := by
  cases v with
  | int n => simp [rd, V.kind, V.enc, V.one, rdInt_enc h.1 h.2]
  | mark b => simp [rd, V.kind, V.enc, V.one, rdMark_enc]
  | flt x => simp [rd, V.kind, V.enc, V.one, rdFlt_enc h]
  | text t => simp [rd, V.kind, V.enc, V.one, rdText_enc h.1]
theorem rdInt_sound {l r : List Nat} {n : Int} (h8 : B8 l) (h : rdInt l = some (n, r)) : l = intB n ++ r ∧ -9223372036854775808 ≤ n ∧ n ≤ 9223372036854775807 := by
  unfold rdInt at h
  split at h
  · rename_i z r' hd
    simp only [Option.some.injEq, Prod.mk.injEq] at h
    obtain ⟨rfl, rfl⟩ := h
    obtain ⟨q, e1, e2, _, e4⟩ := dec_sound 9 l 0 0 z r' rfl h8 hd
    obtain rfl : z = q := by simpa using e1
    refine ⟨by rw [e2]; unfold intB groups; rw [zig_unzig], unzig_bd (by simpa using e4)⟩
  · cases h
theorem rd_sound {k : Nat} {l r : List Nat} {v : V} (hk : k < 4) (h8 : B8 l) (h : rd k l = some (v, r)) : l = v.enc ++ r ∧ v.ok ∧ v.kind = k ∧ v.one = v := by
  match k, hk with
  | 0, _ =>
    simp only [rd] at h
    split at h
    · rename_i n r' hd
      simp only [Option.some.injEq, Prod.mk.injEq] at h
      obtain ⟨rfl, rfl⟩ := h
      obtain ⟨e, b⟩ := rdInt_sound h8 hd
      exact ⟨e, b, rfl, rfl⟩
    · cases h
  | 1, _ =>
    simp only [rd] at h
    split at h
    · rename_i n r' hd
      simp only [Option.some.injEq, Prod.mk.injEq] at h
      obtain ⟨rfl, rfl⟩ := h
      refine ⟨?_, trivial, rfl, rfl⟩
      unfold rdMark at hd
      split at hd
      · cases hd
      · split at hd
        · cases hd
        · simp only [Option.some.injEq, Prod.mk.injEq] at hd
          obtain ⟨rfl, rfl⟩ := hd
          rename_i b _ hb
          simp only [V.enc, markB, List.cons_append, List.nil_append, List.cons.injEq, and_true]
          by_cases e : b = 1
          · subst e; rfl
          · obtain rfl : b = 0 := by omega
            rfl
    · cases h
  | 2, _ =>
    simp only [rd] at h
    split at h
    · rename_i n r' hd
      simp only [Option.some.injEq, Prod.mk.injEq] at h
      obtain ⟨rfl, rfl⟩ := h
      unfold rdFlt at hd
      split at hd
      · cases hd
      · split at hd
        · rename_i hl hc
          simp only [Option.some.injEq, Prod.mk.injEq] at hd
          obtain ⟨rfl, rfl⟩ := hd
          obtain ⟨e1, e2⟩ := high8_num8 (l := l.take 8) (by rw [List.length_take]; omega) (h8.take 8)
          refine ⟨?_, e2, rfl, by simp [V.one, hc]⟩
          show l = high8 (Nm.canon _) ++ _
          rw [hc, e1, List.take_append_drop]
        · cases hd
    · cases h
  | 3, _ =>
    simp only [rd] at h
    split at h
    · rename_i n r' hd
      simp only [Option.some.injEq, Prod.mk.injEq] at h
      obtain ⟨rfl, rfl⟩ := h
      unfold rdText at hd
      split at hd
      · cases hd
      · rename_i n' r2 hi
        obtain ⟨e, b1, b2⟩ := rdInt_sound h8 hi
        split at hd
        · cases hd
        · split at hd
          · cases hd
          · rename_i h1 h2
            simp only [Except.ok.injEq, Prod.mk.injEq] at hd
            obtain ⟨rfl, rfl⟩ := hd
            have hlen : (r2.take n'.toNat).length = n'.toNat := by rw [List.length_take]; omega
            refine ⟨?_, ⟨by rw [hlen]; omega, ?_⟩, rfl, rfl⟩
            · show l = (intB ((r2.take n'.toNat).length : Nat) ++ r2.take n'.toNat) ++ r2.drop n'.toNat
              rw [hlen, Int.toNat_of_nonneg (by omega), List.append_assoc, List.take_append_drop]
              exact e
            · have : B8 r2 := fun x hx => h8 x (by rw [e]; exact List.mem_append_right _ hx)
              exact this.take _
    · cases h
theorem rd_more {k : Nat} {l r : List Nat} {v : V} (hk : k < 4) (h8 : B8 l) (h : rd k l = some (v, r)) (d : List Nat) : rd k (l ++ d) = some (v, r ++ d) := by
  obtain ⟨e, o, ek, e1⟩ := rd_sound hk h8 h
  rw [e, List.append_assoc, ← ek, rd_enc o, e1]
end Go.Proofs.YtaengjgmchpabaaGreat.Pk
end
section
/- Walks of pack's small functions: fold, unfold, and the Reader's fail, take, Left, Done. -/
namespace Go.Proofs.YtaengjgmchpabaaGreat.Pk
open Go Go.RowKit Mem

theorem ret_int {k : IntKind} {a b : Int} (h : a = b) : Ending.returned (.int k a) = .returned (.int k b) := by rw [h]
theorem ret_bool {a b : Bool} (h : a = b) : Ending.returned (.bool a) = .returned (.bool b) := by rw [h]
theorem ret_float {a b : Nat} (h : a = b) : Ending.returned (.float .f64 a) = .returned (.float .f64 b) := by rw [h]

theorem fold_neg (n : Int) (h1 : -9223372036854775808 ≤ n) (hn : n < 0) : bits .or .u64 (IntKind.u64.wrap (IntKind.u64.wrap (bits .xor .i64 (-1) n) * 2)) 1 = (zig n : Nat) := by
  rw [xor_m1 n h1 (by omega)]
  have e1 : IntKind.u64.wrap (-n - 1) = -n - 1 := by simp [IntKind.wrap, IntKind.bits, IntKind.signed]; omega
  have e2 : IntKind.u64.wrap ((-n - 1) * 2) = ((2 * (-n - 1).toNat : Nat) : Int) := by simp [IntKind.wrap, IntKind.bits, IntKind.signed]; omega
  rw [e1, e2, or_even _ (by omega)]
  unfold zig
  rw [if_neg (by omega)]
  omega
set_option maxHeartbeats 400000 in
theorem fold_any (n : Int) (w : World) (h1 : -9223372036854775808 ≤ n) (h2 : n ≤ 9223372036854775807) :
    Calls Tryz.prog 69 #[.int .i64 n] w fun e w' => e = .returned (.int .u64 (zig n)) ∧ w = w' := by
  by_cases hn : n < 0
  · go_enter Tryz.func69, Tryz.ntmps69
    go_wp2
    go_ret
    exact ⟨ret_int (fold_neg n h1 hn), rfl⟩
  · go_enter Tryz.func69, Tryz.ntmps69
    go_wp2
    go_ret
    exact ⟨ret_int (by unfold zig; rw [if_pos (by omega)]; omega), rfl⟩
set_option maxHeartbeats 400000 in
theorem unfold_any (z : Nat) (w : World) (h2 : z < 18446744073709551616) :
    Calls Tryz.prog 84 #[.int .u64 z] w fun e w' => e = .returned (.int .i64 (unzig z)) ∧ w = w' := by
  go_enter Tryz.func84, Tryz.ntmps84
  go_wp2
  · have h : (bits BinOp.and IntKind.u64 (↑z) 1 == 1) = true := by assumption
    rw [and_one z h2, beq_iff_eq] at h
    go_ret
    refine ⟨ret_int ?_, rfl⟩
    rw [show (z : Int) / 2 = ((z / 2 : Nat) : Int) by omega, xor_m1 _ (by omega) (by omega)]
    unfold unzig
    rw [if_pos (by omega)]
  · have h : (bits BinOp.and IntKind.u64 (↑z) 1 == 1) = false := by assumption
    rw [and_one z h2, beq_eq_false_iff_ne] at h
    go_ret
    refine ⟨ret_int ?_, rfl⟩
    rw [show (z : Int) / 2 = ((z / 2 : Nat) : Int) by omega]
    unfold unzig
    rw [if_neg (by omega)]

/-- A Reader at block br: what is left, in block bs; the error. -/
def RAt (w : World) (br bs : Nat) (l : List Nat) (e : Int) : Prop :=
  ∃ a cap, w.heap[br]? = some (.cells #[.slice a l.length cap, .int .i64 e] 111 (0, 0)) ∧ Shows w bs a cap l ∧ B8 l ∧ br ≠ bs ∧ (e ≠ 0 → l = [])
theorem cell_heap {w : World} {b : Nat} {c : Array Value} {t : TypeId} {f : Nat × Nat} (h : w.heap[b]? = some (.cells c t f)) (i : Nat) : w.cell? ⟨b, i, none⟩ = c[i]? := by
  simp [World.cell?, h]
theorem frozen_heap {w : World} {b : Nat} {c : Array Value} {t : TypeId} (h : w.heap[b]? = some (.cells c t (0, 0))) (i : Nat) : w.frozen? ⟨b, i, none⟩ = false := by
  simp [World.frozen?, h]
theorem heap_set {w : World} {b : Nat} {c : Array Value} {t : TypeId} {f : Nat × Nat} (h : w.heap[b]? = some (.cells c t f)) (i : Nat) (v : Value) : (w.setCell ⟨b, i, none⟩ v).heap[b]? = some (.cells (c.setIfInBounds i v) t f) := by
  simp [World.setCell, Array.getElem?_modify, h]
theorem heap_set_other {w : World} {b : Nat} {o : Obj} (h : w.heap[b]? = some o) {a : Addr} (ha : a.block ≠ b) (v : Value) : (w.setCell a v).heap[b]? = some o := by
  rw [Below.heap_setCell _ _ _ _ (fun e => ha e.symm)]; exact h

def doneOf (l : List Nat) (e : Int) : Int := if e = 0 ∧ 0 < l.length then 3 else e
/-- the error that is kept -/
def keep (e x : Int) : Int := if e = 0 then x else e
set_option maxHeartbeats 400000 in
theorem fail_any (br bs : Nat) (l : List Nat) (e x : Int) (w : World) (h : RAt w br bs l e) :
    Calls Tryz.prog 85 #[.pointer (some ⟨br, 0, none⟩), .int .i64 x] w fun e' w' => e' = .returned (.tuple #[]) ∧ RAt w' br bs [] (keep e x) ∧ Kept (Only br) w w' := by
  obtain ⟨a, cap, hh, hs, _, hne, he⟩ := h
  have HH := Lib.hid hh
  have c0 := cell_heap hh 0
  have c1 := cell_heap hh 1
  have f0 := frozen_heap hh 0
  have f1 := frozen_heap hh 1
  simp at c0 c1
  clear hh hs he
  by_cases h0 : e = 0
  · subst h0
    go_enter Tryz.func85, Tryz.ntmps85
    go_wp2
    go_end0
    refine ⟨rfl, ⟨none, 0, ?_, ⟨Nat.le_refl _, by decide, .inl ⟨rfl, rfl, rfl⟩⟩, B8.nil, hne, fun _ => rfl⟩, ((Kept.refl _ _).setAt (.inl Only.self) _ _).setAt (.inl Only.self) _ _⟩
    rw [heap_set (heap_set HH.out 1 _) 0]
    rfl
  · have h0' : (e == 0) = false := by simpa using h0
    have H0 := Lib.hid h0
    clear h0
    go_enter Tryz.func85, Tryz.ntmps85
    go_wp2
    go_end0
    refine ⟨rfl, ⟨none, 0, ?_, ⟨Nat.le_refl _, by decide, .inl ⟨rfl, rfl, rfl⟩⟩, B8.nil, hne, fun _ => rfl⟩, (Kept.refl _ _).setAt (.inl Only.self) _ _⟩
    rw [heap_set HH.out 0]
    simp [keep, H0.out]
theorem fits_left {w : World} {bs : Nat} {a : Option Addr} {cap n : Nat} {l : List Nat} (h : Shows w bs a cap l) (hn : n ≤ l.length) : Shows w bs a cap (l.take n) := by
  obtain ⟨h1, h2, h3⟩ := h
  have hl : (l.take n).length = n := by rw [List.length_take]; omega
  refine ⟨by omega, h2, ?_⟩
  rcases h3 with ⟨ha, hl', hc⟩ | ⟨off, ha, hc⟩
  · subst hl'; exact .inl ⟨ha, by simp, hc⟩
  · refine .inr ⟨off, ha, fun i hi => ?_⟩
    rw [hl] at hi
    rw [hc i (by omega)]
    simp [List.getD, hi]
/-- the rest: where it begins does not count, if it is empty -/
theorem fits_rest {w : World} {bs off cap n : Nat} {l : List Nat} {o2 : Nat} (h : Shows w bs (some ⟨bs, off, none⟩) cap l) (hn : n ≤ l.length) (ho : o2 = off + n ∨ cap = n) : Shows w bs (some ⟨bs, o2, none⟩) (cap - n) (l.drop n) := by
  obtain ⟨h1, h2, h3⟩ := h
  have hl : (l.drop n).length = l.length - n := by rw [List.length_drop]
  refine ⟨by omega, by omega, .inr ⟨o2, rfl, fun i hi => ?_⟩⟩
  rw [hl] at hi
  rcases h3 with ⟨ha, _⟩ | ⟨off', ha, hc⟩
  · cases ha
  · obtain rfl : off = off' := by injection ha with ha; injection ha
    rcases ho with rfl | hcap
    · rw [Nat.add_assoc, hc (n + i) (by omega)]
      simp [List.getD]
    · omega
/-- what take answers: the bytes that were taken -/
def Took (br bs : Nat) (l : List Nat) (n : Nat) (e : Int) (w : World) (x : Ending) (w' : World) : Prop :=
  ∃ a cap, x = .returned (.slice a n cap) ∧ Shows w' bs a cap (l.take n) ∧ RAt w' br bs (l.drop n) e ∧ Kept (Only br) w w' ∧ (a = none → l = [])
theorem not_self {a b : Nat} (h : a ≠ b) : ¬ Only a b := fun e => h e.symm
set_option maxHeartbeats 400000 in
theorem take_ok (br bs : Nat) (l : List Nat) (e : Int) (n : Nat) (w : World) (h : RAt w br bs l e) (hn : n ≤ l.length) :
    Calls Tryz.prog 87 #[.pointer (some ⟨br, 0, none⟩), .int .i64 n] w (Took br bs l n e w) := by
  obtain ⟨a, cap, hh, hs, h8, hne, he⟩ := h
  have h1 := hs.1
  have h2 := hs.2.1
  have c0 := cell_heap hh 0
  have f0 := frozen_heap hh 0
  simp at c0
  have HH := Lib.hid hh
  have HS := Lib.hid hs
  have HE := Lib.hid he
  clear hh he
  have hlt : decide (l.length < n) = false := by simpa using hn
  rcases hs.2.2 with ⟨rfl, rfl, rfl⟩ | ⟨off, rfl, hc⟩
  · obtain rfl : n = 0 := by simpa using hn
    clear hs
    simp only [List.length_nil] at *
    go_enter Tryz.func87, Tryz.ntmps87
    go_wp2
    go_ret
    refine ⟨none, 0, rfl, ⟨Nat.le_refl _, by decide, .inl ⟨rfl, rfl, rfl⟩⟩, ⟨none, 0, ?_, ⟨Nat.le_refl _, by decide, .inl ⟨rfl, rfl, rfl⟩⟩, B8.nil, hne, fun _ => rfl⟩, (Kept.refl _ _).setAt (.inl Only.self) _ _, fun _ => rfl⟩
    rw [heap_set HH.out 0]
    rfl
  · clear hs hc
    by_cases hcn : cap = n
    · subst hcn
      go_enter Tryz.func87, Tryz.ntmps87
      go_wp2
      go_ret
      obtain rfl : l.length = cap := by omega
      refine ⟨some ⟨bs, off, none⟩, l.length, rfl, ?_, ⟨some ⟨bs, off, none⟩, 0, ?_, ?_, h8.drop _, hne, fun h => by rw [HE.out h]; rfl⟩, (Kept.refl _ _).setAt (.inl Only.self) _ _, fun h => by cases h⟩
      · exact (fits_left HS.out (Nat.le_refl _)).kept ((Kept.refl _ _).setAt (.inl Only.self) _ _) (fun _ => not_self hne)
      · rw [heap_set HH.out 0]
        simp
      · have := (fits_rest (n := l.length) (o2 := off) HS.out (Nat.le_refl _) (.inr rfl)).kept ((Kept.refl _ _).setAt (.inl Only.self) 0 (.slice (some ⟨bs, off, none⟩) 0 0)) (fun _ => not_self hne)
        simpa using this
    · have HCN := Lib.hid hcn
      have hn1 : n ≤ cap := by omega
      clear hcn
      go_enter Tryz.func87, Tryz.ntmps87
      go_wp2
      go_ret
      refine ⟨some ⟨bs, off, none⟩, cap, rfl, ?_, ⟨some ⟨bs, off + n, none⟩, cap - n, ?_, ?_, h8.drop _, hne, fun h => by rw [HE.out h]; simp⟩, (Kept.refl _ _).setAt (.inl Only.self) _ _, fun h => by cases h⟩
      · exact (fits_left HS.out hn).kept ((Kept.refl _ _).setAt (.inl Only.self) _ _) (fun _ => not_self hne)
      · rw [heap_set HH.out 0]
        simp
      · exact (fits_rest (o2 := off + n) HS.out hn (.inl rfl)).kept ((Kept.refl _ _).setAt (.inl Only.self) _ _) (fun _ => not_self hne)
/-- what is answered where there is an error -/
def Fell (br bs : Nat) (e : Int) (v : Value) (w : World) (x : Ending) (w' : World) : Prop := x = .returned v ∧ RAt w' br bs [] e ∧ Kept (Only br) w w'
set_option maxHeartbeats 400000 in
theorem take_no (br bs : Nat) (l : List Nat) (e : Int) (n : Int) (w : World) (h : RAt w br bs l e) (hn : n < 0 ∨ (l.length : Int) < n) :
    Calls Tryz.prog 87 #[.pointer (some ⟨br, 0, none⟩), .int .i64 n] w (Fell br bs (keep e 3) (.slice none 0 0) w) := by
  have HR := Lib.hid h
  obtain ⟨a, cap, hh, hs, h8, hne, he⟩ := h
  have c0 := cell_heap hh 0
  simp at c0
  clear hh he hs
  by_cases h0 : n < 0
  · clear hn
    go_enter Tryz.func87, Tryz.ntmps87
    go_wp2_with (first | (go_at_call 85; refine (fail_any br bs l e _ _ HR.out).mono ?_; rintro x w' ⟨rfl, h1, h2⟩))
    go_ret
    exact ⟨rfl, h1, h2⟩
  · have hn' : (l.length : Int) < n := by omega
    clear hn
    go_enter Tryz.func87, Tryz.ntmps87
    go_wp2_with (first | (go_at_call 85; refine (fail_any br bs l e _ _ HR.out).mono ?_; rintro x w' ⟨rfl, h1, h2⟩))
    go_ret
    exact ⟨rfl, h1, h2⟩
end Go.Proofs.YtaengjgmchpabaaGreat.Pk
end
