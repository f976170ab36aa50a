/- Walks of pack's small functions: fold, unfold, and the Reader's fail, take, Left, Done. -/
import Derived.Test.YtlgmjkbaihpmmaaGreatChecked
import Derived.Test.YtlgmjkbaihpmmaaGreatPackMath
import Derived.WalkKit
import Derived.WalkSpells
import Derived.WalkLawsBesides
import Derived.Lib.Hide
import Derived.Outline
import Derived.BigGuardPart
import Derived.Deep.QuietTactic
import Derived.BigQuiet
namespace Go.Proofs.YtlgmjkbaihpmmaaGreat.Pk
open Go Go.RowKit Mem

theorem ret_int {k : IntKind} {a b : Int} (h : a = b) : Ending.returned (.int k a) = .returned (.int k b) := by rw [h]
theorem ret_bool {a b : Bool} (h : a = b) : Ending.returned (.bool a) = .returned (.bool b) := by rw [h]
theorem ret_float {a b : Nat} (h : a = b) : Ending.returned (.float .f64 a) = .returned (.float .f64 b) := by rw [h]

theorem fold_neg (n : Int) (h1 : -9223372036854775808 ≤ n) (hn : n < 0) : bits .or .u64 (IntKind.u64.wrap (IntKind.u64.wrap (bits .xor .i64 (-1) n) * 2)) 1 = (zig n : Nat) := by
  rw [xor_m1 n h1 (by omega)]
  have e1 : IntKind.u64.wrap (-n - 1) = -n - 1 := by simp [IntKind.wrap, IntKind.bits, IntKind.signed]; omega
  have e2 : IntKind.u64.wrap ((-n - 1) * 2) = ((2 * (-n - 1).toNat : Nat) : Int) := by simp [IntKind.wrap, IntKind.bits, IntKind.signed]; omega
  rw [e1, e2, or_even _ (by omega)]
  unfold zig
  rw [if_neg (by omega)]
  omega
set_option maxHeartbeats 400000 in
theorem fold_any (n : Int) (w : World) (h1 : -9223372036854775808 ≤ n) (h2 : n ≤ 9223372036854775807) :
    Calls Tryz.prog 44 #[.int .i64 n] w fun e w' => e = .returned (.int .u64 (zig n)) ∧ w = w' := by
  by_cases hn : n < 0
  · go_enter Tryz.func44, Tryz.ntmps44
    go_wp2
    go_ret
    exact ⟨ret_int (fold_neg n h1 hn), rfl⟩
  · go_enter Tryz.func44, Tryz.ntmps44
    go_wp2
    go_ret
    exact ⟨ret_int (by unfold zig; rw [if_pos (by omega)]; omega), rfl⟩
set_option maxHeartbeats 400000 in
theorem unfold_any (z : Nat) (w : World) (h2 : z < 18446744073709551616) :
    Calls Tryz.prog 75 #[.int .u64 z] w fun e w' => e = .returned (.int .i64 (unzig z)) ∧ w = w' := by
  go_enter Tryz.func75, Tryz.ntmps75
  go_wp2
  · have h : (bits BinOp.and IntKind.u64 (↑z) 1 == 1) = true := by assumption
    rw [and_one z h2, beq_iff_eq] at h
    go_ret
    refine ⟨ret_int ?_, rfl⟩
    rw [show (z : Int) / 2 = ((z / 2 : Nat) : Int) by omega, xor_m1 _ (by omega) (by omega)]
    unfold unzig
    rw [if_pos (by omega)]
  · have h : (bits BinOp.and IntKind.u64 (↑z) 1 == 1) = false := by assumption
    rw [and_one z h2, beq_eq_false_iff_ne] at h
    go_ret
    refine ⟨ret_int ?_, rfl⟩
    rw [show (z : Int) / 2 = ((z / 2 : Nat) : Int) by omega]
    unfold unzig
    rw [if_neg (by omega)]

/-- A Reader at block br: what is left, in block bs; the error. -/
def RAt (w : World) (br bs : Nat) (l : List Nat) (e : Int) : Prop :=
  ∃ a cap, w.heap[br]? = some (.cells #[.slice a l.length cap, .int .i64 e] 101 (0, 0)) ∧ Shows w bs a cap l ∧ B8 l ∧ br ≠ bs ∧ (e ≠ 0 → l = [])
theorem cell_heap {w : World} {b : Nat} {c : Array Value} {t : TypeId} {f : Nat × Nat} (h : w.heap[b]? = some (.cells c t f)) (i : Nat) : w.cell? ⟨b, i, none⟩ = c[i]? := by
  simp [World.cell?, h]
theorem frozen_heap {w : World} {b : Nat} {c : Array Value} {t : TypeId} (h : w.heap[b]? = some (.cells c t (0, 0))) (i : Nat) : w.frozen? ⟨b, i, none⟩ = false := by
  simp [World.frozen?, h]
theorem heap_set {w : World} {b : Nat} {c : Array Value} {t : TypeId} {f : Nat × Nat} (h : w.heap[b]? = some (.cells c t f)) (i : Nat) (v : Value) : (w.setCell ⟨b, i, none⟩ v).heap[b]? = some (.cells (c.setIfInBounds i v) t f) := by
  simp [World.setCell, Array.getElem?_modify, h]
theorem heap_set_other {w : World} {b : Nat} {o : Obj} (h : w.heap[b]? = some o) {a : Addr} (ha : a.block ≠ b) (v : Value) : (w.setCell a v).heap[b]? = some o := by
  rw [Below.heap_setCell _ _ _ _ (fun e => ha e.symm)]; exact h

def doneOf (l : List Nat) (e : Int) : Int := if e = 0 ∧ 0 < l.length then 3 else e
/-- the error that is kept -/
def keep (e x : Int) : Int := if e = 0 then x else e
set_option maxHeartbeats 400000 in
theorem fail_any (br bs : Nat) (l : List Nat) (e x : Int) (w : World) (h : RAt w br bs l e) :
    Calls Tryz.prog 76 #[.pointer (some ⟨br, 0, none⟩), .int .i64 x] w fun e' w' => e' = .returned (.tuple #[]) ∧ RAt w' br bs [] (keep e x) ∧ Kept (Only br) w w' := by
  obtain ⟨a, cap, hh, hs, _, hne, he⟩ := h
  have HH := Lib.hid hh
  have c0 := cell_heap hh 0
  have c1 := cell_heap hh 1
  have f0 := frozen_heap hh 0
  have f1 := frozen_heap hh 1
  simp at c0 c1
  clear hh hs he
  by_cases h0 : e = 0
  · subst h0
    go_enter Tryz.func76, Tryz.ntmps76
    go_wp2
    go_end0
    refine ⟨rfl, ⟨none, 0, ?_, ⟨Nat.le_refl _, by decide, .inl ⟨rfl, rfl, rfl⟩⟩, B8.nil, hne, fun _ => rfl⟩, ((Kept.refl _ _).setAt (.inl Only.self) _ _).setAt (.inl Only.self) _ _⟩
    rw [heap_set (heap_set HH.out 1 _) 0]
    rfl
  · have h0' : (e == 0) = false := by simpa using h0
    have H0 := Lib.hid h0
    clear h0
    go_enter Tryz.func76, Tryz.ntmps76
    go_wp2
    go_end0
    refine ⟨rfl, ⟨none, 0, ?_, ⟨Nat.le_refl _, by decide, .inl ⟨rfl, rfl, rfl⟩⟩, B8.nil, hne, fun _ => rfl⟩, (Kept.refl _ _).setAt (.inl Only.self) _ _⟩
    rw [heap_set HH.out 0]
    simp [keep, H0.out]
theorem fits_left {w : World} {bs : Nat} {a : Option Addr} {cap n : Nat} {l : List Nat} (h : Shows w bs a cap l) (hn : n ≤ l.length) : Shows w bs a cap (l.take n) := by
  obtain ⟨h1, h2, h3⟩ := h
  have hl : (l.take n).length = n := by rw [List.length_take]; omega
  refine ⟨by omega, h2, ?_⟩
  rcases h3 with ⟨ha, hl', hc⟩ | ⟨off, ha, hc⟩
  · subst hl'; exact .inl ⟨ha, by simp, hc⟩
  · refine .inr ⟨off, ha, fun i hi => ?_⟩
    rw [hl] at hi
    rw [hc i (by omega)]
    simp [List.getD, hi]
/-- the rest: where it begins does not count, if it is empty -/
theorem fits_rest {w : World} {bs off cap n : Nat} {l : List Nat} {o2 : Nat} (h : Shows w bs (some ⟨bs, off, none⟩) cap l) (hn : n ≤ l.length) (ho : o2 = off + n ∨ cap = n) : Shows w bs (some ⟨bs, o2, none⟩) (cap - n) (l.drop n) := by
  obtain ⟨h1, h2, h3⟩ := h
  have hl : (l.drop n).length = l.length - n := by rw [List.length_drop]
  refine ⟨by omega, by omega, .inr ⟨o2, rfl, fun i hi => ?_⟩⟩
  rw [hl] at hi
  rcases h3 with ⟨ha, _⟩ | ⟨off', ha, hc⟩
  · cases ha
  · obtain rfl : off = off' := by injection ha with ha; injection ha
    rcases ho with rfl | hcap
    · rw [Nat.add_assoc, hc (n + i) (by omega)]
      simp [List.getD]
    · omega
/-- what take answers: the bytes that were taken -/
def Took (br bs : Nat) (l : List Nat) (n : Nat) (e : Int) (w : World) (x : Ending) (w' : World) : Prop :=
  ∃ a cap, x = .returned (.slice a n cap) ∧ Shows w' bs a cap (l.take n) ∧ RAt w' br bs (l.drop n) e ∧ Kept (Only br) w w' ∧ (a = none → l = [])
theorem not_self {a b : Nat} (h : a ≠ b) : ¬ Only a b := fun e => h e.symm
set_option maxHeartbeats 400000 in
theorem take_ok (br bs : Nat) (l : List Nat) (e : Int) (n : Nat) (w : World) (h : RAt w br bs l e) (hn : n ≤ l.length) :
    Calls Tryz.prog 77 #[.pointer (some ⟨br, 0, none⟩), .int .i64 n] w (Took br bs l n e w) := by
  obtain ⟨a, cap, hh, hs, h8, hne, he⟩ := h
  have h1 := hs.1
  have h2 := hs.2.1
  have c0 := cell_heap hh 0
  have f0 := frozen_heap hh 0
  simp at c0
  have HH := Lib.hid hh
  have HS := Lib.hid hs
  have HE := Lib.hid he
  clear hh he
  have hlt : decide (l.length < n) = false := by simpa using hn
  rcases hs.2.2 with ⟨rfl, rfl, rfl⟩ | ⟨off, rfl, hc⟩
  · obtain rfl : n = 0 := by simpa using hn
    clear hs
    simp only [List.length_nil] at *
    go_enter Tryz.func77, Tryz.ntmps77
    go_wp2
    go_ret
    refine ⟨none, 0, rfl, ⟨Nat.le_refl _, by decide, .inl ⟨rfl, rfl, rfl⟩⟩, ⟨none, 0, ?_, ⟨Nat.le_refl _, by decide, .inl ⟨rfl, rfl, rfl⟩⟩, B8.nil, hne, fun _ => rfl⟩, (Kept.refl _ _).setAt (.inl Only.self) _ _, fun _ => rfl⟩
    rw [heap_set HH.out 0]
    rfl
  · clear hs hc
    by_cases hcn : cap = n
    · subst hcn
      go_enter Tryz.func77, Tryz.ntmps77
      go_wp2
      go_ret
      obtain rfl : l.length = cap := by omega
      refine ⟨some ⟨bs, off, none⟩, l.length, rfl, ?_, ⟨some ⟨bs, off, none⟩, 0, ?_, ?_, h8.drop _, hne, fun h => by rw [HE.out h]; rfl⟩, (Kept.refl _ _).setAt (.inl Only.self) _ _, fun h => by cases h⟩
      · exact (fits_left HS.out (Nat.le_refl _)).kept ((Kept.refl _ _).setAt (.inl Only.self) _ _) (fun _ => not_self hne)
      · rw [heap_set HH.out 0]
        simp
      · have := (fits_rest (n := l.length) (o2 := off) HS.out (Nat.le_refl _) (.inr rfl)).kept ((Kept.refl _ _).setAt (.inl Only.self) 0 (.slice (some ⟨bs, off, none⟩) 0 0)) (fun _ => not_self hne)
        simpa using this
    · have HCN := Lib.hid hcn
      have hn1 : n ≤ cap := by omega
      clear hcn
      go_enter Tryz.func77, Tryz.ntmps77
      go_wp2
      go_ret
      refine ⟨some ⟨bs, off, none⟩, cap, rfl, ?_, ⟨some ⟨bs, off + n, none⟩, cap - n, ?_, ?_, h8.drop _, hne, fun h => by rw [HE.out h]; simp⟩, (Kept.refl _ _).setAt (.inl Only.self) _ _, fun h => by cases h⟩
      · exact (fits_left HS.out hn).kept ((Kept.refl _ _).setAt (.inl Only.self) _ _) (fun _ => not_self hne)
      · rw [heap_set HH.out 0]
        simp
      · exact (fits_rest (o2 := off + n) HS.out hn (.inl rfl)).kept ((Kept.refl _ _).setAt (.inl Only.self) _ _) (fun _ => not_self hne)
/-- what is answered where there is an error -/
def Fell (br bs : Nat) (e : Int) (v : Value) (w : World) (x : Ending) (w' : World) : Prop := x = .returned v ∧ RAt w' br bs [] e ∧ Kept (Only br) w w'
set_option maxHeartbeats 400000 in
theorem take_no (br bs : Nat) (l : List Nat) (e : Int) (n : Int) (w : World) (h : RAt w br bs l e) (hn : n < 0 ∨ (l.length : Int) < n) :
    Calls Tryz.prog 77 #[.pointer (some ⟨br, 0, none⟩), .int .i64 n] w (Fell br bs (keep e 3) (.slice none 0 0) w) := by
  have HR := Lib.hid h
  obtain ⟨a, cap, hh, hs, h8, hne, he⟩ := h
  have c0 := cell_heap hh 0
  simp at c0
  clear hh he hs
  by_cases h0 : n < 0
  · clear hn
    go_enter Tryz.func77, Tryz.ntmps77
    go_wp2_with (first | (go_at_call 76; refine (fail_any br bs l e _ _ HR.out).mono ?_; rintro x w' ⟨rfl, h1, h2⟩))
    go_ret
    exact ⟨rfl, h1, h2⟩
  · have hn' : (l.length : Int) < n := by omega
    clear hn
    go_enter Tryz.func77, Tryz.ntmps77
    go_wp2_with (first | (go_at_call 76; refine (fail_any br bs l e _ _ HR.out).mono ?_; rintro x w' ⟨rfl, h1, h2⟩))
    go_ret
    exact ⟨rfl, h1, h2⟩
end Go.Proofs.YtlgmjkbaihpmmaaGreat.Pk
