import Derived.Test.YtbheofibdogabaaGreatChecked
import Derived.Test.YtbheofibdogabaaGreatPackMath
import Derived.WalkKit
import Derived.WalkSpells
import Derived.WalkLawsBesides
import Derived.Lib.Hide
import Derived.Outline
import Derived.BigGuardPart
import Derived.Deep.QuietTactic
import Derived.BigQuiet
import Derived.Test.YtbheofibdogabaaGreatMergeSb1
import Derived.Deep.RegionLaw
section
/- Walks of pack's small functions: fold, unfold, and the Reader's fail, take, Left, Done. -/
namespace Go.Proofs.YtbheofibdogabaaGreat.Pk
open Go Go.RowKit Mem

theorem ret_int {k : IntKind} {a b : Int} (h : a = b) : Ending.returned (.int k a) = .returned (.int k b) := by rw [h]
theorem ret_bool {a b : Bool} (h : a = b) : Ending.returned (.bool a) = .returned (.bool b) := by rw [h]
theorem ret_float {a b : Nat} (h : a = b) : Ending.returned (.float .f64 a) = .returned (.float .f64 b) := by rw [h]

theorem fold_neg (n : Int) (h1 : -9223372036854775808 ≤ n) (hn : n < 0) : bits .or .u64 (IntKind.u64.wrap (IntKind.u64.wrap (bits .xor .i64 (-1) n) * 2)) 1 = (zig n : Nat) := by
  rw [xor_m1 n h1 (by omega)]
  have e1 : IntKind.u64.wrap (-n - 1) = -n - 1 := by simp [IntKind.wrap, IntKind.bits, IntKind.signed]; omega
  have e2 : IntKind.u64.wrap ((-n - 1) * 2) = ((2 * (-n - 1).toNat : Nat) : Int) := by simp [IntKind.wrap, IntKind.bits, IntKind.signed]; omega
  rw [e1, e2, or_even _ (by omega)]
  unfold zig
  rw [if_neg (by omega)]
  omega
set_option maxHeartbeats 400000 in
theorem fold_any (n : Int) (w : World) (h1 : -9223372036854775808 ≤ n) (h2 : n ≤ 9223372036854775807) :
    Calls Tryz.prog 44 #[.int .i64 n] w fun e w' => e = .returned (.int .u64 (zig n)) ∧ w = w' := by
  by_cases hn : n < 0
  · go_enter Tryz.func44, Tryz.ntmps44
    go_wp2
    go_ret
    exact ⟨ret_int (fold_neg n h1 hn), rfl⟩
  · go_enter Tryz.func44, Tryz.ntmps44
    go_wp2
    go_ret
    exact ⟨ret_int (by unfold zig; rw [if_pos (by omega)]; omega), rfl⟩
set_option maxHeartbeats 400000 in
theorem unfold_any (z : Nat) (w : World) (h2 : z < 18446744073709551616) :
    Calls Tryz.prog 75 #[.int .u64 z] w fun e w' => e = .returned (.int .i64 (unzig z)) ∧ w = w' := by
  go_enter Tryz.func75, Tryz.ntmps75
  go_wp2
  · have h : (bits BinOp.and IntKind.u64 (↑z) 1 == 1) = true := by assumption
    rw [and_one z h2, beq_iff_eq] at h
    go_ret
    refine ⟨ret_int ?_, rfl⟩
    rw [show (z : Int) / 2 = ((z / 2 : Nat) : Int) by omega, xor_m1 _ (by omega) (by omega)]
    unfold unzig
    rw [if_pos (by omega)]
  · have h : (bits BinOp.and IntKind.u64 (↑z) 1 == 1) = false := by assumption
    rw [and_one z h2, beq_eq_false_iff_ne] at h
    go_ret
    refine ⟨ret_int ?_, rfl⟩
    rw [show (z : Int) / 2 = ((z / 2 : Nat) : Int) by omega]
    unfold unzig
    rw [if_neg (by omega)]

/-- A Reader at block br: what is left, in block bs; the error. -/
def RAt (w : World) (br bs : Nat) (l : List Nat) (e : Int) : Prop :=
  ∃ a cap, w.heap[br]? = some (.cells #[.slice a l.length cap, .int .i64 e] 101 (0, 0)) ∧ Shows w bs a cap l ∧ B8 l ∧ br ≠ bs ∧ (e ≠ 0 → l = [])
theorem cell_heap {w : World} {b : Nat} {c : Array Value} {t : TypeId} {f : Nat × Nat} (h : w.heap[b]? = some (.cells c t f)) (i : Nat) : w.cell? ⟨b, i, none⟩ = c[i]? := by
  simp [World.cell?, h]
theorem frozen_heap {w : World} {b : Nat} {c : Array Value} {t : TypeId} (h : w.heap[b]? = some (.cells c t (0, 0))) (i : Nat) : w.frozen? ⟨b, i, none⟩ = false := by
  simp [World.frozen?, h]
theorem heap_set {w : World} {b : Nat} {c : Array Value} {t : TypeId} {f : Nat × Nat} (h : w.heap[b]? = some (.cells c t f)) (i : Nat) (v : Value) : (w.setCell ⟨b, i, none⟩ v).heap[b]? = some (.cells (c.setIfInBounds i v) t f) := by
  simp [World.setCell, Array.getElem?_modify, h]
theorem heap_set_other {w : World} {b : Nat} {o : Obj} (h : w.heap[b]? = some o) {a : Addr} (ha : a.block ≠ b) (v : Value) : (w.setCell a v).heap[b]? = some o := by
  rw [Below.heap_setCell _ _ _ _ (fun e => ha e.symm)]; exact h

def doneOf (l : List Nat) (e : Int) : Int := if e = 0 ∧ 0 < l.length then 3 else e
/-- the error that is kept -/
def keep (e x : Int) : Int := if e = 0 then x else e
set_option maxHeartbeats 400000 in
theorem fail_any (br bs : Nat) (l : List Nat) (e x : Int) (w : World) (h : RAt w br bs l e) :
    Calls Tryz.prog 76 #[.pointer (some ⟨br, 0, none⟩), .int .i64 x] w fun e' w' => e' = .returned (.tuple #[]) ∧ RAt w' br bs [] (keep e x) ∧ Kept (Only br) w w' := by
  obtain ⟨a, cap, hh, hs, _, hne, he⟩ := h
  have HH := Lib.hid hh
  have c0 := cell_heap hh 0
  have c1 := cell_heap hh 1
  have f0 := frozen_heap hh 0
  have f1 := frozen_heap hh 1
  simp at c0 c1
  clear hh hs he
  by_cases h0 : e = 0
  · subst h0
    go_enter Tryz.func76, Tryz.ntmps76
    go_wp2
    go_end0
    refine ⟨rfl, ⟨none, 0, ?_, ⟨Nat.le_refl _, by decide, .inl ⟨rfl, rfl, rfl⟩⟩, B8.nil, hne, fun _ => rfl⟩, ((Kept.refl _ _).setAt (.inl Only.self) _ _).setAt (.inl Only.self) _ _⟩
    rw [heap_set (heap_set HH.out 1 _) 0]
    rfl
  · have h0' : (e == 0) = false := by simpa using h0
    have H0 := Lib.hid h0
    clear h0
    go_enter Tryz.func76, Tryz.ntmps76
    go_wp2
    go_end0
    refine ⟨rfl, ⟨none, 0, ?_, ⟨Nat.le_refl _, by decide, .inl ⟨rfl, rfl, rfl⟩⟩, B8.nil, hne, fun _ => rfl⟩, (Kept.refl _ _).setAt (.inl Only.self) _ _⟩
    rw [heap_set HH.out 0]
    simp [keep, H0.out]
theorem fits_left {w : World} {bs : Nat} {a : Option Addr} {cap n : Nat} {l : List Nat} (h : Shows w bs a cap l) (hn : n ≤ l.length) : Shows w bs a cap (l.take n) := by
  obtain ⟨h1, h2, h3⟩ := h
  have hl : (l.take n).length = n := by rw [List.length_take]; omega
  refine ⟨by omega, h2, ?_⟩
  rcases h3 with ⟨ha, hl', hc⟩ | ⟨off, ha, hc⟩
  · subst hl'; exact .inl ⟨ha, by simp, hc⟩
  · refine .inr ⟨off, ha, fun i hi => ?_⟩
    rw [hl] at hi
    rw [hc i (by omega)]
    simp [List.getD, hi]
/-- the rest: where it begins does not count, if it is empty -/
theorem fits_rest {w : World} {bs off cap n : Nat} {l : List Nat} {o2 : Nat} (h : Shows w bs (some ⟨bs, off, none⟩) cap l) (hn : n ≤ l.length) (ho : o2 = off + n ∨ cap = n) : Shows w bs (some ⟨bs, o2, none⟩) (cap - n) (l.drop n) := by
  obtain ⟨h1, h2, h3⟩ := h
  have hl : (l.drop n).length = l.length - n := by rw [List.length_drop]
  refine ⟨by omega, by omega, .inr ⟨o2, rfl, fun i hi => ?_⟩⟩
  rw [hl] at hi
  rcases h3 with ⟨ha, _⟩ | ⟨off', ha, hc⟩
  · cases ha
  · obtain rfl : off = off' := by injection ha with ha; injection ha
    rcases ho with rfl | hcap
    · rw [Nat.add_assoc, hc (n + i) (by omega)]
      simp [List.getD]
    · omega
/-- what take answers: the bytes that were taken -/
def Took (br bs : Nat) (l : List Nat) (n : Nat) (e : Int) (w : World) (x : Ending) (w' : World) : Prop :=
  ∃ a cap, x = .returned (.slice a n cap) ∧ Shows w' bs a cap (l.take n) ∧ RAt w' br bs (l.drop n) e ∧ Kept (Only br) w w' ∧ (a = none → l = [])
theorem not_self {a b : Nat} (h : a ≠ b) : ¬ Only a b := fun e => h e.symm
set_option maxHeartbeats 400000 in
theorem take_ok (br bs : Nat) (l : List Nat) (e : Int) (n : Nat) (w : World) (h : RAt w br bs l e) (hn : n ≤ l.length) :
    Calls Tryz.prog 77 #[.pointer (some ⟨br, 0, none⟩), .int .i64 n] w (Took br bs l n e w) := by
  obtain ⟨a, cap, hh, hs, h8, hne, he⟩ := h
  have h1 := hs.1
  have h2 := hs.2.1
  have c0 := cell_heap hh 0
  have f0 := frozen_heap hh 0
  simp at c0
  have HH := Lib.hid hh
  have HS := Lib.hid hs
  have HE := Lib.hid he
  clear hh he
  have hlt : decide (l.length < n) = false := by simpa using hn
  rcases hs.2.2 with ⟨rfl, rfl, rfl⟩ | ⟨off, rfl, hc⟩
  · obtain rfl : n = 0 := by simpa using hn
    clear hs
    simp only [List.length_nil] at *
    go_enter Tryz.func77, Tryz.ntmps77
    go_wp2
    go_ret
    refine ⟨none, 0, rfl, ⟨Nat.le_refl _, by decide, .inl ⟨rfl, rfl, rfl⟩⟩, ⟨none, 0, ?_, ⟨Nat.le_refl _, by decide, .inl ⟨rfl, rfl, rfl⟩⟩, B8.nil, hne, fun _ => rfl⟩, (Kept.refl _ _).setAt (.inl Only.self) _ _, fun _ => rfl⟩
    rw [heap_set HH.out 0]
    rfl
  · clear hs hc
    by_cases hcn : cap = n
    · subst hcn
      go_enter Tryz.func77, Tryz.ntmps77
      go_wp2
      go_ret
      obtain rfl : l.length = cap := by omega
      refine ⟨some ⟨bs, off, none⟩, l.length, rfl, ?_, ⟨some ⟨bs, off, none⟩, 0, ?_, ?_, h8.drop _, hne, fun h => by rw [HE.out h]; rfl⟩, (Kept.refl _ _).setAt (.inl Only.self) _ _, fun h => by cases h⟩
      · exact (fits_left HS.out (Nat.le_refl _)).kept ((Kept.refl _ _).setAt (.inl Only.self) _ _) (fun _ => not_self hne)
      · rw [heap_set HH.out 0]
        simp
      · have := (fits_rest (n := l.length) (o2 := off) HS.out (Nat.le_refl _) (.inr rfl)).kept ((Kept.refl _ _).setAt (.inl Only.self) 0 (.slice (some ⟨bs, off, none⟩) 0 0)) (fun _ => not_self hne)
        simpa using this
    · have HCN := Lib.hid hcn
      have hn1 : n ≤ cap := by omega
      clear hcn
      go_enter Tryz.func77, Tryz.ntmps77
      go_wp2
      go_ret
      refine ⟨some ⟨bs, off, none⟩, cap, rfl, ?_, ⟨some ⟨bs, off + n, none⟩, cap - n, ?_, ?_, h8.drop _, hne, fun h => by rw [HE.out h]; simp⟩, (Kept.refl _ _).setAt (.inl Only.self) _ _, fun h => by cases h⟩
      · exact (fits_left HS.out hn).kept ((Kept.refl _ _).setAt (.inl Only.self) _ _) (fun _ => not_self hne)
      · rw [heap_set HH.out 0]
        simp
      · exact (fits_rest (o2 := off + n) HS.out hn (.inl rfl)).kept ((Kept.refl _ _).setAt (.inl Only.self) _ _) (fun _ => not_self hne)
/-- what is answered where there is an error -/
def Fell (br bs : Nat) (e : Int) (v : Value) (w : World) (x : Ending) (w' : World) : Prop := x = .returned v ∧ RAt w' br bs [] e ∧ Kept (Only br) w w'
set_option maxHeartbeats 400000 in
theorem take_no (br bs : Nat) (l : List Nat) (e : Int) (n : Int) (w : World) (h : RAt w br bs l e) (hn : n < 0 ∨ (l.length : Int) < n) :
    Calls Tryz.prog 77 #[.pointer (some ⟨br, 0, none⟩), .int .i64 n] w (Fell br bs (keep e 3) (.slice none 0 0) w) := by
  have HR := Lib.hid h
  obtain ⟨a, cap, hh, hs, h8, hne, he⟩ := h
  have c0 := cell_heap hh 0
  simp at c0
  clear hh he hs
  by_cases h0 : n < 0
  · clear hn
    go_enter Tryz.func77, Tryz.ntmps77
    go_wp2_with (first | (go_at_call 76; refine (fail_any br bs l e _ _ HR.out).mono ?_; rintro x w' ⟨rfl, h1, h2⟩))
    go_ret
    exact ⟨rfl, h1, h2⟩
  · have hn' : (l.length : Int) < n := by omega
    clear hn
    go_enter Tryz.func77, Tryz.ntmps77
    go_wp2_with (first | (go_at_call 76; refine (fail_any br bs l e _ _ HR.out).mono ?_; rintro x w' ⟨rfl, h1, h2⟩))
    go_ret
    exact ⟨rfl, h1, h2⟩
end Go.Proofs.YtbheofibdogabaaGreat.Pk
end
section
/- Walks of bytes.Clone and of the keeper's Twin. -/
namespace Go.Proofs.YtbheofibdogabaaGreat.Pk
open Go Go.RowKit Mem

theorem infoU8 : (Tryz.prog.info? 5).map (fun i => (i.zero, i.size, i.bytes)) = some (some (.int .u8 0), 1, 1) := by kernel_rfl
theorem eq_nil (w : World) (a : Option Addr) (n c : Nat) : (binOp .eql 26 (.slice a n c) (.slice none 0 0)).run Tryz.prog w = .ok (.bool a.isNone) w := run_eql_nil w _ _ a n c Tryz.underlying26
attribute [local go_sem] eq_nil
/-- new bytes: in a block that was not there, or nil -/
def NewB (l : List Nat) (w : World) (x : Ending) (w' : World) : Prop :=
  ∃ b a cap, x = .returned (.slice a l.length cap) ∧ OwnB 5 w' b a cap l ∧ w.heap.size ≤ b ∧ Kept None w w' ∧ b ≤ w'.heap.size
theorem Of.none {b : Nat} : ∀ k, Of none b k → None k := fun _ h => absurd rfl h.1
set_option maxHeartbeats 400000 in
theorem Clone_any (b : Nat) (a : Option Addr) (cap : Nat) (l : List Nat) (w : World) (h : Src w b a cap l) (hl : l.length ≤ 35184372088832) :
    Calls Tryz.prog 47 #[.slice a l.length cap] w (NewB l w) := by
  obtain ⟨i0, hi, hz0, hz1, hz2⟩ := info_parts infoU8
  have HS := Lib.hid h
  cases a with
  | none =>
    obtain ⟨rfl, rfl⟩ := h.bare
    clear h
    go_enter Tryz.func47, Tryz.ntmps47
    go_wp2
    go_ret
    exact ⟨w.heap.size, none, 0, rfl, .inl ⟨rfl, rfl, rfl⟩, Nat.le_refl _, Kept.refl _ _, Nat.le_refl _⟩
  | some ad =>
    have own0 : OwnB 5 (w.alloc (.cells #[] 5)) w.heap.size (some ⟨w.heap.size, 0, none⟩) 0 [] := own_new (Nat.le_refl _) (by decide) rfl rfl
    clear h
    go_enter Tryz.func47, Tryz.ntmps47
    go_wp2_with (at_builtin; refine wpList_append_bytes rfl _ _ 26 rfl 5 i0 Tryz.underlying26 hi hz0 hz1 hz2 _ _ _ [] 0 rfl own0 rfl b _ cap l _ rfl (HS.out.kept ((Kept.refl None _).alloc _) (fun _ h => h)) rfl (by omega) ?_)
    intro b' a' cap' w' h2 h3 h4 h5
    try simp only [List.nil_append] at h2
    have HO := Lib.hid h2
    clear h2
    go_wp2
    go_ret
    have k0 : Kept None w (w.alloc (.cells #[] 5)) := (Kept.refl _ _).alloc _
    have hsz : (w.alloc (.cells #[] 5)).heap.size = w.heap.size + 1 := by simp
    have k1 : Kept None w w' := k0.trans' h3 (fun k hk => .inr (by rw [hk.2]; exact Nat.le_refl _))
    have hb' : w.heap.size ≤ b' := by rcases h4 with ⟨rfl, _⟩ | h4 <;> omega
    refine ⟨b', a', cap', rfl, HO.out, hb', k1, ?_⟩
    by_cases ha : a' = none
    · rcases h4 with ⟨rfl, _⟩ | h4
      · exact k1.size
      · exact (h5 ha).elim
    · exact Nat.le_of_lt (HO.out.lt ha)
set_option maxHeartbeats 400000 in
theorem Twin_any (b : Nat) (a : Option Addr) (cap : Nat) (l : List Nat) (w : World) (h : Src w b a cap l) (hl : l.length ≤ 35184372088832) :
    Calls Tryz.prog 11 #[.slice a l.length cap] w (NewB l w) := by
  obtain ⟨i0, hi, hz0, hz1, hz2⟩ := info_parts infoU8
  have HS := Lib.hid h
  have own0 : OwnB 5 w w.heap.size none 0 [] := OwnB.nil _ _ _
  clear h
  go_enter Tryz.func11, Tryz.ntmps11
  go_wp2_with (at_builtin; refine wpList_append_bytes rfl _ _ 26 rfl 5 i0 Tryz.underlying26 hi hz0 hz1 hz2 _ _ _ [] 0 rfl own0 rfl b _ cap l _ rfl HS.out rfl (by omega) ?_)
  intro b' a' cap' w' h2 h3 h4 h5
  try simp only [List.nil_append] at h2
  have HO := Lib.hid h2
  clear h2
  go_wp2
  go_ret
  have k1 : Kept None w w' := h3.mono Of.none
  by_cases ha : a' = none
  · subst ha
    exact ⟨w.heap.size, none, cap', rfl, HO.out.move _, Nat.le_refl _, k1, k1.size⟩
  · have hb' : w.heap.size ≤ b' := by rcases h4 with ⟨rfl, _⟩ | h4 <;> omega
    exact ⟨b', a', cap', rfl, HO.out, hb', k1, Nat.le_of_lt (HO.out.lt ha)⟩
/-- a new Reader -/
def NewR (l : List Nat) (w : World) (x : Ending) (w' : World) : Prop :=
  ∃ br bs, x = .returned (.pointer (some ⟨br, 0, none⟩)) ∧ RAt w' br bs l 0 ∧ w.heap.size ≤ br ∧ w.heap.size ≤ bs ∧ Kept None w w'
theorem RAt.of_new {w1 : World} {b : Nat} {a : Option Addr} {cap : Nat} {l : List Nat} (h : OwnB 5 w1 b a cap l) (h8 : B8 l) (hb : a ≠ none → b ≠ w1.heap.size) :
    ∃ bs, RAt (w1.alloc (.cells #[.slice a l.length cap, .int .i64 0] 101)) w1.heap.size bs l 0 ∧ (bs = b ∨ bs = w1.heap.size + 1) := by
  have k : Kept None w1 (w1.alloc (.cells #[.slice a l.length cap, .int .i64 0] 101)) := (Kept.refl _ _).alloc _
  rcases h with ⟨rfl, rfl, rfl⟩ | h
  · exact ⟨w1.heap.size + 1, ⟨none, 0, heap_alloc_new w1 _, ⟨Nat.le_refl _, by decide, .inl ⟨rfl, rfl, rfl⟩⟩, h8, by omega, fun h => absurd rfl h⟩, .inr rfl⟩
  · have ho : OwnB 5 w1 b a cap l := .inr h
    exact ⟨b, ⟨a, cap, heap_alloc_new w1 _, ho.shows.kept k (fun _ h => h), h8, fun e => hb (by rw [h.1]; simp) e.symm, fun h => absurd rfl h⟩, .inl rfl⟩
set_option maxHeartbeats 400000 in
theorem NewReader_any (b : Nat) (a : Option Addr) (cap : Nat) (l : List Nat) (w : World) (h : Src w b a cap l) (hl : l.length ≤ 35184372088832) (h8 : B8 l) :
    Calls Tryz.prog 31 #[.slice a l.length cap] w (NewR l w) := by
  have HS := Lib.hid h
  have H8 := Lib.hid h8
  clear h h8
  go_enter Tryz.func31, Tryz.ntmps31
  go_wp2_with (go_at_call 47; refine (Clone_any b a cap l w HS.out hl).mono ?_; rintro x w1 ⟨b1, a1, cap1, rfl, ho, hb1, k1, hb2⟩; have HO := Lib.hid ho; clear ho)
  go_ret
  obtain ⟨bs, hr, hbs⟩ := RAt.of_new HO.out H8.out (fun ha => by have := HO.out.lt ha; omega)
  have := k1.size
  exact ⟨_, bs, rfl, hr, by omega, by omega, k1.alloc _⟩
set_option maxHeartbeats 1000000 in
theorem Clone_nil (w : World) : Calls Tryz.prog 47 #[.slice none 0 0] w fun x w' => x = .returned (.slice none 0 0) ∧ w = w' := by
  go_enter Tryz.func47, Tryz.ntmps47
  go_wp2
  go_ret
  exact ⟨rfl, rfl⟩
end Go.Proofs.YtbheofibdogabaaGreat.Pk
end
section
/- The Writer: what it holds, and its put. -/
namespace Go.Proofs.YtbheofibdogabaaGreat.Pk
open Go Go.RowKit Mem

/-- A Writer at block bw, whose memory lies in the blocks of S: it holds the bytes l. -/
def WAt (w : World) (bw : Nat) (S : Nat → Prop) (l : List Nat) : Prop :=
  S bw ∧ (∀ k, S k → k < w.heap.size) ∧ B8 l ∧
  ((w.heap[bw]? = some (.cells #[.pointer none, .int .i64 0, .bool false] 58 (0, 0)) ∧ l = []) ∨
   ∃ bp bd a cap, w.heap[bw]? = some (.cells #[.pointer (some ⟨bp, 0, none⟩), .int .i64 l.length, .bool false] 58 (0, 0)) ∧ w.heap[bp]? = some (.cells #[.slice a l.length cap] 26 (0, 0)) ∧
     OwnB 5 w bd a cap l ∧ S bp ∧ (a ≠ none → S bd) ∧ bw ≠ bp ∧ bd ≠ bw ∧ bd ≠ bp)
/-- the same blocks, and those that are new -/
def Grow (S : Nat → Prop) (w w' : World) : Nat → Prop := fun k => S k ∨ (w.heap.size ≤ k ∧ k < w'.heap.size)
theorem WAt.kept {w w' : World} {bw : Nat} {S T : Nat → Prop} {l : List Nat} (h : WAt w bw S l) (hk : Kept T w w') (hd : ∀ k, S k → ¬ T k) : WAt w' bw S l := by
  obtain ⟨h1, h2, h8, h3⟩ := h
  refine ⟨h1, fun k hs => Nat.lt_of_lt_of_le (h2 k hs) hk.size, h8, ?_⟩
  rcases h3 with ⟨hh, hl⟩ | ⟨bp, bd, a, cap, hh, hp, ho, sp, sd, n1, n2, n3⟩
  · exact .inl ⟨hk.heap hh (hd _ h1), hl⟩
  · exact .inr ⟨bp, bd, a, cap, hk.heap hh (hd _ h1), hk.heap hp (hd _ sp), ho.kept hk (fun ha => hd _ (sd ha)), sp, sd, n1, n2, n3⟩
attribute [local go_sem] eq_nil

set_option maxHeartbeats 1000000 in
theorem written_nil (bw : Nat) (w : World) (hh : w.heap[bw]? = some (.cells #[.pointer none, .int .i64 0, .bool false] 58 (0, 0))) :
    Calls Tryz.prog 48 #[.pointer (some ⟨bw, 0, none⟩)] w fun x w' => x = .returned (.slice none 0 0) ∧ w = w' := by
  have c0 := cell_heap hh 0
  simp at c0
  clear hh
  go_enter Tryz.func48, Tryz.ntmps48
  go_wp2
  go_ret
  exact ⟨rfl, rfl⟩
/-- what written answers: the bytes themselves -/
def Wrote (l : List Nat) (a : Option Addr) (cap : Nat) (w : World) (x : Ending) (w' : World) : Prop := x = .returned (.slice a l.length cap) ∧ ∃ n, w' = w.drewN n
set_option maxHeartbeats 1000000 in
theorem written_some (bw bp : Nat) (a : Option Addr) (cap : Nat) (l : List Nat) (w : World) (hh : w.heap[bw]? = some (.cells #[.pointer (some ⟨bp, 0, none⟩), .int .i64 l.length, .bool false] 58 (0, 0))) (hp : w.heap[bp]? = some (.cells #[.slice a l.length cap] 26 (0, 0)))
    (hl : l.length ≤ cap) :
    Calls Tryz.prog 48 #[.pointer (some ⟨bw, 0, none⟩)] w (Wrote l a cap w) := by
  have c0 := cell_heap hh 0
  have c1 := cell_heap hh 1
  have p0 := cell_heap hp 0
  simp at c0 c1 p0
  clear hh hp
  cases a
  all_goals
    go_enter Tryz.func48, Tryz.ntmps48
    go_wp2
    go_quiet (fail)
    go_wp2
    go_ret
    exact ⟨rfl, _, rfl⟩
end Go.Proofs.YtbheofibdogabaaGreat.Pk
end
