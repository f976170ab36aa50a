import Derived.Test.YtjdebdfbjcpjgaaMergeWr9
import Derived.Laws.Rows
import Derived.Deep.MidRow
import Derived.Test.YtjdebdfbjcpjgaaChecked
import Derived.Test.YtjdebdfbjcpjgaaMergeWr1
import Derived.WalkKit
import Derived.WalkSpells
import Derived.WalkLawsBesides
import Derived.Lib.Hide
import Derived.Outline
import Derived.BigGuardPart
import Derived.Deep.QuietTactic
import Derived.BigQuiet
import Derived.LoopTactic
section
/- Blocks of a call's own, any number of them; a struct's cells stored one behind the other. For any program. -/
namespace Go.Proofs.Ytjdebdfbjcpjgaa.Bh
open Go Go.RowKit

/-- cells stored one behind the other, from i on -/
def setFrom (w : World) (b : Nat) : Nat → List Value → World
  | _, [] => w
  | i, x :: r => setFrom (w.setCell ⟨b, i, none⟩ x) b (i + 1) r
theorem setFrom_heap {b : Nat} {t : TypeId} (xs : List Value) : ∀ (w : World) (i : Nat) (cur : List Value), w.heap[b]? = some (.cells cur.toArray t) → i + xs.length = cur.length →
    (setFrom w b i xs).heap[b]? = some (.cells (cur.take i ++ xs).toArray t) := by
  induction xs with
  | nil => intro w i cur h hl; simp at hl; subst hl; simpa [setFrom] using h
  | cons x r ih =>
    intro w i cur h hl
    rw [List.length_cons] at hl
    have h2 := ih (w.setCell ⟨b, i, none⟩ x) (i + 1) (cur.set i x) (by rw [heap_set x h, List.setIfInBounds_toArray]) (by rw [List.length_set]; omega)
    show (setFrom (w.setCell ⟨b, i, none⟩ x) b (i + 1) r).heap[b]? = _
    rw [h2]
    have e : (cur.set i x).take (i + 1) = cur.take i ++ [x] := by
      have hi : i < cur.length := by omega
      rw [List.take_succ_eq_append_getElem (by rw [List.length_set]; exact hi), List.getElem_set_self, List.take_set_of_le (Nat.le_refl _)]
    rw [e, List.append_assoc]
    rfl
theorem setFrom_full {w : World} {b : Nat} {t : TypeId} {cur : Array Value} {xs : List Value} (h : w.heap[b]? = some (.cells cur t)) (hl : xs.length = cur.size) : (setFrom w b 0 xs).heap[b]? = some (.cells xs.toArray t) := by
  have := setFrom_heap xs w 0 cur.toList (by simpa using h) (by simpa using hl)
  simpa using this
theorem setFrom_other {b n : Nat} (hn : n ≠ b) (xs : List Value) : ∀ (w : World) (i : Nat), (setFrom w b i xs).heap[n]? = w.heap[n]? := by
  induction xs with
  | nil => intro w i; rfl
  | cons x r ih => intro w i; exact (ih _ _).trans (Below.heap_setCell _ _ _ _ hn)
theorem Beh.setFrom {w0 : World} {b : Nat} (hb : w0.heap.size ≤ b) (xs : List Value) : ∀ {w : World} (i : Nat), Beh w0 w → Beh w0 (Bh.setFrom w b i xs) := by
  induction xs with
  | nil => intro w i h; exact h
  | cons x r ih => intro w i h; exact ih (i + 1) (h.set hb i x)
theorem setFrom_size {b : Nat} (xs : List Value) : ∀ (w : World) (i : Nat), (setFrom w b i xs).heap.size = w.heap.size := by
  induction xs with
  | nil => intro w i; rfl
  | cons x r ih => intro w i; exact (ih _ _).trans (by simp [World.setCell])
/-- blocks that a call has laid, in their order -/
structure Bx (w : World) (l : List Obj) (W : World) : Prop where
  beh : Beh w W
  box : ∀ i o, l[i]? = some o → W.heap[w.heap.size + i]? = some o
theorem Bx.nil (w : World) : Bx w [] w := ⟨Beh.start w, fun i o h => by simp at h⟩
theorem Bx.lt {w W : World} {l : List Obj} (h : Bx w l W) : w.heap.size + l.length ≤ W.heap.size := by
  rcases Nat.eq_zero_or_pos l.length with h0 | h0
  · rw [h0]; exact h.beh.size
  · have := heap_lt (h.box (l.length - 1) _ (List.getElem?_eq_getElem (by omega)))
    omega
theorem Bx.on {w W W' : World} {l : List Obj} (h : Bx w l W) (hb : Below W.heap.size W W') : Bx w l W' := ⟨h.beh.on hb, fun i o ho => box_on (h.box i o ho) hb⟩
theorem Bx.drewN {w W : World} {l : List Obj} (h : Bx w l W) (n : Nat) : Bx w l (W.drewN n) := ⟨h.beh.drewN n, h.box⟩
theorem Bx.drew {w W : World} {l : List Obj} (h : Bx w l W) : Bx w l W.drew := ⟨h.beh.drew, h.box⟩
/-- another block, which is not told of -/
theorem Bx.alloc {w W : World} {l : List Obj} (h : Bx w l W) (o : Obj) : Bx w l (W.alloc o) := h.on (below_alloc _ _)
/-- the first blocks of a call -/
theorem Bx.one (w : World) (o : Obj) : Bx w [o] (w.alloc o) := ⟨below_alloc w o, fun i x h => by
  match i, h with
  | 0, h => simp at h; subst h; exact alloc_here _ (by simp)⟩
theorem Bx.two (w : World) (o p : Obj) : Bx w [o, p] ((w.alloc o).alloc p) := ⟨below_alloc2 w o p, fun i x h => by
  match i, h with
  | 0, h => simp at h; subst h; exact alloc_old p (alloc_here o (by simp))
  | 1, h => simp at h; subst h; exact alloc_here p (by simp)⟩
theorem Bx.three (w : World) (o p q : Obj) : Bx w [o, p, q] (((w.alloc o).alloc p).alloc q) := ⟨(below_alloc2 w o p).alloc (below_alloc2 w o p).size q, fun i x h => by
  match i, h with
  | 0, h => simp at h; subst h; exact alloc_old q (alloc_old p (alloc_here o (by simp)))
  | 1, h => simp at h; subst h; exact alloc_old q (alloc_here p (by simp))
  | 2, h => simp at h; subst h; exact alloc_here q (by simp)⟩
theorem Bx.b0 {w W : World} {o : Obj} {r : List Obj} (h : Bx w (o :: r) W) : W.heap[w.heap.size]? = some o := h.box 0 o rfl
theorem Bx.b1 {w W : World} {o p : Obj} {r : List Obj} (h : Bx w (o :: p :: r) W) : W.heap[w.heap.size + 1]? = some p := h.box 1 p rfl
theorem Bx.b2 {w W : World} {o p q : Obj} {r : List Obj} (h : Bx w (o :: p :: q :: r) W) : W.heap[w.heap.size + 1 + 1]? = some q := h.box 2 q rfl
theorem Bx.b3 {w W : World} {o p q s : Obj} {r : List Obj} (h : Bx w (o :: p :: q :: s :: r) W) : W.heap[w.heap.size + 1 + 1 + 1]? = some s := h.box 3 s rfl
/-- one more block, right behind them -/
theorem Bx.next {w W : World} {l : List Obj} (h : Bx w l W) (he : W.heap.size = w.heap.size + l.length) (o : Obj) : Bx w (l ++ [o]) (W.alloc o) := ⟨h.beh.alloc o, fun i x hx => by
  rcases Nat.lt_or_ge i l.length with hi | hi
  · rw [List.getElem?_append_left hi] at hx
    exact alloc_old o (h.box i x hx)
  · rw [List.getElem?_append_right hi] at hx
    have hx0 : i - l.length = 0 := by
      rcases Nat.eq_zero_or_pos (i - l.length) with h0 | h0
      · exact h0
      · rw [List.getElem?_eq_none (by simp; omega)] at hx; cases hx
    rw [hx0] at hx
    simp at hx
    subst hx
    exact alloc_here o (by omega)⟩
/-- all cells of one of them stored -/
theorem Bx.set {w W : World} {l : List Obj} {cur : Array Value} {t : TypeId} (h : Bx w l W) (i : Nat) (xs : List Value) (hi : l[i]? = some (.cells cur t)) (hl : xs.length = cur.size) : Bx w (l.set i (.cells xs.toArray t)) (setFrom W (w.heap.size + i) 0 xs) :=
  ⟨Beh.setFrom (Nat.le_add_right _ _) xs 0 h.beh, fun j o ho => by
    by_cases e : j = i
    · subst e
      have hlt : j < l.length := (List.getElem?_eq_some_iff.1 hi).1
      rw [List.getElem?_set_self hlt] at ho
      injection ho with ho
      subst ho
      exact setFrom_full (h.box j _ hi) hl
    · rw [List.getElem?_set_ne (fun e2 => e e2.symm)] at ho
      rw [setFrom_other (by omega)]
      exact h.box j o ho⟩
/-- one cell of one of them stored -/
theorem Bx.set1 {w W : World} {l : List Obj} {cur : Array Value} {t : TypeId} (h : Bx w l W) (i j : Nat) (x : Value) (hi : l[i]? = some (.cells cur t)) : Bx w (l.set i (.cells (cur.setIfInBounds j x) t)) (W.setCell ⟨w.heap.size + i, j, none⟩ x) :=
  ⟨h.beh.set (Nat.le_add_right _ _) j x, fun k o ho => by
    by_cases e : k = i
    · subst e
      have hlt : k < l.length := (List.getElem?_eq_some_iff.1 hi).1
      rw [List.getElem?_set_self hlt] at ho
      injection ho with ho
      subst ho
      exact heap_set x (h.box k _ hi)
    · rw [List.getElem?_set_ne (fun e2 => e e2.symm)] at ho
      rw [Below.heap_setCell _ _ _ _ (by show w.heap.size + k ≠ w.heap.size + i; omega)]
      exact h.box k o ho⟩
theorem Beh.st4 {w0 w : World} (h : Beh w0 w) {b : Nat} (hb : w0.heap.size ≤ b) (x0 x1 x2 x3 : Value) : Beh w0 ((((w.setCell ⟨b, 0, none⟩ x0).setCell ⟨b, 1, none⟩ x1).setCell ⟨b, 2, none⟩ x2).setCell ⟨b, 3, none⟩ x3) := Beh.setFrom hb [x0, x1, x2, x3] 0 h
theorem Bx.st4 {w0 w : World} {l : List Obj} {b : Nat} {y0 y1 y2 y3 : Value} {t : TypeId} (h : Bx w0 l w) (i : Nat) (hb : w0.heap.size + i = b) (hi : l[i]? = some (.cells #[y0, y1, y2, y3] t)) (x0 x1 x2 x3 : Value) : Bx w0 (l.set i (.cells #[x0, x1, x2, x3] t)) ((((w.setCell ⟨b, 0, none⟩ x0).setCell ⟨b, 1, none⟩ x1).setCell ⟨b, 2, none⟩ x2).setCell ⟨b, 3, none⟩ x3) := by
  subst hb
  exact h.set i [x0, x1, x2, x3] hi rfl
theorem Beh.st10 {w0 w : World} (h : Beh w0 w) {b : Nat} (hb : w0.heap.size ≤ b) (x0 x1 x2 x3 x4 x5 x6 x7 x8 x9 : Value) : Beh w0 ((((((((((w.setCell ⟨b, 0, none⟩ x0).setCell ⟨b, 1, none⟩ x1).setCell ⟨b, 2, none⟩ x2).setCell ⟨b, 3, none⟩ x3).setCell ⟨b, 4, none⟩ x4).setCell ⟨b, 5, none⟩ x5).setCell ⟨b, 6, none⟩ x6).setCell ⟨b, 7, none⟩ x7).setCell ⟨b, 8, none⟩ x8).setCell ⟨b, 9, none⟩ x9) := Beh.setFrom hb [x0, x1, x2, x3, x4, x5, x6, x7, x8, x9] 0 h
theorem Bx.st10 {w0 w : World} {l : List Obj} {b : Nat} {y0 y1 y2 y3 y4 y5 y6 y7 y8 y9 : Value} {t : TypeId} (h : Bx w0 l w) (i : Nat) (hb : w0.heap.size + i = b) (hi : l[i]? = some (.cells #[y0, y1, y2, y3, y4, y5, y6, y7, y8, y9] t)) (x0 x1 x2 x3 x4 x5 x6 x7 x8 x9 : Value) : Bx w0 (l.set i (.cells #[x0, x1, x2, x3, x4, x5, x6, x7, x8, x9] t)) ((((((((((w.setCell ⟨b, 0, none⟩ x0).setCell ⟨b, 1, none⟩ x1).setCell ⟨b, 2, none⟩ x2).setCell ⟨b, 3, none⟩ x3).setCell ⟨b, 4, none⟩ x4).setCell ⟨b, 5, none⟩ x5).setCell ⟨b, 6, none⟩ x6).setCell ⟨b, 7, none⟩ x7).setCell ⟨b, 8, none⟩ x8).setCell ⟨b, 9, none⟩ x9) := by
  subst hb
  exact h.set i [x0, x1, x2, x3, x4, x5, x6, x7, x8, x9] hi rfl
theorem Beh.st16 {w0 w : World} (h : Beh w0 w) {b : Nat} (hb : w0.heap.size ≤ b) (x0 x1 x2 x3 x4 x5 x6 x7 x8 x9 x10 x11 x12 x13 x14 x15 : Value) : Beh w0 ((((((((((((((((w.setCell ⟨b, 0, none⟩ x0).setCell ⟨b, 1, none⟩ x1).setCell ⟨b, 2, none⟩ x2).setCell ⟨b, 3, none⟩ x3).setCell ⟨b, 4, none⟩ x4).setCell ⟨b, 5, none⟩ x5).setCell ⟨b, 6, none⟩ x6).setCell ⟨b, 7, none⟩ x7).setCell ⟨b, 8, none⟩ x8).setCell ⟨b, 9, none⟩ x9).setCell ⟨b, 10, none⟩ x10).setCell ⟨b, 11, none⟩ x11).setCell ⟨b, 12, none⟩ x12).setCell ⟨b, 13, none⟩ x13).setCell ⟨b, 14, none⟩ x14).setCell ⟨b, 15, none⟩ x15) := Beh.setFrom hb [x0, x1, x2, x3, x4, x5, x6, x7, x8, x9, x10, x11, x12, x13, x14, x15] 0 h
theorem Bx.st16 {w0 w : World} {l : List Obj} {b : Nat} {y0 y1 y2 y3 y4 y5 y6 y7 y8 y9 y10 y11 y12 y13 y14 y15 : Value} {t : TypeId} (h : Bx w0 l w) (i : Nat) (hb : w0.heap.size + i = b) (hi : l[i]? = some (.cells #[y0, y1, y2, y3, y4, y5, y6, y7, y8, y9, y10, y11, y12, y13, y14, y15] t)) (x0 x1 x2 x3 x4 x5 x6 x7 x8 x9 x10 x11 x12 x13 x14 x15 : Value) : Bx w0 (l.set i (.cells #[x0, x1, x2, x3, x4, x5, x6, x7, x8, x9, x10, x11, x12, x13, x14, x15] t)) ((((((((((((((((w.setCell ⟨b, 0, none⟩ x0).setCell ⟨b, 1, none⟩ x1).setCell ⟨b, 2, none⟩ x2).setCell ⟨b, 3, none⟩ x3).setCell ⟨b, 4, none⟩ x4).setCell ⟨b, 5, none⟩ x5).setCell ⟨b, 6, none⟩ x6).setCell ⟨b, 7, none⟩ x7).setCell ⟨b, 8, none⟩ x8).setCell ⟨b, 9, none⟩ x9).setCell ⟨b, 10, none⟩ x10).setCell ⟨b, 11, none⟩ x11).setCell ⟨b, 12, none⟩ x12).setCell ⟨b, 13, none⟩ x13).setCell ⟨b, 14, none⟩ x14).setCell ⟨b, 15, none⟩ x15) := by
  subst hb
  exact h.set i [x0, x1, x2, x3, x4, x5, x6, x7, x8, x9, x10, x11, x12, x13, x14, x15] hi rfl
/-- a whole struct stored -/
theorem setRow_any {w : World} {b n : Nat} (hn : n ≠ b) (cs : Array Value) : (w.setRow b cs).heap[n]? = w.heap[n]? := setRow_other w b n cs hn
theorem Beh.row {w0 w : World} (h : Beh w0 w) {b : Nat} (hb : w0.heap.size ≤ b) (cs : Array Value) : Beh w0 (w.setRow b cs) := by
  refine Below.trans h (⟨rfl, rfl, rfl, by simp, fun k hk => setRow_any (by omega) cs⟩ : Below w0.heap.size w (w.setRow b cs))
theorem Bx.row {w W : World} {l : List Obj} {cur : Array Value} {t : TypeId} (h : Bx w l W) (i : Nat) {b : Nat} (hb : w.heap.size + i = b) (hi : l[i]? = some (.cells cur t)) (cs : Array Value) : Bx w (l.set i (.cells cs t)) (W.setRow b cs) := by
  subst hb
  refine ⟨h.beh.row (Nat.le_add_right _ _) cs, fun j o ho => ?_⟩
  by_cases e : j = i
  · subst e
    have hlt : j < l.length := (List.getElem?_eq_some_iff.1 hi).1
    rw [List.getElem?_set_self hlt] at ho
    injection ho with ho
    subst ho
    exact setRow_heap _ _ _ _ _ _ (h.box j _ hi)
  · rw [List.getElem?_set_ne (fun e2 => e e2.symm)] at ho
    rw [setRow_any (by omega)]
    exact h.box j o ho
/-- a whole struct of n cells stored into the block i of the call's own; behind it: rfl (block), rfl (guard), rfl (op), rfl (address), rfl (value), rfl, kernel_rfl, rfl, rfl -/
theorem store_bx {P : Program} {ops : Array Oper} {rest : List Oper} {o : Oper} {a : Go.Act} {w0 w : World} {l : List Obj} {Q : Exit → Go.Act → World → Prop} (n i : Nat) (HB : Bx w0 l w) {t : TypeId} {old : Array Value} (hl : l[i]? = some (.cells old t))
    {ty : TypeId} {x y : Operand} {cells : Array Value} (hgd : o.guard = none) (ho : o.op = .store ty x y)
    (hx : a.eval x = .pointer (some ⟨w0.heap.size + i, 0, none⟩)) (hy : a.eval y = .agg cells) (hn : old.size = n) (hi : (P.info? ty).map (·.size) = some n) (hc : cells.size = n) (h1 : cells.toList.all (·.oneCell') = true)
    (h : ∀ w', Bx w0 (l.set i (.cells cells t)) w' → wpList P ops Q rest (a.put o.dst undef) w') : wpList P ops Q (o :: rest) a w :=
  wpList_store_row hgd ty x y ho _ cells hx hy t old (HB.box i _ hl) (hi.trans (by rw [hc])) (by rw [hn, hc]) (by rw [← h1, Array.all_toList]) (h _ (HB.row i rfl hl cells))
/-- all but one block is as it was -/
structure Else (b : Nat) (w w' : World) : Prop where
  os : w'.os = w.os
  tape : w'.tape = w.tape
  output : w'.output = w.output
  size : w'.heap.size = w.heap.size
  block : ∀ k, k ≠ b → w'.heap[k]? = w.heap[k]?
theorem Else.row (b : Nat) (w : World) (cs : Array Value) : Else b w (w.setRow b cs) := ⟨rfl, rfl, rfl, by simp, fun _ hk => setRow_any hk cs⟩
theorem Else.set (b j : Nat) (w : World) (v : Value) : Else b w (w.setCell ⟨b, j, none⟩ v) := ⟨rfl, rfl, rfl, by simp [World.setCell], fun _ hk => Below.heap_setCell _ _ _ _ hk⟩
/-- store_bx, with what is known of the other blocks -/
theorem store_bk {P : Program} {ops : Array Oper} {rest : List Oper} {o : Oper} {a : Go.Act} {w0 w : World} {l : List Obj} {Q : Exit → Go.Act → World → Prop} (n i : Nat) (HB : Bx w0 l w) {t : TypeId} {old : Array Value} (hl : l[i]? = some (.cells old t))
    {ty : TypeId} {x y : Operand} {cells : Array Value} (hgd : o.guard = none) (ho : o.op = .store ty x y)
    (hx : a.eval x = .pointer (some ⟨w0.heap.size + i, 0, none⟩)) (hy : a.eval y = .agg cells) (hn : old.size = n) (hi : (P.info? ty).map (·.size) = some n) (hc : cells.size = n) (h1 : cells.toList.all (·.oneCell') = true)
    (h : ∀ w', Bx w0 (l.set i (.cells cells t)) w' → Else (w0.heap.size + i) w w' → wpList P ops Q rest (a.put o.dst undef) w') : wpList P ops Q (o :: rest) a w :=
  wpList_store_row hgd ty x y ho _ cells hx hy t old (HB.box i _ hl) (hi.trans (by rw [hc])) (by rw [hn, hc]) (by rw [← h1, Array.all_toList]) (h _ (HB.row i rfl hl cells) (Else.row _ _ _))
/-- a whole struct loaded out of the block i; behind it: rfl (block), rfl (type), rfl (guard), rfl (op), rfl (address), rfl, kernel_rfl -/
theorem load_bx {P : Program} {ops : Array Oper} {rest : List Oper} {o : Oper} {a : Go.Act} {w0 w : World} {l : List Obj} {Q : Exit → Go.Act → World → Prop} (i : Nat) (HB : Bx w0 l w) {ty : TypeId} {d : TypeDesc} (hu : P.underlying ty = some d) {t : TypeId} {cs : Array Value} (hl : l[i]? = some (.cells cs t))
    {x : Operand} (hgd : o.guard = none) (ho : o.op = .load ty x) (hx : a.eval x = .pointer (some ⟨w0.heap.size + i, 0, none⟩))
    (hd : (match d with | .struct _ | .array _ _ => true | _ => false) = true) (hi : (P.info? ty).map (·.size) = some cs.size)
    (h : wpList P ops Q rest (a.put o.dst (.agg cs)) w) : wpList P ops Q (o :: rest) a w :=
  wpList_load_row hgd ty x ho _ hx t cs (0, 0) d (HB.box i _ hl) hu hd hi h
/-- a struct loaded out of the middle of a row; behind it: rfl; rfl; rfl; rfl; kernel_rfl -/
theorem load_m {P : Program} {ops : Array Oper} {rest : List Oper} {op : Oper} {a : Go.Act} {w : World} {Q : Exit → Go.Act → World → Prop} {b o : Nat} {cs : List Value} (hc : w.rangeAt b o cs)
    {ty : TypeId} {d : TypeDesc} (hu : P.underlying ty = some d) {x : Operand} (hgd : op.guard = none) (ho : op.op = .load ty x) (hx : a.eval x = .pointer (some ⟨b, o, none⟩))
    (hd : d.isRow = true) (hi : (P.info? ty).map (·.size) = some cs.length)
    (h : wpList P ops Q rest (a.put op.dst (.agg cs.toArray)) w) : wpList P ops Q (op :: rest) a w :=
  wpList_load_mid hgd ty x ho b o hx cs d hc hu hd hi h
/-- one cell of a block stored; behind it: rfl (block), by rfl-like (size), rfl (guard), rfl (op), rfl (address), rfl (value), rfl (one cell), kernel_rfl (size of the type) -/
theorem store1_bx {P : Program} {ops : Array Oper} {rest : List Oper} {o : Oper} {a : Go.Act} {w0 w : World} {l : List Obj} {Q : Exit → Go.Act → World → Prop} (i j : Nat) (HB : Bx w0 l w) {t : TypeId} {old : Array Value} (hl : l[i]? = some (.cells old t)) (hj : decide (j < old.size) = true)
    {ty : TypeId} {x y : Operand} {v : Value} (hgd : o.guard = none) (ho : o.op = .store ty x y)
    (hx : a.eval x = .pointer (some ⟨w0.heap.size + i, j, none⟩)) (hy : a.eval y = v) (hone : v.oneCell' = true) (hi : (P.info? ty).map (·.size) = some 1)
    (h : ∀ w', Bx w0 (l.set i (.cells (old.setIfInBounds j v) t)) w' → wpList P ops Q rest (a.put o.dst undef) w') : wpList P ops Q (o :: rest) a w :=
  wpList_plain hgd fun _ hK => by
    have hc : v.cells = #[v] := by cases v <;> first | rfl | cases hone
    have hb := HB.box i _ hl
    have hjj := of_decide_eq_true hj
    have e : (storeVar ty ⟨w0.heap.size + i, j, none⟩ v).run P w = .ok () (w.setCell ⟨w0.heap.size + i, j, none⟩ v) := by
      have h2 : storeVar ty ⟨w0.heap.size + i, j, none⟩ v = storeVar ty ⟨w0.heap.size + i, j, none⟩ (.agg #[v]) := by
        unfold storeVar
        rw [hc]
        rfl
      rw [h2, run_storeVar_mid w (w0.heap.size + i) j ty #[v] (fun k hk => by
        obtain rfl : k = 0 := by simp at hk; omega
        refine ⟨?_, frozen_of hb _⟩
        rw [cell_of_row w _ _ _ _ _ hb]
        simp [hjj]) (by simpa using hi) (by simp [hone])]
      rfl
    unfold Oper.wp execOp
    simp only [ho, hx, hy, Instr.storeAt, Instr.sureAddr, Sem.run_bind, Sem.run_pure, Result.andThen_ok, e]
    exact hK _ _ (h _ (HB.set1 i j v hl))
/-- the same, with what is known of the other blocks; behind it: rfl (block), by rfl-like (size), rfl (guard), rfl (op), rfl (address), rfl (value), rfl (one cell), kernel_rfl (size of the type) -/
theorem store1_bk {P : Program} {ops : Array Oper} {rest : List Oper} {o : Oper} {a : Go.Act} {w0 w : World} {l : List Obj} {Q : Exit → Go.Act → World → Prop} (i j : Nat) (HB : Bx w0 l w) {t : TypeId} {old : Array Value} (hl : l[i]? = some (.cells old t)) (hj : decide (j < old.size) = true)
    {ty : TypeId} {x y : Operand} {v : Value} (hgd : o.guard = none) (ho : o.op = .store ty x y)
    (hx : a.eval x = .pointer (some ⟨w0.heap.size + i, j, none⟩)) (hy : a.eval y = v) (hone : v.oneCell' = true) (hi : (P.info? ty).map (·.size) = some 1)
    (h : ∀ w', Bx w0 (l.set i (.cells (old.setIfInBounds j v) t)) w' → Else (w0.heap.size + i) w w' → wpList P ops Q rest (a.put o.dst undef) w') : wpList P ops Q (o :: rest) a w :=
  wpList_plain hgd fun _ hK => by
    have hc : v.cells = #[v] := by cases v <;> first | rfl | cases hone
    have hb := HB.box i _ hl
    have hjj := of_decide_eq_true hj
    have e : (storeVar ty ⟨w0.heap.size + i, j, none⟩ v).run P w = .ok () (w.setCell ⟨w0.heap.size + i, j, none⟩ v) := by
      have h2 : storeVar ty ⟨w0.heap.size + i, j, none⟩ v = storeVar ty ⟨w0.heap.size + i, j, none⟩ (.agg #[v]) := by
        unfold storeVar
        rw [hc]
        rfl
      rw [h2, run_storeVar_mid w (w0.heap.size + i) j ty #[v] (fun k hk => by
        obtain rfl : k = 0 := by simp at hk; omega
        refine ⟨?_, frozen_of hb _⟩
        rw [cell_of_row w _ _ _ _ _ hb]
        simp [hjj]) (by simpa using hi) (by simp [hone])]
      rfl
    unfold Oper.wp execOp
    simp only [ho, hx, hy, Instr.storeAt, Instr.sureAddr, Sem.run_bind, Sem.run_pure, Result.andThen_ok, e]
    exact hK _ _ (h _ (HB.set1 i j v hl) (Else.set _ _ _ _))
/-- a result of a struct's type alone -/
theorem results_cell_row1 {P : Program} {fn : Func} {p : Tmp} {ty : TypeId} (h : fn.results = #[.cell p ty]) (tmps : Array Value) (w : World) (g : Nat) (t : TypeId) (cs : Array Value) (fr : Nat × Nat) (d : TypeDesc)
    (hp : tmps.getD p undef = .pointer (some ⟨g, 0, none⟩)) (hg : w.heap[g]? = some (.cells cs t fr))
    (hu : P.underlying ty = some d) (hd : (match d with | .struct _ | .array _ _ => true | _ => false) = true) (hi : (P.info? ty).map (·.size) = some cs.size) :
    (results fn tmps).run P w = .ok (.agg cs) w := results_cell_row h tmps w g t cs fr d hp hg hu hd hi
theorem results_cell_row2 {P : Program} {fn : Func} {p u : Tmp} {ty : TypeId} (h : fn.results = #[.cell p ty, .tmp u]) (tmps : Array Value) (w : World) (g : Nat) (t : TypeId) (cs : Array Value) (fr : Nat × Nat) (d : TypeDesc)
    (hp : tmps.getD p undef = .pointer (some ⟨g, 0, none⟩)) (hg : w.heap[g]? = some (.cells cs t fr))
    (hu : P.underlying ty = some d) (hd : (match d with | .struct _ | .array _ _ => true | _ => false) = true) (hi : (P.info? ty).map (·.size) = some cs.size) :
    (results fn tmps).run P w = .ok (.tuple #[.agg cs, tmps.getD u undef]) w := by
  have hp' : tmps[p]?.getD undef = .pointer (some ⟨g, 0, none⟩) := by simpa using hp
  rw [results_cell_tmp h]
  simp [hp', asAddr, run_loadVar_row w g t ty cs fr d hg hu hd hi, Result.andThen]
end Go.Proofs.Ytjdebdfbjcpjgaa.Bh
end
section
/- What every stage wants of memory: blocks known whole, bytes that a loop appends, what fits. For any program with bytes. -/
namespace Go.Proofs.Ytjdebdfbjcpjgaa.Kp
open Go Go.RowKit Mem

theorem ret_int {k : IntKind} {a b : Int} (h : a = b) : Ending.returned (.int k a) = .returned (.int k b) := by rw [h]
theorem ret_bool {a b : Bool} (h : a = b) : Ending.returned (.bool a) = .returned (.bool b) := by rw [h]
theorem cell_heap {w : World} {b : Nat} {c : Array Value} {t : TypeId} {f : Nat × Nat} (h : w.heap[b]? = some (.cells c t f)) (i : Nat) : w.cell? ⟨b, i, none⟩ = c[i]? := by
  simp [World.cell?, h]
theorem frozen_heap {w : World} {b : Nat} {c : Array Value} {t : TypeId} (h : w.heap[b]? = some (.cells c t (0, 0))) (i : Nat) : w.frozen? ⟨b, i, none⟩ = false := by
  simp [World.frozen?, h]
theorem heap_set {w : World} {b : Nat} {c : Array Value} {t : TypeId} {f : Nat × Nat} (h : w.heap[b]? = some (.cells c t f)) (i : Nat) (v : Value) : (w.setCell ⟨b, i, none⟩ v).heap[b]? = some (.cells (c.setIfInBounds i v) t f) := by
  simp [World.setCell, Array.getElem?_modify, h]
theorem heap_set_other {w : World} {b : Nat} {o : Obj} (h : w.heap[b]? = some o) {a : Addr} (ha : a.block ≠ b) (v : Value) : (w.setCell a v).heap[b]? = some o := by
  rw [Below.heap_setCell _ _ _ _ (fun e => ha e.symm)]; exact h

theorem infoU8 : (Try.prog.info? 5).map (fun i => (i.zero, i.size, i.bytes)) = some (some (.int .u8 0), 1, 1) := by kernel_rfl
theorem eq_nil (w : World) (a : Option Addr) (n c : Nat) : (binOp .eql 33 (.slice a n c) (.slice none 0 0)).run Try.prog w = .ok (.bool a.isNone) w := run_eql_nil w _ _ a n c Try.underlying33
attribute [local go_sem] eq_nil
/-- new bytes: in a block that was not there, or nil -/
def NewB (l : List Nat) (w : World) (x : Ending) (w' : World) : Prop :=
  ∃ b a cap, x = .returned (.slice a l.length cap) ∧ OwnB 5 w' b a cap l ∧ w.heap.size ≤ b ∧ Kept None w w' ∧ b ≤ w'.heap.size
theorem of_none {b : Nat} : ∀ k, Of none b k → None k := fun _ h => absurd rfl h.1
/-- the head of an array that the call has made -/
theorem shows_made {w : World} {b : Nat} {C : Array Value} {t : TypeId} {f : Nat × Nat} {m : List Nat} {cap : Nat} (h : w.heap[b]? = some (.cells C t f)) (hC : C.toList.take m.length = m.map byteV) (h1 : m.length ≤ cap) (h2 : cap ≤ 9223372036854775807) : Shows w b (some ⟨b, 0, none⟩) cap m := by
  refine ⟨h1, h2, .inr ⟨0, rfl, fun i hi => ?_⟩⟩
  rw [Nat.zero_add, cell_heap h i]
  have e : (C.toList.take m.length)[i]? = (m.map byteV)[i]? := by rw [hC]
  rw [List.getElem?_take_of_lt hi] at e
  rw [← Array.getElem?_toList, e]
  simp [byteV, hi]
theorem shows_lit (w : World) (t : TypeId) (v : Int) (x : Nat) (hv : v = (x : Int)) : Src (w.alloc (.cells #[.int .u8 v] t)) w.heap.size (some ⟨w.heap.size, 0, none⟩) 1 [x] := by
  subst hv
  exact (shows_made (m := [x]) (cap := 1) (heap_alloc_new w _) rfl (Nat.le_refl 1) (by decide)).src
/-- bytes of its own that a loop has appended to: in a block that was not there when the call began -/
def Mine (w wr : World) (v : Value) (l : List Nat) : Prop := ∃ b a cap, v = .slice a l.length cap ∧ OwnB 5 wr b a cap l ∧ w.heap.size ≤ b ∧ b ≤ wr.heap.size ∧ Kept None w wr
theorem Mine.start (w : World) : Mine w w (.slice none 0 0) [] := ⟨w.heap.size, none, 0, rfl, OwnB.nil _ _ _, Nat.le_refl _, Nat.le_refl _, Kept.refl _ _⟩
/-- behind an append (in wa: the world in which it is done) -/
theorem mine_append {w wr wa w' : World} {b b' : Nat} {a a' : Option Addr} {cap' : Nat} {l : List Nat} (hb : w.heap.size ≤ b) (hk : Kept None w wr) (ha : Kept None wr wa) (h2 : OwnB 5 w' b' a' cap' l) (h3 : Kept (Of a b) wa w') (h4 : (b' = b ∧ (a' = none ∨ a ≠ none)) ∨ wa.heap.size ≤ b') :
    Mine w w' (.slice a' l.length cap') l := by
  have k1 : Kept None w w' := (hk.trans ha).trans' h3 (fun x hx => .inr (by rw [hx.2]; exact hb))
  by_cases hn : a' = none
  · subst hn
    exact ⟨w'.heap.size, none, cap', rfl, h2.move _, k1.size, Nat.le_refl _, k1⟩
  · have := (hk.trans ha).size
    exact ⟨b', a', cap', rfl, h2, by rcases h4 with ⟨rfl, _⟩ | h4 <;> omega, Nat.le_of_lt (h2.lt hn), k1⟩
theorem mine_append' {w wr wa w' : World} {b b' n : Nat} {a a' : Option Addr} {cap' : Nat} {l l2 : List Nat} (e : l = l2) (hn : n = l.length) (hb : w.heap.size ≤ b) (hk : Kept None w wr) (ha : Kept None wr wa) (h2 : OwnB 5 w' b' a' cap' l) (h3 : Kept (Of a b) wa w') (h4 : (b' = b ∧ (a' = none ∨ a ≠ none)) ∨ wa.heap.size ≤ b') :
    Mine w w' (.slice a' n cap') l2 := by
  subst e hn; exact mine_append hb hk ha h2 h3 h4
/-- a cell of bytes of its own, set -/
theorem own_set {e : TypeId} {w : World} {b cap : Nat} {l : List Nat} (h : OwnB e w b (some ⟨b, 0, Option.none⟩) cap l) (i : Nat) (x : Nat) (v : Int) (hv : v = (x : Int)) : OwnB e (w.setCell ⟨b, i, Option.none⟩ (.int .u8 v)) b (some ⟨b, 0, Option.none⟩) cap (l.set i x) := by
  subst hv
  rcases h with h | ⟨ha, h1, h2, cur, hh, h3, h4⟩
  · cases h.1
  · refine .inr ⟨rfl, by simpa using h1, h2, _, heap_set hh i _, by simpa using h3, ?_⟩
    rw [Array.toList_setIfInBounds, List.length_set, List.take_set, h4, List.map_set]
    rfl
/-- what is left behind SpoilBytes -/
def Spoilt (b : Nat) (a : Option Addr) (cap n : Nat) (w : World) (x : Ending) (w' : World) : Prop := x = .returned (.tuple #[]) ∧ ∃ l', l'.length = n ∧ OwnB 5 w' b a cap l' ∧ Kept (Of a b) w w'
theorem fits_left {w : World} {bs : Nat} {a : Option Addr} {cap n : Nat} {l : List Nat} (h : Shows w bs a cap l) (hn : n ≤ l.length) : Shows w bs a cap (l.take n) := by
  obtain ⟨h1, h2, h3⟩ := h
  have hl : (l.take n).length = n := by rw [List.length_take]; omega
  refine ⟨by omega, h2, ?_⟩
  rcases h3 with ⟨ha, hl', hc⟩ | ⟨off, ha, hc⟩
  · subst hl'; exact .inl ⟨ha, by simp, hc⟩
  · refine .inr ⟨off, ha, fun i hi => ?_⟩
    rw [hl] at hi
    rw [hc i (by omega)]
    simp [List.getD, hi]
theorem fits_rest {w : World} {bs off cap n : Nat} {l : List Nat} {o2 : Nat} (h : Shows w bs (some ⟨bs, off, none⟩) cap l) (hn : n ≤ l.length) (ho : o2 = off + n ∨ cap = n) : Shows w bs (some ⟨bs, o2, none⟩) (cap - n) (l.drop n) := by
  obtain ⟨h1, h2, h3⟩ := h
  have hl : (l.drop n).length = l.length - n := by rw [List.length_drop]
  refine ⟨by omega, by omega, .inr ⟨o2, rfl, fun i hi => ?_⟩⟩
  rw [hl] at hi
  rcases h3 with ⟨ha, _⟩ | ⟨off', ha, hc⟩
  · cases ha
  · obtain rfl : off = off' := by injection ha with ha; injection ha
    rcases ho with rfl | hcap
    · rw [Nat.add_assoc, hc (n + i) (by omega)]
      simp [List.getD]
    · omega
/-- where the rest begins -/
theorem rest_at (bs off cap n : Nat) : ∃ o2, (if cap = n then some (⟨bs, off, none⟩ : Addr) else some ⟨bs, off + n, none⟩) = some ⟨bs, o2, none⟩ ∧ (o2 = off + n ∨ cap = n) := by
  by_cases h : cap = n
  · exact ⟨off, by rw [if_pos h], .inr h⟩
  · exact ⟨off + n, by rw [if_neg h], .inl rfl⟩
/-- a part of a slice -/
theorem fits_part {w : World} {bs off cap lo hi : Nat} {l : List Nat} {o2 : Nat} (h : Shows w bs (some ⟨bs, off, none⟩) cap l) (h1 : lo ≤ hi) (h2 : hi ≤ l.length) (ho : o2 = off + lo ∨ cap = lo) :
    Shows w bs (some ⟨bs, o2, none⟩) (cap - lo) ((l.drop lo).take (hi - lo)) ∧ ((l.drop lo).take (hi - lo)).length = hi - lo :=
  ⟨fits_left (fits_rest h (by omega) ho) (by rw [List.length_drop]; omega), by rw [List.length_take, List.length_drop]; omega⟩
end Go.Proofs.Ytjdebdfbjcpjgaa.Kp
end
