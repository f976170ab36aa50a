/- What every stage wants of memory: blocks known whole, bytes that a loop appends, what fits. For any program with bytes. -/
import Derived.Test.YtekbeicoeoajoaaDoorChecked
import Derived.Test.YtekbeicoeoajoaaDoorOwnB
import Derived.WalkKit
import Derived.WalkSpells
import Derived.WalkLawsBesides
import Derived.Lib.Hide
import Derived.Outline
import Derived.BigGuardPart
import Derived.Deep.QuietTactic
import Derived.BigQuiet
import Derived.LoopTactic
namespace Go.Proofs.YtekbeicoeoajoaaDoor.Kp
open Go Go.RowKit Mem

theorem ret_int {k : IntKind} {a b : Int} (h : a = b) : Ending.returned (.int k a) = .returned (.int k b) := by rw [h]
theorem ret_bool {a b : Bool} (h : a = b) : Ending.returned (.bool a) = .returned (.bool b) := by rw [h]
theorem cell_heap {w : World} {b : Nat} {c : Array Value} {t : TypeId} {f : Nat × Nat} (h : w.heap[b]? = some (.cells c t f)) (i : Nat) : w.cell? ⟨b, i, none⟩ = c[i]? := by
  simp [World.cell?, h]
theorem frozen_heap {w : World} {b : Nat} {c : Array Value} {t : TypeId} (h : w.heap[b]? = some (.cells c t (0, 0))) (i : Nat) : w.frozen? ⟨b, i, none⟩ = false := by
  simp [World.frozen?, h]
theorem heap_set {w : World} {b : Nat} {c : Array Value} {t : TypeId} {f : Nat × Nat} (h : w.heap[b]? = some (.cells c t f)) (i : Nat) (v : Value) : (w.setCell ⟨b, i, none⟩ v).heap[b]? = some (.cells (c.setIfInBounds i v) t f) := by
  simp [World.setCell, Array.getElem?_modify, h]
theorem heap_set_other {w : World} {b : Nat} {o : Obj} (h : w.heap[b]? = some o) {a : Addr} (ha : a.block ≠ b) (v : Value) : (w.setCell a v).heap[b]? = some o := by
  rw [Below.heap_setCell _ _ _ _ (fun e => ha e.symm)]; exact h

theorem infoU8 : (Tryd.prog.info? 5).map (fun i => (i.zero, i.size, i.bytes)) = some (some (.int .u8 0), 1, 1) := by kernel_rfl
theorem eq_nil (w : World) (a : Option Addr) (n c : Nat) : (binOp .eql 58 (.slice a n c) (.slice none 0 0)).run Tryd.prog w = .ok (.bool a.isNone) w := run_eql_nil w _ _ a n c Tryd.underlying58
attribute [local go_sem] eq_nil
/-- new bytes: in a block that was not there, or nil -/
def NewB (l : List Nat) (w : World) (x : Ending) (w' : World) : Prop :=
  ∃ b a cap, x = .returned (.slice a l.length cap) ∧ OwnB 5 w' b a cap l ∧ w.heap.size ≤ b ∧ Kept None w w' ∧ b ≤ w'.heap.size
theorem of_none {b : Nat} : ∀ k, Of none b k → None k := fun _ h => absurd rfl h.1
/-- the head of an array that the call has made -/
theorem shows_made {w : World} {b : Nat} {C : Array Value} {t : TypeId} {f : Nat × Nat} {m : List Nat} {cap : Nat} (h : w.heap[b]? = some (.cells C t f)) (hC : C.toList.take m.length = m.map byteV) (h1 : m.length ≤ cap) (h2 : cap ≤ 9223372036854775807) : Shows w b (some ⟨b, 0, none⟩) cap m := by
  refine ⟨h1, h2, .inr ⟨0, rfl, fun i hi => ?_⟩⟩
  rw [Nat.zero_add, cell_heap h i]
  have e : (C.toList.take m.length)[i]? = (m.map byteV)[i]? := by rw [hC]
  rw [List.getElem?_take_of_lt hi] at e
  rw [← Array.getElem?_toList, e]
  simp [byteV, hi]
theorem shows_lit (w : World) (t : TypeId) (v : Int) (x : Nat) (hv : v = (x : Int)) : Src (w.alloc (.cells #[.int .u8 v] t)) w.heap.size (some ⟨w.heap.size, 0, none⟩) 1 [x] := by
  subst hv
  exact (shows_made (m := [x]) (cap := 1) (heap_alloc_new w _) rfl (Nat.le_refl 1) (by decide)).src
/-- bytes of its own that a loop has appended to: in a block that was not there when the call began -/
def Mine (w wr : World) (v : Value) (l : List Nat) : Prop := ∃ b a cap, v = .slice a l.length cap ∧ OwnB 5 wr b a cap l ∧ w.heap.size ≤ b ∧ b ≤ wr.heap.size ∧ Kept None w wr
theorem Mine.start (w : World) : Mine w w (.slice none 0 0) [] := ⟨w.heap.size, none, 0, rfl, OwnB.nil _ _ _, Nat.le_refl _, Nat.le_refl _, Kept.refl _ _⟩
/-- behind an append (in wa: the world in which it is done) -/
theorem mine_append {w wr wa w' : World} {b b' : Nat} {a a' : Option Addr} {cap' : Nat} {l : List Nat} (hb : w.heap.size ≤ b) (hk : Kept None w wr) (ha : Kept None wr wa) (h2 : OwnB 5 w' b' a' cap' l) (h3 : Kept (Of a b) wa w') (h4 : (b' = b ∧ (a' = none ∨ a ≠ none)) ∨ wa.heap.size ≤ b') :
    Mine w w' (.slice a' l.length cap') l := by
  have k1 : Kept None w w' := (hk.trans ha).trans' h3 (fun x hx => .inr (by rw [hx.2]; exact hb))
  by_cases hn : a' = none
  · subst hn
    exact ⟨w'.heap.size, none, cap', rfl, h2.move _, k1.size, Nat.le_refl _, k1⟩
  · have := (hk.trans ha).size
    exact ⟨b', a', cap', rfl, h2, by rcases h4 with ⟨rfl, _⟩ | h4 <;> omega, Nat.le_of_lt (h2.lt hn), k1⟩
theorem mine_append' {w wr wa w' : World} {b b' n : Nat} {a a' : Option Addr} {cap' : Nat} {l l2 : List Nat} (e : l = l2) (hn : n = l.length) (hb : w.heap.size ≤ b) (hk : Kept None w wr) (ha : Kept None wr wa) (h2 : OwnB 5 w' b' a' cap' l) (h3 : Kept (Of a b) wa w') (h4 : (b' = b ∧ (a' = none ∨ a ≠ none)) ∨ wa.heap.size ≤ b') :
    Mine w w' (.slice a' n cap') l2 := by
  subst e hn; exact mine_append hb hk ha h2 h3 h4
/-- a cell of bytes of its own, set -/
theorem own_set {e : TypeId} {w : World} {b cap : Nat} {l : List Nat} (h : OwnB e w b (some ⟨b, 0, Option.none⟩) cap l) (i : Nat) (x : Nat) (v : Int) (hv : v = (x : Int)) : OwnB e (w.setCell ⟨b, i, Option.none⟩ (.int .u8 v)) b (some ⟨b, 0, Option.none⟩) cap (l.set i x) := by
  subst hv
  rcases h with h | ⟨ha, h1, h2, cur, hh, h3, h4⟩
  · cases h.1
  · refine .inr ⟨rfl, by simpa using h1, h2, _, heap_set hh i _, by simpa using h3, ?_⟩
    rw [Array.toList_setIfInBounds, List.length_set, List.take_set, h4, List.map_set]
    rfl
/-- what is left behind SpoilBytes -/
def Spoilt (b : Nat) (a : Option Addr) (cap n : Nat) (w : World) (x : Ending) (w' : World) : Prop := x = .returned (.tuple #[]) ∧ ∃ l', l'.length = n ∧ OwnB 5 w' b a cap l' ∧ Kept (Of a b) w w'
theorem fits_left {w : World} {bs : Nat} {a : Option Addr} {cap n : Nat} {l : List Nat} (h : Shows w bs a cap l) (hn : n ≤ l.length) : Shows w bs a cap (l.take n) := by
  obtain ⟨h1, h2, h3⟩ := h
  have hl : (l.take n).length = n := by rw [List.length_take]; omega
  refine ⟨by omega, h2, ?_⟩
  rcases h3 with ⟨ha, hl', hc⟩ | ⟨off, ha, hc⟩
  · subst hl'; exact .inl ⟨ha, by simp, hc⟩
  · refine .inr ⟨off, ha, fun i hi => ?_⟩
    rw [hl] at hi
    rw [hc i (by omega)]
    simp [List.getD, hi]
theorem fits_rest {w : World} {bs off cap n : Nat} {l : List Nat} {o2 : Nat} (h : Shows w bs (some ⟨bs, off, none⟩) cap l) (hn : n ≤ l.length) (ho : o2 = off + n ∨ cap = n) : Shows w bs (some ⟨bs, o2, none⟩) (cap - n) (l.drop n) := by
  obtain ⟨h1, h2, h3⟩ := h
  have hl : (l.drop n).length = l.length - n := by rw [List.length_drop]
  refine ⟨by omega, by omega, .inr ⟨o2, rfl, fun i hi => ?_⟩⟩
  rw [hl] at hi
  rcases h3 with ⟨ha, _⟩ | ⟨off', ha, hc⟩
  · cases ha
  · obtain rfl : off = off' := by injection ha with ha; injection ha
    rcases ho with rfl | hcap
    · rw [Nat.add_assoc, hc (n + i) (by omega)]
      simp [List.getD]
    · omega
/-- where the rest begins -/
theorem rest_at (bs off cap n : Nat) : ∃ o2, (if cap = n then some (⟨bs, off, none⟩ : Addr) else some ⟨bs, off + n, none⟩) = some ⟨bs, o2, none⟩ ∧ (o2 = off + n ∨ cap = n) := by
  by_cases h : cap = n
  · exact ⟨off, by rw [if_pos h], .inr h⟩
  · exact ⟨off + n, by rw [if_neg h], .inl rfl⟩
/-- a part of a slice -/
theorem fits_part {w : World} {bs off cap lo hi : Nat} {l : List Nat} {o2 : Nat} (h : Shows w bs (some ⟨bs, off, none⟩) cap l) (h1 : lo ≤ hi) (h2 : hi ≤ l.length) (ho : o2 = off + lo ∨ cap = lo) :
    Shows w bs (some ⟨bs, o2, none⟩) (cap - lo) ((l.drop lo).take (hi - lo)) ∧ ((l.drop lo).take (hi - lo)).length = hi - lo :=
  ⟨fits_left (fits_rest h (by omega) ho) (by rw [List.length_drop]; omega), by rw [List.length_take, List.length_drop]; omega⟩
end Go.Proofs.YtekbeicoeoajoaaDoor.Kp
