/- The keeper's functions over bytes (Twin, Bytes, SpoilBytes), and what every stage wants of memory: blocks known whole, bytes that a loop appends. For stages behind pack (pack's own texts have these in Pk). -/
import Derived.Test.YtfbibmdjahfneaaDoorChecked
import Derived.Test.YtfbibmdjahfneaaDoorOwnB
import Derived.WalkKit
import Derived.WalkSpells
import Derived.WalkLawsBesides
import Derived.Lib.Hide
import Derived.Outline
import Derived.BigGuardPart
import Derived.Deep.QuietTactic
import Derived.BigQuiet
import Derived.LoopTactic
namespace Go.Proofs.YtfbibmdjahfneaaDoor.Kp
open Go Go.RowKit Mem

theorem ret_int {k : IntKind} {a b : Int} (h : a = b) : Ending.returned (.int k a) = .returned (.int k b) := by rw [h]
theorem ret_bool {a b : Bool} (h : a = b) : Ending.returned (.bool a) = .returned (.bool b) := by rw [h]
theorem cell_heap {w : World} {b : Nat} {c : Array Value} {t : TypeId} {f : Nat × Nat} (h : w.heap[b]? = some (.cells c t f)) (i : Nat) : w.cell? ⟨b, i, none⟩ = c[i]? := by
  simp [World.cell?, h]
theorem frozen_heap {w : World} {b : Nat} {c : Array Value} {t : TypeId} (h : w.heap[b]? = some (.cells c t (0, 0))) (i : Nat) : w.frozen? ⟨b, i, none⟩ = false := by
  simp [World.frozen?, h]
theorem heap_set {w : World} {b : Nat} {c : Array Value} {t : TypeId} {f : Nat × Nat} (h : w.heap[b]? = some (.cells c t f)) (i : Nat) (v : Value) : (w.setCell ⟨b, i, none⟩ v).heap[b]? = some (.cells (c.setIfInBounds i v) t f) := by
  simp [World.setCell, Array.getElem?_modify, h]
theorem heap_set_other {w : World} {b : Nat} {o : Obj} (h : w.heap[b]? = some o) {a : Addr} (ha : a.block ≠ b) (v : Value) : (w.setCell a v).heap[b]? = some o := by
  rw [Below.heap_setCell _ _ _ _ (fun e => ha e.symm)]; exact h

theorem infoU8 : (Tryd.prog.info? 5).map (fun i => (i.zero, i.size, i.bytes)) = some (some (.int .u8 0), 1, 1) := by kernel_rfl
theorem eq_nil (w : World) (a : Option Addr) (n c : Nat) : (binOp .eql 22 (.slice a n c) (.slice none 0 0)).run Tryd.prog w = .ok (.bool a.isNone) w := run_eql_nil w _ _ a n c Tryd.underlying22
attribute [local go_sem] eq_nil
/-- new bytes: in a block that was not there, or nil -/
def NewB (l : List Nat) (w : World) (x : Ending) (w' : World) : Prop :=
  ∃ b a cap, x = .returned (.slice a l.length cap) ∧ OwnB 5 w' b a cap l ∧ w.heap.size ≤ b ∧ Kept None w w' ∧ b ≤ w'.heap.size
theorem of_none {b : Nat} : ∀ k, Of none b k → None k := fun _ h => absurd rfl h.1
set_option maxHeartbeats 400000 in
theorem Twin_any (b : Nat) (a : Option Addr) (cap : Nat) (l : List Nat) (w : World) (h : Src w b a cap l) (hl : l.length ≤ 35184372088832) :
    Calls Tryd.prog 10 #[.slice a l.length cap] w (NewB l w) := by
  obtain ⟨i0, hi, hz0, hz1, hz2⟩ := info_parts infoU8
  have HS := Lib.hid h
  have own0 : OwnB 5 w w.heap.size none 0 [] := OwnB.nil _ _ _
  clear h
  go_enter Tryd.func10, Tryd.ntmps10
  go_wp2_with (at_builtin; refine wpList_append_bytes rfl _ _ 22 rfl 5 i0 Tryd.underlying22 hi hz0 hz1 hz2 _ _ _ [] 0 rfl own0 rfl b _ cap l _ rfl HS.out rfl (by omega) ?_)
  intro b' a' cap' w' h2 h3 h4 h5
  try simp only [List.nil_append] at h2
  have HO := Lib.hid h2
  clear h2
  go_wp2
  go_ret
  have k1 : Kept None w w' := h3.mono of_none
  by_cases ha : a' = none
  · subst ha
    exact ⟨w.heap.size, none, cap', rfl, HO.out.move _, Nat.le_refl _, k1, k1.size⟩
  · have hb' : w.heap.size ≤ b' := by rcases h4 with ⟨rfl, _⟩ | h4 <;> omega
    exact ⟨b', a', cap', rfl, HO.out, hb', k1, Nat.le_of_lt (HO.out.lt ha)⟩
/-- the head of an array that the call has made -/
theorem shows_made {w : World} {b : Nat} {C : Array Value} {t : TypeId} {f : Nat × Nat} {m : List Nat} {cap : Nat} (h : w.heap[b]? = some (.cells C t f)) (hC : C.toList.take m.length = m.map byteV) (h1 : m.length ≤ cap) (h2 : cap ≤ 9223372036854775807) : Shows w b (some ⟨b, 0, none⟩) cap m := by
  refine ⟨h1, h2, .inr ⟨0, rfl, fun i hi => ?_⟩⟩
  rw [Nat.zero_add, cell_heap h i]
  have e : (C.toList.take m.length)[i]? = (m.map byteV)[i]? := by rw [hC]
  rw [List.getElem?_take_of_lt hi] at e
  rw [← Array.getElem?_toList, e]
  simp [byteV, hi]
theorem shows_lit (w : World) (t : TypeId) (v : Int) (x : Nat) (hv : v = (x : Int)) : Src (w.alloc (.cells #[.int .u8 v] t)) w.heap.size (some ⟨w.heap.size, 0, none⟩) 1 [x] := by
  subst hv
  exact (shows_made (m := [x]) (cap := 1) (heap_alloc_new w _) rfl (Nat.le_refl 1) (by decide)).src
/-- bytes of its own that a loop has appended to: in a block that was not there when the call began -/
def Mine (w wr : World) (v : Value) (l : List Nat) : Prop := ∃ b a cap, v = .slice a l.length cap ∧ OwnB 5 wr b a cap l ∧ w.heap.size ≤ b ∧ b ≤ wr.heap.size ∧ Kept None w wr
theorem Mine.start (w : World) : Mine w w (.slice none 0 0) [] := ⟨w.heap.size, none, 0, rfl, OwnB.nil _ _ _, Nat.le_refl _, Nat.le_refl _, Kept.refl _ _⟩
/-- behind an append (in wa: the world in which it is done) -/
theorem mine_append {w wr wa w' : World} {b b' : Nat} {a a' : Option Addr} {cap' : Nat} {l : List Nat} (hb : w.heap.size ≤ b) (hk : Kept None w wr) (ha : Kept None wr wa) (h2 : OwnB 5 w' b' a' cap' l) (h3 : Kept (Of a b) wa w') (h4 : (b' = b ∧ (a' = none ∨ a ≠ none)) ∨ wa.heap.size ≤ b') :
    Mine w w' (.slice a' l.length cap') l := by
  have k1 : Kept None w w' := (hk.trans ha).trans' h3 (fun x hx => .inr (by rw [hx.2]; exact hb))
  by_cases hn : a' = none
  · subst hn
    exact ⟨w'.heap.size, none, cap', rfl, h2.move _, k1.size, Nat.le_refl _, k1⟩
  · have := (hk.trans ha).size
    exact ⟨b', a', cap', rfl, h2, by rcases h4 with ⟨rfl, _⟩ | h4 <;> omega, Nat.le_of_lt (h2.lt hn), k1⟩
theorem mine_append' {w wr wa w' : World} {b b' n : Nat} {a a' : Option Addr} {cap' : Nat} {l l2 : List Nat} (e : l = l2) (hn : n = l.length) (hb : w.heap.size ≤ b) (hk : Kept None w wr) (ha : Kept None wr wa) (h2 : OwnB 5 w' b' a' cap' l) (h3 : Kept (Of a b) wa w') (h4 : (b' = b ∧ (a' = none ∨ a ≠ none)) ∨ wa.heap.size ≤ b') :
    Mine w w' (.slice a' n cap') l2 := by
  subst e hn; exact mine_append hb hk ha h2 h3 h4
/-- what the comparison of bytes answers -/
def SameB (l m : List Nat) (w : World) (x : Ending) (w' : World) : Prop := x = .returned (.bool (decide (l = m))) ∧ ∃ n, w' = w.drewN n
theorem same_next {l m : List Nat} {k : Nat} (hk : k < l.length) (hm : k < m.length) (h : l.take k = m.take k) (he : l.getD k 0 = m.getD k 0) : l.take (k + 1) = m.take (k + 1) := by
  rw [List.take_succ_eq_append_getElem hk, List.take_succ_eq_append_getElem hm, h]
  simp [hk, hm] at he
  rw [he]
theorem not_same {l m : List Nat} {k : Nat} (h : ¬ l.getD k 0 = m.getD k 0) : decide (l = m) = false := by
  simp only [decide_eq_false_iff_not]
  intro e; subst e; exact h rfl
set_option maxHeartbeats 1000000 in
theorem KBytes_any (b : Nat) (a : Option Addr) (cap : Nat) (l : List Nat) (b2 : Nat) (a2 : Option Addr) (cap2 : Nat) (m : List Nat) (w : World) (h : Src w b a cap l) (h2 : Src w b2 a2 cap2 m) (hl : l.length ≤ 35184372088832) (hm : m.length ≤ 35184372088832) :
    Calls Tryd.prog 12 #[.slice a l.length cap, .slice a2 m.length cap2] w (SameB l m w) := by
  have HS := Lib.hid h
  have HS2 := Lib.hid h2
  clear h h2
  by_cases hlen : l.length = m.length
  · have HLEN := Lib.hid hlen
    have hne : ((l.length : Int) != m.length) = false := by simp [hlen]
    clear hlen
    go_enter Tryd.func12, Tryd.ntmps12
    go_wp2
    go_loopw [5] (fun i wr => ∃ k n : Nat, k ≤ l.length ∧ i = .int .i64 k ∧ Hid (l.take k = m.take k) ∧ wr = w.drewN n) (fun i _ => l.length - (intOf i).toNat)
    case atStart => exact ⟨0, 0, by omega, rfl, rfl, rfl⟩
    case round =>
      obtain ⟨k, n, hk, rfl, hs, rfl⟩ := hrel
      by_cases hlt : k < l.length
      · have hlt2 : k < m.length := by rw [← HLEN.out]; exact hlt
        obtain ⟨o1, rfl, c1⟩ := Src.at_ HS.out (by omega)
        obtain ⟨o2, rfl, c2⟩ := Src.at_ HS2.out (by omega)
        have d1 := c1 k hlt
        have d2 := c2 k hlt2
        clear c1 c2
        obtain ⟨q, hq⟩ : ∃ q, (((l.getD k 0 : Nat) : Int) != ((m.getD k 0 : Nat) : Int)) = q := ⟨_, rfl⟩
        have HQ := Lib.hid hq
        have hsn := Lib.hid (same_next hlt hlt2 hs.out)
        have hno := Lib.hid (not_same (l := l) (m := m) (k := k))
        generalize l.getD k 0 = y1 at *
        generalize m.getD k 0 = y2 at *
        cases q
        · go_wp2
          go_quiet (fail)
          go_wp2
          go_roundw
          case rel => exact ⟨k + 1, n + nq, by omega, by go_num, hsn.out (by have := HQ.out; simp at this; omega), by first | rfl | (rw [World.drewN_drewN])⟩
          case measure => simp [intOf]; omega
        · go_wp2
          go_quiet (fail)
          go_wp2
          go_ret
          exact ⟨ret_bool (hno.out (by have := HQ.out; simp at this; omega)).symm, n + nq, by first | rfl | (rw [World.drewN_drewN])⟩
      · obtain rfl : k = l.length := by omega
        go_wp2
        go_ret
        have e := hs.out
        rw [List.take_length, HLEN.out, List.take_length] at e
        exact ⟨ret_bool (by simp [e]), n, rfl⟩
  · have HLEN := Lib.hid hlen
    have hne : ((l.length : Int) != m.length) = true := by simp; omega
    clear hlen
    go_enter Tryd.func12, Tryd.ntmps12
    go_wp2
    go_ret
    exact ⟨ret_bool (by simp only [Bool.false_eq, decide_eq_false_iff_not]; intro e; exact HLEN.out (by rw [e])), 0, rfl⟩
/-- a cell of bytes of its own, set -/
theorem own_set {e : TypeId} {w : World} {b cap : Nat} {l : List Nat} (h : OwnB e w b (some ⟨b, 0, Option.none⟩) cap l) (i : Nat) (x : Nat) (v : Int) (hv : v = (x : Int)) : OwnB e (w.setCell ⟨b, i, Option.none⟩ (.int .u8 v)) b (some ⟨b, 0, Option.none⟩) cap (l.set i x) := by
  subst hv
  rcases h with h | ⟨ha, h1, h2, cur, hh, h3, h4⟩
  · cases h.1
  · refine .inr ⟨rfl, by simpa using h1, h2, _, heap_set hh i _, by simpa using h3, ?_⟩
    rw [Array.toList_setIfInBounds, List.length_set, List.take_set, h4, List.map_set]
    rfl
/-- what is left behind SpoilBytes -/
def Spoilt (b : Nat) (a : Option Addr) (cap n : Nat) (w : World) (x : Ending) (w' : World) : Prop := x = .returned (.tuple #[]) ∧ ∃ l', l'.length = n ∧ OwnB 5 w' b a cap l' ∧ Kept (Of a b) w w'
set_option maxHeartbeats 2000000 in
theorem Spoil_any (b : Nat) (a : Option Addr) (cap : Nat) (l : List Nat) (w : World) (h : OwnB 5 w b a cap l) (hl : l.length ≤ 35184372088832) :
    Calls Tryd.prog 18 #[.slice a l.length cap] w (Spoilt b a cap l.length w) := by
  have HO := Lib.hid h
  clear h
  go_enter Tryd.func18, Tryd.ntmps18
  go_wp2
  go_loopw [2] (fun i wr => ∃ (k : Nat) (lr : List Nat), k ≤ l.length ∧ i = .int .i64 k ∧ Hid (lr.length = l.length ∧ OwnB 5 wr b a cap lr ∧ Kept (Of a b) w wr)) (fun i _ => l.length - (intOf i).toNat)
  case atStart => exact ⟨0, l, by omega, rfl, rfl, HO.out, Kept.refl _ _⟩
  case round =>
    obtain ⟨k, lr, hk, rfl, hw⟩ := hrel
    by_cases hlt : k < l.length
    · obtain rfl : a = some ⟨b, 0, Option.none⟩ := by
        rcases hw.out.2.1 with h | h
        · have h1 := hw.out.1
          rw [h.2.2] at h1; simp at h1; omega
        · exact h.1
      have hc := hw.out.2.1.cellAt k (by rw [hw.out.1]; exact hlt)
      have hf : wr.frozen? ⟨b, k, Option.none⟩ = false := by
        rcases hw.out.2.1 with h | ⟨_, _, _, cur, hh, _⟩
        · cases h.1
        · exact frozen_heap hh k
      obtain ⟨v, hv⟩ : ∃ v : Nat, v = ((lr.getD k 0) + 101) % 256 := ⟨_, rfl⟩
      have HV := Lib.hid hv
      clear hv
      generalize hy : lr.getD k 0 = y at *
      clear hy
      go_wp2
      go_roundw
      case rel => exact ⟨k + 1, lr.set k v, by omega, by go_num, by rw [List.length_set]; exact hw.out.1, own_set hw.out.2.1 k v _ (by have := HV.out; first | omega | (simp [IntKind.wrap, IntKind.bits, IntKind.signed]; omega)), hw.out.2.2.setAt (.inl ⟨by simp, rfl⟩) _ _⟩
      case measure => simp [intOf]; omega
    · obtain rfl : k = l.length := by omega
      go_wp2
      go_end0
      exact ⟨rfl, lr, hw.out.1, hw.out.2.1, hw.out.2.2⟩
theorem fits_left {w : World} {bs : Nat} {a : Option Addr} {cap n : Nat} {l : List Nat} (h : Shows w bs a cap l) (hn : n ≤ l.length) : Shows w bs a cap (l.take n) := by
  obtain ⟨h1, h2, h3⟩ := h
  have hl : (l.take n).length = n := by rw [List.length_take]; omega
  refine ⟨by omega, h2, ?_⟩
  rcases h3 with ⟨ha, hl', hc⟩ | ⟨off, ha, hc⟩
  · subst hl'; exact .inl ⟨ha, by simp, hc⟩
  · refine .inr ⟨off, ha, fun i hi => ?_⟩
    rw [hl] at hi
    rw [hc i (by omega)]
    simp [List.getD, hi]
theorem fits_rest {w : World} {bs off cap n : Nat} {l : List Nat} {o2 : Nat} (h : Shows w bs (some ⟨bs, off, none⟩) cap l) (hn : n ≤ l.length) (ho : o2 = off + n ∨ cap = n) : Shows w bs (some ⟨bs, o2, none⟩) (cap - n) (l.drop n) := by
  obtain ⟨h1, h2, h3⟩ := h
  have hl : (l.drop n).length = l.length - n := by rw [List.length_drop]
  refine ⟨by omega, by omega, .inr ⟨o2, rfl, fun i hi => ?_⟩⟩
  rw [hl] at hi
  rcases h3 with ⟨ha, _⟩ | ⟨off', ha, hc⟩
  · cases ha
  · obtain rfl : off = off' := by injection ha with ha; injection ha
    rcases ho with rfl | hcap
    · rw [Nat.add_assoc, hc (n + i) (by omega)]
      simp [List.getD]
    · omega
/-- where the rest begins -/
theorem rest_at (bs off cap n : Nat) : ∃ o2, (if cap = n then some (⟨bs, off, none⟩ : Addr) else some ⟨bs, off + n, none⟩) = some ⟨bs, o2, none⟩ ∧ (o2 = off + n ∨ cap = n) := by
  by_cases h : cap = n
  · exact ⟨off, by rw [if_pos h], .inr h⟩
  · exact ⟨off + n, by rw [if_neg h], .inl rfl⟩
/-- a part of a slice -/
theorem fits_part {w : World} {bs off cap lo hi : Nat} {l : List Nat} {o2 : Nat} (h : Shows w bs (some ⟨bs, off, none⟩) cap l) (h1 : lo ≤ hi) (h2 : hi ≤ l.length) (ho : o2 = off + lo ∨ cap = lo) :
    Shows w bs (some ⟨bs, o2, none⟩) (cap - lo) ((l.drop lo).take (hi - lo)) ∧ ((l.drop lo).take (hi - lo)).length = hi - lo :=
  ⟨fits_left (fits_rest h (by omega) ho) (by rw [List.length_drop]; omega), by rw [List.length_take, List.length_drop]; omega⟩
end Go.Proofs.YtfbibmdjahfneaaDoor.Kp
