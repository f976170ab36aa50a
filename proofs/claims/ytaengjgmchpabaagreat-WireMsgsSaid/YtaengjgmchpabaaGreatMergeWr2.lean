import Derived.Test.YtaengjgmchpabaaGreatMergeWr0
import Derived.Laws.ResultCell
import Derived.Test.YtaengjgmchpabaaGreatMergeWr1
import Derived.WideShapes
import Derived.Deep.Quiet
import Derived.Deep.QuietTactic
import Derived.BigQuiet
section
/- Cut out of RefVal so that every seat fills it. -/
namespace Go.Proofs.YtaengjgmchpabaaGreat.Vl
open Go Go.RowKit Go.Proofs.YtaengjgmchpabaaGreat.Nm
attribute [local go_sem] run_bits run_frombits
theorem bits_ne {a : Nat} (h : a ≠ 0) : decide (a = 0) = false := decide_eq_false h
theorem nonempty_ne {s : ByteArray} (h : s.size ≠ 0) : (s.toList == []) = false := by
  rw [beq_eq_false_iff_ne]
  intro e
  rw [Nm.toList_data] at e
  exact h (by rw [← ByteArray.size_data]; simpa using congrArg List.length e)
theorem isNaN_nanBits : isNaN nanBits = true := by kernel_rfl
theorem isNaN_zero : isNaN 0 = false := by kernel_rfl

theorem text_eq (s t : ByteArray) : (s.toList == t.toList) = decide (s = t) := by
  rw [Bool.eq_iff_iff, beq_iff_eq, decide_eq_true_eq, Nm.toList_data, Nm.toList_data]
  exact ⟨fun h => by cases s; cases t; congr 1; exact Array.ext' h, fun h => by rw [h]⟩
theorem text_lt (s t : ByteArray) : Op.bytesLess s.toList t.toList = decide (s.data.toList < t.data.toList) := by
  rw [bytesLess_eq, Nm.toList_data, Nm.toList_data]
end Go.Proofs.YtaengjgmchpabaaGreat.Vl
end
section
/- Cut out of RefVal2 so that every seat fills it. -/
namespace Go.Proofs.YtaengjgmchpabaaGreat.Vl
open Go Go.RowKit Go.Proofs.YtaengjgmchpabaaGreat.Nm
attribute [local go_sem] run_bits run_frombits
theorem run_store_float (P : Program) (w : World) (a : Addr) (k : FloatKind) (n : Nat) (m : Mode) : (store a (.float k n) m).run P w = stored P w a (.float k n) m := run_store P w a _ m rfl
theorem same_told (a b : Nat) : Nm.same a b = if isNaN a = true ∧ isNaN b = true then true else ((a : Int) == (b : Int)) := by
  have e : ((a : Int) == (b : Int)) = decide (a = b) := by rw [Bool.eq_iff_iff]; simp; omega
  unfold Nm.same
  cases h : isNaN a <;> cases h' : isNaN b
  · rw [canon_num h, canon_num h', e]; simp
  · rw [canon_num h, canon_nan h', e]
    have h1 : a ≠ nanBits := fun e => by rw [e, isNaN_nanBits] at h; cases h
    have h2 : a ≠ b := fun e => by rw [e, h'] at h; cases h
    simp [h1, h2]
  · rw [canon_nan h, canon_num h', e]
    have h1 : nanBits ≠ b := fun e => by rw [← e, isNaN_nanBits] at h'; cases h'
    have h2 : a ≠ b := fun e => by rw [e, h'] at h; cases h
    simp [h1, h2]
  · rw [canon_nan h, canon_nan h']; simp
set_option maxHeartbeats 800000 in
theorem keepFloat_any (a b : Nat) (w : World) :
    Calls Tryz.prog 112 #[.float .f64 a, .float .f64 b] w fun e w' => e = .returned (.bool (Nm.same a b)) ∧ w = w' := by
  have HC := Lib.hid (same_told a b)
  cases h : isNaN a <;> cases h' : isNaN b
  all_goals
    have h2 : (FloatKind.f64.format.order a a != some .eq) = _ := h
    have h3 : (FloatKind.f64.format.order b b != some .eq) = _ := h'
    go_enter Tryz.func112, Tryz.ntmps112
    go_wp2
    go_ret
    exact ⟨ret_bool (by rw [HC.out, h, h']; simp), rfl⟩

/-- a block more, and another one: what was there is untouched -/
theorem below_alloc (w : World) (o : Obj) : Below w.heap.size w (w.alloc o) := (Below.refl _ _).alloc (Nat.le_refl _) _
theorem below_alloc2 (w : World) (o p : Obj) : Below w.heap.size w ((w.alloc o).alloc p) := (below_alloc w o).alloc (below_alloc w o).size _

set_option maxHeartbeats 800000 in
theorem keepValue_any (a b : V) (w : World) :
    Calls Tryz.prog 108 #[a.val, b.val] w fun e w' => e = .returned (.bool (a.same b)) ∧ Below w.heap.size w w' := by
  obtain ⟨k, x, s⟩ := a
  obtain ⟨l, y, t⟩ := b
  have HC := Lib.hid (show (V.mk k x s).same ⟨l, y, t⟩ = (decide (k = l) && Nm.same x y && decide (s = t)) from rfl)
  have HT := Lib.hid (text_eq s t)
  by_cases hk : k = l
  · subst hk
    cases h : Nm.same x y
    · go_enter Tryz.func108, Tryz.ntmps108
      go_wp2_with (first | (go_at_call 112; refine (keepFloat_any _ _ _).mono ?_; rintro e w' ⟨rfl, rfl⟩))
      go_ret
      exact ⟨ret_bool (by rw [HC.out, h]; simp), below_alloc2 _ _ _⟩
    · go_enter Tryz.func108, Tryz.ntmps108
      go_wp2_with (first | (go_at_call 112; refine (keepFloat_any _ _ _).mono ?_; rintro e w' ⟨rfl, rfl⟩))
      go_ret
      exact ⟨ret_bool (by rw [HC.out, h, ← HT.out]; simp), below_alloc2 _ _ _⟩
  · have e1 : (k == l) = false := by rw [beq_eq_false_iff_ne]; exact hk
    go_enter Tryz.func108, Tryz.ntmps108
    go_wp2_with fail
    go_ret
    exact ⟨ret_bool (by rw [HC.out]; simp [hk]), below_alloc2 _ _ _⟩
end Go.Proofs.YtaengjgmchpabaaGreat.Vl
end
section
/- Blocks of a call, numbers compared: for any program with values. -/
namespace Go.Proofs.YtaengjgmchpabaaGreat.Vl
open Go Go.RowKit Go.Proofs.YtaengjgmchpabaaGreat.Nm
attribute [local go_sem] run_bits run_frombits run_store_float
theorem ret_pair {a b : Value} {c d : Int} (h : a = b) (h2 : c = d) : Ending.returned (.tuple #[a, .int .i64 c]) = .returned (.tuple #[b, .int .i64 d]) := by rw [h, h2]
theorem zero_told : V.zero.val = .agg #[.int .i64 0, .float .f64 0, .string ⟨#[]⟩] := rfl

theorem below4 (w : World) (a b c d : Obj) : Below w.heap.size w ((((w.alloc a).alloc b).alloc c).alloc d) := (below_alloc2 w a b).trans ((below_alloc2 _ c d).mono (below_alloc2 w a b).size)
theorem below5 (w : World) (a b c d e : Obj) : Below w.heap.size w (((((w.alloc a).alloc b).alloc c).alloc d).alloc e) := (below4 w a b c d).alloc (below4 w a b c d).size _
theorem int_beq {a b : Int} (h : a = b) : (a == b) = true := beq_iff_eq.2 h
theorem int_bne {a b : Int} (h : a = b) : (a != b) = false := by simp [h]
theorem int_nbeq {a b : Int} (h : a ≠ b) : (a == b) = false := beq_eq_false_iff_ne.2 h
theorem int_nbne {a b : Int} (h : a ≠ b) : (a != b) = true := by simp [h]
end Go.Proofs.YtaengjgmchpabaaGreat.Vl
end
section
/- Cells of a block of three. -/
namespace Go.Proofs.YtaengjgmchpabaaGreat.Vl
open Go Go.RowKit Go.Proofs.YtaengjgmchpabaaGreat.Nm
attribute [local go_sem] run_bits run_frombits run_store_float
theorem alloc_here {w : World} {n : Nat} (o : Obj) (h : n = w.heap.size) : (w.alloc o).heap[n]? = some o := by
  subst h
  show (w.heap.push o)[w.heap.size]? = some o
  simp
theorem cells3 {w : World} {b : Nat} {x y z : Value} {t : TypeId} (h : w.heap[b]? = some (.cells #[x, y, z] t)) :
    w.cell? ⟨b, 0, none⟩ = some x ∧ w.cell? ⟨b, 1, none⟩ = some y ∧ w.cell? ⟨b, 2, none⟩ = some z ∧ w.frozen? ⟨b, 0, none⟩ = false ∧ w.frozen? ⟨b, 1, none⟩ = false ∧ w.frozen? ⟨b, 2, none⟩ = false := by
  refine ⟨?_, ?_, ?_, ?_, ?_, ?_⟩ <;> simp [World.cell?, World.frozen?, h]
theorem below3 (w : World) (a b c : Obj) : Below w.heap.size w (((w.alloc a).alloc b).alloc c) := (below_alloc2 w a b).alloc (below_alloc2 w a b).size _
end Go.Proofs.YtaengjgmchpabaaGreat.Vl
end
section
/- Blocks of a call's own, behind a call that leaves alone what there was. No program. -/
namespace Go.Proofs.YtaengjgmchpabaaGreat.Vl
open Go Go.RowKit Go.Proofs.YtaengjgmchpabaaGreat.Nm
theorem heap_lt {w : World} {n : Nat} {v : Obj} (h : w.heap[n]? = some v) : n < w.heap.size := by
  rcases Nat.lt_or_ge n w.heap.size with h' | h'
  · exact h'
  · rw [Array.getElem?_eq_none h'] at h; cases h
theorem box_on {w w' : World} {n : Nat} {v : Obj} (h : w.heap[n]? = some v) (hb : Below w.heap.size w w') : w'.heap[n]? = some v := (hb.block n (heap_lt h)).trans h
theorem old_alloc {w : World} {n : Nat} {v : Obj} (o : Obj) (h : w.heap[n]? = some v) : (w.alloc o).heap[n]? = some v := box_on h (below_alloc w o)
theorem size_alloc (w : World) (o : Obj) : (w.alloc o).heap.size = w.heap.size + 1 := by simp
/-- behind a call: one, two, three blocks that were laid ahead of it -/
theorem one_on {w w' : World} {a : Obj} (hb : Below (w.alloc a).heap.size (w.alloc a) w') :
    w'.heap[w.heap.size]? = some a ∧ Below w.heap.size w w' ∧ w.heap.size + 1 ≤ w'.heap.size :=
  ⟨box_on (alloc_here a rfl) hb, (below_alloc w a).trans (hb.mono (below_alloc w a).size), by have := hb.size; rwa [size_alloc] at this⟩
theorem two_on {w w' : World} {a b : Obj} (hb : Below ((w.alloc a).alloc b).heap.size ((w.alloc a).alloc b) w') :
    w'.heap[w.heap.size]? = some a ∧ w'.heap[w.heap.size + 1]? = some b ∧ Below w.heap.size w w' ∧ w.heap.size + 2 ≤ w'.heap.size := by
  obtain ⟨h1, h2, h3⟩ := one_on hb
  rw [size_alloc] at h1 h3
  exact ⟨box_on (old_alloc b (alloc_here a rfl)) hb, h1, (below_alloc w a).trans (h2.mono (below_alloc w a).size), h3⟩
theorem three_on {w w' : World} {a b c : Obj} (hb : Below (((w.alloc a).alloc b).alloc c).heap.size (((w.alloc a).alloc b).alloc c) w') :
    w'.heap[w.heap.size]? = some a ∧ w'.heap[w.heap.size + 1]? = some b ∧ w'.heap[w.heap.size + 1 + 1]? = some c ∧ Below w.heap.size w w' ∧ w.heap.size + 3 ≤ w'.heap.size := by
  obtain ⟨h1, h2, h3⟩ := one_on hb
  rw [size_alloc, size_alloc] at h1 h3
  exact ⟨box_on (old_alloc c (old_alloc b (alloc_here a rfl))) hb, box_on (old_alloc c (by rw [← size_alloc w a]; exact alloc_here b rfl)) hb, h1, (below_alloc2 w a b).trans (h2.mono (below_alloc2 w a b).size), h3⟩
theorem below_on {w w1 w2 : World} {n : Nat} (h : Below n w w1) (hn : n ≤ w1.heap.size) (hb : Below w1.heap.size w1 w2) : Below n w w2 := h.trans (hb.mono hn)
/-- the cells of a block, once another block is laid -/
theorem cells3_on {w : World} {b : Nat} {x y z : Value} {t : TypeId} (h : w.heap[b]? = some (.cells #[x, y, z] t)) :
    (∀ o, (w.alloc o).cell? ⟨b, 0, none⟩ = some x) ∧ (∀ o, (w.alloc o).cell? ⟨b, 1, none⟩ = some y) ∧ (∀ o, (w.alloc o).cell? ⟨b, 2, none⟩ = some z) ∧
    (∀ o, (w.alloc o).frozen? ⟨b, 0, none⟩ = false) ∧ (∀ o, (w.alloc o).frozen? ⟨b, 1, none⟩ = false) ∧ (∀ o, (w.alloc o).frozen? ⟨b, 2, none⟩ = false) :=
  ⟨fun o => (cells3 (old_alloc o h)).1, fun o => (cells3 (old_alloc o h)).2.1, fun o => (cells3 (old_alloc o h)).2.2.1, fun o => (cells3 (old_alloc o h)).2.2.2.1, fun o => (cells3 (old_alloc o h)).2.2.2.2.1, fun o => (cells3 (old_alloc o h)).2.2.2.2.2⟩
theorem blw {w w1 w2 : World} (h : Below w.heap.size w w1) (k : Below w1.heap.size w1 w2) : Below w.heap.size w w2 := h.trans (k.mono h.size)
end Go.Proofs.YtaengjgmchpabaaGreat.Vl
end
section
/- Pairs in memory: read, appended to. No program's function. -/
namespace Go.Proofs.YtaengjgmchpabaaGreat.Kv
open Go Go.RowKit Vl Nm Mem
def Pr.cells (p : Pr) : List Value := [.string p.key, .int .i64 p.val.kind, .float .f64 p.val.num, .string p.val.text]
@[reducible] def Pr.agg (p : Pr) : Value := .agg #[.string p.key, .int .i64 p.val.kind, .float .f64 p.val.num, .string p.val.text]
@[reducible] def Cm.agg (c : Cm) : Value := .agg #[.int .i64 c.kind, .string c.key, .int .i64 c.old.kind, .float .f64 c.old.num, .string c.old.text, .int .i64 c.val.kind, .float .f64 c.val.num, .string c.val.text]
/-- a reply -/
@[reducible] def rep (code : Int) (v : V) : Value := .agg #[.int .i64 code, .int .i64 v.kind, .float .f64 v.num, .string v.text]
def flat (L : List Pr) : List Value := L.flatMap Pr.cells
theorem flat_nil : flat [] = [] := rfl
theorem flat_append (L M : List Pr) : flat (L ++ M) = flat L ++ flat M := by unfold flat; rw [List.flatMap_append]
theorem flat_length (L : List Pr) : (flat L).length = L.length * 4 := by
  induction L with
  | nil => rfl
  | cons p r ih =>
    show (p.cells ++ flat r).length = _
    rw [List.length_append, ih, List.length_cons]
    show 4 + _ = _
    omega
theorem flat_at (L : List Pr) : ∀ i j, i < L.length → j < 4 → (flat L)[i * 4 + j]? = (L.getD i Pr.zero).cells[j]? := by
  induction L with
  | nil => intro i j hi; simp at hi
  | cons p r ih =>
    intro i j hi hj
    show (p.cells ++ flat r)[i * 4 + j]? = _
    have hl : p.cells.length = 4 := rfl
    cases i with
    | zero => rw [Nat.zero_mul, Nat.zero_add, List.getElem?_append_left (by omega)]; rfl
    | succ i =>
      rw [List.getElem?_append_right (by omega), hl, show (i + 1) * 4 + j - 4 = i * 4 + j by omega, ih i j (by simpa using hi) hj]
      rfl
theorem flat_one {L : List Pr} : ∀ u ∈ flat L, u.oneCell' = true := by
  intro u hu
  obtain ⟨p, _, h⟩ := List.mem_flatMap.1 hu
  simp only [Pr.cells, List.mem_cons, List.not_mem_nil, or_false] at h
  rcases h with rfl | rfl | rfl | rfl <;> rfl
/-- the cells of a pair at an address -/
def Pr.at_ (w : World) (b o : Nat) (p : Pr) : Prop :=
  w.cell? ⟨b, o, none⟩ = some (.string p.key) ∧ w.cell? ⟨b, o + 1, none⟩ = some (.int .i64 p.val.kind) ∧ w.cell? ⟨b, o + 2, none⟩ = some (.float .f64 p.val.num) ∧ w.cell? ⟨b, o + 3, none⟩ = some (.string p.val.text)
structure PairsAt (w : World) (a : Option Addr) (cap : Nat) (L : List Pr) : Prop where
  len : L.length ≤ cap
  max : cap ≤ 9223372036854775807
  nil : a = none → cap = 0
  at_ : 0 < L.length → ∃ b off, a = some ⟨b, off, none⟩ ∧ ∀ i, i < L.length → (L.getD i Pr.zero).at_ w b (off + i * 4)
theorem Pr.at_.below {w w' : World} {p : Pr} {b o : Nat} (h : p.at_ w b o) (hk : Below w.heap.size w w') : p.at_ w' b o := by
  have g : ∀ j v, w.cell? ⟨b, j, none⟩ = some v → w'.cell? ⟨b, j, none⟩ = some v := fun j v hc => (World.cell?_of_block (w := w) (hk.block b (World.block_lt_of_cell? w _ hc))).trans hc
  exact ⟨g _ _ h.1, g _ _ h.2.1, g _ _ h.2.2.1, g _ _ h.2.2.2⟩
theorem PairsAt.below {w w' : World} {a : Option Addr} {cap : Nat} {L : List Pr} (h : PairsAt w a cap L) (hk : Below w.heap.size w w') : PairsAt w' a cap L := by
  refine ⟨h.len, h.max, h.nil, fun h0 => ?_⟩
  obtain ⟨b, off, ha, hc⟩ := h.at_ h0
  exact ⟨b, off, ha, fun i hi => (hc i hi).below hk⟩
theorem PairsAt.alloc {w : World} {a : Option Addr} {cap : Nat} {L : List Pr} (h : PairsAt w a cap L) (o : Obj) : PairsAt (w.alloc o) a cap L := h.below (below_alloc _ _)
theorem PairsAt.empty (w : World) : PairsAt w none 0 [] := ⟨Nat.le_refl _, by omega, fun _ => rfl, fun h => by simp at h⟩
theorem PairsAt.bare {w : World} {cap : Nat} {L : List Pr} (h : PairsAt w none cap L) : L = [] ∧ cap = 0 := by
  have := h.nil rfl
  have := h.len
  exact ⟨List.eq_nil_of_length_eq_zero (by omega), by omega⟩
theorem PairsAt.src {w : World} {a : Option Addr} {cap : Nat} {L : List Pr} (h : PairsAt w a cap L) : SrcC 4 w a cap L.length (flat L) := by
  refine ⟨flat_length L, fun ha => ⟨by have := h.nil ha; have := h.len; omega, h.nil ha⟩, fun ad ha j u hu => ?_⟩
  obtain ⟨hj, _⟩ := List.getElem?_eq_some_iff.1 hu
  rw [flat_length] at hj
  obtain ⟨b, off, ha2, hc⟩ := h.at_ (by omega)
  rw [ha] at ha2
  injection ha2 with ha2
  subst ha2
  have hadd : (⟨b, off, Option.none⟩ : Addr).add j = ⟨b, off + j, Option.none⟩ := by unfold Addr.add; split <;> simp_all
  rw [hadd]
  have hd : j = j / 4 * 4 + j % 4 := by omega
  have hi : j / 4 < L.length := by omega
  have h4 : j % 4 < 4 := Nat.mod_lt _ (by decide)
  have hcc := hc (j / 4) hi
  rw [hd, flat_at L (j / 4) (j % 4) hi h4] at hu
  have e : off + j = off + j / 4 * 4 + j % 4 := by omega
  rw [e]
  generalize j % 4 = q at *
  generalize L.getD (j / 4) Pr.zero = p at *
  match q, h4 with
  | 0, _ => simp [Pr.cells] at hu; subst hu; exact hcc.1
  | 1, _ => simp [Pr.cells] at hu; subst hu; exact hcc.2.1
  | 2, _ => simp [Pr.cells] at hu; subst hu; exact hcc.2.2.1
  | 3, _ => simp [Pr.cells] at hu; subst hu; exact hcc.2.2.2
/-- pairs that the call has made itself -/
@[reducible] def OwnP (e : TypeId) (w : World) (b : Nat) (a : Option Addr) (cap : Nat) (L : List Pr) : Prop := OwnC e 4 w b a cap L.length (flat L)
theorem OwnP.pairs {e : TypeId} {w : World} {b : Nat} {a : Option Addr} {cap : Nat} {L : List Pr} (h : OwnP e w b a cap L) : PairsAt w a cap L := by
  have hl := flat_length L
  refine ⟨?_, ?_, fun ha => ?_, fun h0 => ?_⟩
  · rcases h.2 with ⟨_, h1, h2⟩ | ⟨_, h1, _⟩ <;> omega
  · rcases h.2 with ⟨_, h1, h2⟩ | ⟨_, _, h1, _⟩
    · omega
    · unfold maxLen at h1; omega
  · rcases h.2 with ⟨_, h1, h2⟩ | ⟨h1, _⟩
    · exact h1
    · rw [h1] at ha; cases ha
  · have hf := (h.cell (j := 0) (by omega)).1
    refine ⟨b, 0, hf, fun i hi => ?_⟩
    have g : ∀ j, j < 4 → w.cell? ⟨b, 0 + i * 4 + j, Option.none⟩ = (L.getD i Pr.zero).cells[j]? := fun j hj => by
      have hlt : i * 4 + j < (flat L).length := by omega
      have := (h.cell hlt).2.1
      rw [Nat.zero_add, this, ← List.getElem?_eq_getElem hlt, flat_at L i j hi hj]
    exact ⟨g 0 (by decide), g 1 (by decide), g 2 (by decide), g 3 (by decide)⟩
theorem getD_lt {L : List Pr} {i : Nat} (h : i < L.length) : L.getD i Pr.zero = L[i] := by simp [h]
theorem getD_mem {L : List Pr} {i : Nat} (h : i < L.length) : L.getD i Pr.zero ∈ L := by rw [getD_lt h]; exact List.getElem_mem h
/-- one pair more -/
theorem take_next {L : List Pr} {i : Nat} (h : i < L.length) : L.take (i + 1) = L.take i ++ [L.getD i Pr.zero] := by rw [List.take_succ_eq_append_getElem h, getD_lt h]
/-- a part of pairs -/
theorem PairsAt.take {w : World} {a : Option Addr} {cap : Nat} {L : List Pr} (h : PairsAt w a cap L) {n : Nat} (hn : n ≤ L.length) : PairsAt w a cap (L.take n) := by
  refine ⟨by rw [List.length_take]; have := h.len; omega, h.max, h.nil, fun h0 => ?_⟩
  rw [List.length_take] at h0
  obtain ⟨b, off, ha, hc⟩ := h.at_ (by omega)
  refine ⟨b, off, ha, fun i hi => ?_⟩
  rw [List.length_take] at hi
  have := hc i (by omega)
  rw [getD_lt (by omega)] at this
  rw [getD_lt (by rw [List.length_take]; omega), List.getElem_take]
  exact this
theorem PairsAt.drop {w : World} {ad : Addr} {cap : Nat} {L : List Pr} (h : PairsAt w (some ad) cap L) {n : Nat} (hn : n ≤ L.length) : PairsAt w (some (ad.add (n * 4))) (cap - n) (L.drop n) := by
  refine ⟨by rw [List.length_drop]; have := h.len; omega, by have := h.max; omega, fun e => (by cases e), fun h0 => ?_⟩
  rw [List.length_drop] at h0
  obtain ⟨b, off, ha, hc⟩ := h.at_ (by omega)
  injection ha with ha
  subst ha
  refine ⟨b, off + n * 4, by rw [Go.WideShapes.add_plain], fun i hi => ?_⟩
  rw [List.length_drop] at hi
  have := hc (n + i) (by omega)
  rw [getD_lt (by omega)] at this
  rw [getD_lt (by rw [List.length_drop]; omega), List.getElem_drop]
  rw [show off + n * 4 + i * 4 = off + (n + i) * 4 by omega]
  exact this
end Go.Proofs.YtaengjgmchpabaaGreat.Kv
end
section
/- Worlds behind a world; a drawn region's moves; a result in one cell. -/
namespace Go.Proofs.YtaengjgmchpabaaGreat.Kv
open Go Go.RowKit Vl Nm Mem
theorem quiet_move2 {P : Program} {C : World → Prop} {a : Go.Act} {o : Oper} {K : Go.Act → Prop} {v : Value} (x : Operand) (h : o.op = .move x) (hv : a.eval x = v) (hk : K (a.put o.dst v)) : o.quiet P a C K :=
  BigFrame.quiet_move x h (hv ▸ hk)
/-- the worlds behind a world, which leave alone what there was -/
def Beh (w0 w : World) : Prop := Below w0.heap.size w0 w
theorem Beh.start (w : World) : Beh w w := Below.refl _ _
theorem Beh.on {w0 w w' : World} (h : Beh w0 w) (hb : Below w.heap.size w w') : Beh w0 w' := blw h hb
theorem Beh.alloc {w0 w : World} (h : Beh w0 w) (o : Obj) : Beh w0 (w.alloc o) := h.on (below_alloc _ _)
theorem Beh.drew {w0 w : World} (h : Beh w0 w) : Beh w0 w.drew := below_drewN h 1
theorem Beh.drewN {w0 w : World} (h : Beh w0 w) (n : Nat) : Beh w0 (w.drewN n) := below_drewN h n
theorem Beh.set {w0 w : World} (h : Beh w0 w) {b : Nat} (hb : w0.heap.size ≤ b) (i : Nat) (v : Value) : Beh w0 (w.setCell ⟨b, i, none⟩ v) := Below.setCell h hb v
theorem Beh.below {w0 w : World} (h : Beh w0 w) : Below w0.heap.size w0 w := h
theorem Beh.size {w0 w : World} (h : Beh w0 w) : w0.heap.size ≤ w.heap.size := h.below.size
theorem Beh.trans {w0 w w' : World} (h : Beh w0 w) (k : Beh w w') : Beh w0 w' := h.on k
theorem Beh.box {w0 w : World} (h : Beh w0 w) {n : Nat} {v : Obj} (hv : w0.heap[n]? = some v) : w.heap[n]? = some v := box_on hv h
theorem results_cell_one {fn : Func} {p : Tmp} {ty : TypeId} (h : fn.results = #[.cell p ty]) (tmps : Array Value) (P : Program) (w : World) :
    (results fn tmps).run P w = ((asAddr (tmps.getD p undef)).run P w).andThen fun a w₁ => (loadVar ty a).run P w₁ := by
  simp only [results, h]
  simp [Sem.run_bind, Result.andThen]
theorem key_test (s t : ByteArray) : (s.toList == t.toList) = decide (s = t) := text_eq s t
def Vobj (v : V) : Obj := .cells #[.int .i64 v.kind, .float .f64 v.num, .string v.text] 64
def Cm.obj (c : Cm) : Obj := .cells #[.int .i64 c.kind, .string c.key, .int .i64 c.old.kind, .float .f64 c.old.num, .string c.old.text, .int .i64 c.val.kind, .float .f64 c.val.num, .string c.val.text] 66
theorem cells8 {w : World} {b : Nat} {x0 x1 x2 x3 x4 x5 x6 x7 : Value} {t : TypeId} (h : w.heap[b]? = some (.cells #[x0, x1, x2, x3, x4, x5, x6, x7] t)) :
    w.cell? ⟨b, 0, none⟩ = some x0 ∧ w.cell? ⟨b, 1, none⟩ = some x1 ∧ w.cell? ⟨b, 2, none⟩ = some x2 ∧ w.cell? ⟨b, 3, none⟩ = some x3 ∧ w.cell? ⟨b, 4, none⟩ = some x4 ∧ w.cell? ⟨b, 5, none⟩ = some x5 ∧ w.cell? ⟨b, 6, none⟩ = some x6 ∧ w.cell? ⟨b, 7, none⟩ = some x7 := by
  refine ⟨?_, ?_, ?_, ?_, ?_, ?_, ?_, ?_⟩ <;> simp [World.cell?, h]
theorem cells4 {w : World} {b : Nat} {x0 x1 x2 x3 : Value} {t : TypeId} (h : w.heap[b]? = some (.cells #[x0, x1, x2, x3] t)) :
    w.cell? ⟨b, 0, none⟩ = some x0 ∧ w.cell? ⟨b, 1, none⟩ = some x1 ∧ w.cell? ⟨b, 2, none⟩ = some x2 ∧ w.cell? ⟨b, 3, none⟩ = some x3 := by
  refine ⟨?_, ?_, ?_, ?_⟩ <;> simp [World.cell?, h]
theorem cells1 {w : World} {b : Nat} {x0 : Value} {t : TypeId} (h : w.heap[b]? = some (.cells #[x0] t)) : w.cell? ⟨b, 0, none⟩ = some x0 := by simp [World.cell?, h]
theorem frozen_of {w : World} {b : Nat} {cs : Array Value} {t : TypeId} (h : w.heap[b]? = some (.cells cs t)) (j : Nat) : w.frozen? ⟨b, j, none⟩ = false := by simp [World.frozen?, h]
theorem int_gt {a : Nat} {n : Nat} : decide ((n : Int) < (a : Int)) = decide (n < a) := by apply decide_eq_decide.2; omega
end Go.Proofs.YtaengjgmchpabaaGreat.Kv
end
