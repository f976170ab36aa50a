/- Memory: what stays where only some blocks are written; bytes that a slice shows. No program. -/
import Derived.WalkKit
import Derived.WalkSpells
import Derived.WalkLawsBesides
import Derived.Lib.Hide
import Derived.Deep.Draws
import Derived.Below
namespace Go.Proofs.Ytakaflbfhpalhaa.Mem
open Go Go.RowKit

/-- Of the blocks that there are only those of S may have turned. -/
structure Kept (S : Nat → Prop) (w w' : World) : Prop where
  os : w'.os = w.os
  tape : w'.tape = w.tape
  output : w'.output = w.output
  size : w.heap.size ≤ w'.heap.size
  block : ∀ k, k < w.heap.size → ¬ S k → w'.heap[k]? = w.heap[k]?

def None : Nat → Prop := fun _ => False
def Only (b : Nat) : Nat → Prop := fun k => k = b
theorem Only.self {b : Nat} : Only b b := rfl

theorem Kept.refl (S : Nat → Prop) (w : World) : Kept S w w := ⟨rfl, rfl, rfl, Nat.le_refl _, fun _ _ _ => rfl⟩
theorem Kept.trans' {S T : Nat → Prop} {a b c : World} (h : Kept S a b) (k : Kept T b c) (ht : ∀ x, T x → S x ∨ a.heap.size ≤ x) : Kept S a c :=
  ⟨k.os.trans h.os, k.tape.trans h.tape, k.output.trans h.output, Nat.le_trans h.size k.size, fun i hi hs =>
    (k.block i (Nat.lt_of_lt_of_le hi h.size) (fun e => (ht i e).elim hs (fun g => by omega))).trans (h.block i hi hs)⟩
theorem Kept.trans {S : Nat → Prop} {a b c : World} (h : Kept S a b) (k : Kept S b c) : Kept S a c := h.trans' k (fun _ h => .inl h)
theorem Kept.mono {S T : Nat → Prop} {a b : World} (h : Kept S a b) (hs : ∀ x, S x → T x) : Kept T a b :=
  ⟨h.os, h.tape, h.output, h.size, fun i hi ht => h.block i hi (fun e => ht (hs i e))⟩
theorem Kept.ofNone {S : Nat → Prop} {a b : World} (h : Kept None a b) : Kept S a b := h.mono (fun _ h => h.elim)
theorem Kept.alloc {S : Nat → Prop} {a w : World} (h : Kept S a w) (o : Obj) : Kept S a (w.alloc o) :=
  h.trans ⟨rfl, rfl, rfl, by simp, fun k hk _ => Below.heap_alloc _ _ _ hk⟩
theorem Kept.setCell {S : Nat → Prop} {a w : World} (h : Kept S a w) {p : Addr} (hp : S p.block ∨ a.heap.size ≤ p.block) (u : Value) : Kept S a (w.setCell p u) :=
  h.trans' (T := Only p.block) ⟨rfl, rfl, rfl, by simp, fun k _ hs => Below.heap_setCell _ _ _ _ hs⟩ (fun x hx => by cases hx; exact hp)
theorem Kept.setAt {S : Nat → Prop} {a w : World} (h : Kept S a w) {b : Nat} (hb : S b ∨ a.heap.size ≤ b) (i : Nat) (u : Value) : Kept S a (w.setCell ⟨b, i, none⟩ u) := h.setCell (p := ⟨b, i, none⟩) hb u
theorem Kept.drew {S : Nat → Prop} {a w : World} (h : Kept S a w) : Kept S a w.drew := ⟨h.os, h.tape, h.output, h.size, h.block⟩
theorem Kept.drewN {S : Nat → Prop} {a w : World} (h : Kept S a w) (n : Nat) : Kept S a (w.drewN n) := ⟨h.os, h.tape, h.output, h.size, h.block⟩
theorem Kept.grown {S : Nat → Prop} {a w w' : World} {row : Option Nat} (h : Kept S a w) (hg : w.grownBy w' row) (hr : ∀ k, row = some k → S k ∨ a.heap.size ≤ k) : Kept S a w' :=
  h.trans' (T := fun k => row = some k) ⟨hg.os, hg.tape, hg.output, hg.size, fun k hk hs => hg.block k hk (fun e => hs e.symm)⟩ (fun x hx => hr x hx)
theorem Kept.below {S : Nat → Prop} {B : Nat} {w w' : World} (h : Kept S w w') (hB : B ≤ w.heap.size) (hs : ∀ k, S k → B ≤ k) : Below B w w' :=
  ⟨h.os, h.tape, h.output, h.size, fun k hk => h.block k (by omega) (fun e => by have := hs k e; omega)⟩
theorem Kept.of_below {w w' : World} (h : Below w.heap.size w w') : Kept None w w' := ⟨h.os, h.tape, h.output, h.size, fun k hk _ => h.block k hk⟩
theorem Kept.cell {S : Nat → Prop} {w w' : World} (h : Kept S w w') {p : Addr} (hp : p.block < w.heap.size) (hs : ¬ S p.block) : w'.cell? p = w.cell? p := World.cell?_of_block (w := w) (h.block p.block hp hs)
theorem Kept.frozen {S : Nat → Prop} {w w' : World} (h : Kept S w w') {p : Addr} (hp : p.block < w.heap.size) (hs : ¬ S p.block) : w'.frozen? p = w.frozen? p := World.frozen?_of_block (w := w) (h.block p.block hp hs)
theorem lt_of_heap {w : World} {b : Nat} {o : Obj} (h : w.heap[b]? = some o) : b < w.heap.size := (Array.getElem?_eq_some_iff.1 h).1
theorem Kept.heap {S : Nat → Prop} {w w' : World} (h : Kept S w w') {b : Nat} {o : Obj} (hb : w.heap[b]? = some o) (hs : ¬ S b) : w'.heap[b]? = some o := (h.block b (lt_of_heap hb) hs).trans hb

/-- bytes -/
def B8 (l : List Nat) : Prop := ∀ x ∈ l, x < 256
theorem B8.nil : B8 [] := fun _ h => by cases h
theorem B8.append {a b : List Nat} (ha : B8 a) (hb : B8 b) : B8 (a ++ b) := fun x h => (List.mem_append.1 h).elim (ha x) (hb x)
theorem B8.drop {a : List Nat} (h : B8 a) (n : Nat) : B8 (a.drop n) := fun x hx => h x (List.mem_of_mem_drop hx)
theorem B8.take {a : List Nat} (h : B8 a) (n : Nat) : B8 (a.take n) := fun x hx => h x (List.mem_of_mem_take hx)
theorem B8.get {a : List Nat} (h : B8 a) (i : Nat) : a.getD i 0 < 256 := by
  by_cases hi : i < a.length
  · have : a.getD i 0 = a[i] := by simp [hi]
    rw [this]; exact h _ (List.getElem_mem hi)
  · simp [show a.length ≤ i by omega]

/-- The slice (a, its length, cap) shows the bytes l; where it has cells, they lie in block b. -/
def Shows (w : World) (b : Nat) (a : Option Addr) (cap : Nat) (l : List Nat) : Prop :=
  l.length ≤ cap ∧ cap ≤ 9223372036854775807 ∧ ((a = none ∧ l = [] ∧ cap = 0) ∨ ∃ off, a = some ⟨b, off, none⟩ ∧ ∀ i, i < l.length → w.cell? ⟨b, off + i, none⟩ = some (.int .u8 (l.getD i 0)))

theorem Shows.kept {S : Nat → Prop} {w w' : World} {b : Nat} {a : Option Addr} {cap : Nat} {l : List Nat} (h : Shows w b a cap l) (hk : Kept S w w') (hs : l ≠ [] → ¬ S b) : Shows w' b a cap l := by
  obtain ⟨h1, h2, h3⟩ := h
  refine ⟨h1, h2, ?_⟩
  rcases h3 with h3 | ⟨off, ha, hc⟩
  · exact .inl h3
  · refine .inr ⟨off, ha, fun i hi => ?_⟩
    have hlt := World.block_lt_of_cell? w _ (hc i hi)
    exact (hk.cell (p := ⟨b, off + i, none⟩) hlt (hs (by intro e; subst e; simp at hi))).trans (hc i hi)
theorem Shows.lt {w : World} {b : Nat} {a : Option Addr} {cap : Nat} {l : List Nat} (h : Shows w b a cap l) (hl : l ≠ []) : b < w.heap.size := by
  rcases h.2.2 with ⟨_, e, _⟩ | ⟨off, _, hc⟩
  · exact absurd e hl
  · exact World.block_lt_of_cell? w _ (hc 0 (List.length_pos_iff.2 hl))
/-- The same, or an empty slice of whatever address: as one may come in. -/
def Src (w : World) (b : Nat) (a : Option Addr) (cap : Nat) (l : List Nat) : Prop := Shows w b a cap l ∨ (l = [] ∧ a ≠ none)
theorem Shows.src {w : World} {b : Nat} {a : Option Addr} {cap : Nat} {l : List Nat} (h : Shows w b a cap l) : Src w b a cap l := .inl h
theorem Src.kept {S : Nat → Prop} {w w' : World} {b : Nat} {a : Option Addr} {cap : Nat} {l : List Nat} (h : Src w b a cap l) (hk : Kept S w w') (hs : l ≠ [] → ¬ S b) : Src w' b a cap l := by
  rcases h with h | h
  · exact .inl (h.kept hk hs)
  · exact .inr h
theorem Src.lt {w : World} {b : Nat} {a : Option Addr} {cap : Nat} {l : List Nat} (h : Src w b a cap l) (hl : l ≠ []) : b < w.heap.size := by
  rcases h with h | h
  · exact h.lt hl
  · exact absurd h.1 hl
theorem Src.bare {w : World} {b cap : Nat} {l : List Nat} (h : Src w b none cap l) : l = [] ∧ cap = 0 := by
  rcases h with ⟨_, _, ⟨_, h1, h2⟩ | ⟨_, h, _⟩⟩ | h
  · exact ⟨h1, h2⟩
  · cases h
  · exact absurd rfl h.2
theorem Src.at_ {w : World} {b : Nat} {a : Option Addr} {cap : Nat} {l : List Nat} (h : Src w b a cap l) (h0 : 0 < l.length) : ∃ off, a = some ⟨b, off, none⟩ ∧ ∀ i, i < l.length → w.cell? ⟨b, off + i, none⟩ = some (.int .u8 (l.getD i 0)) := by
  rcases h with ⟨_, _, ⟨_, rfl, _⟩ | h⟩ | ⟨rfl, _⟩
  · simp at h0
  · exact h
  · simp at h0
theorem Src.len {w : World} {b : Nat} {a : Option Addr} {cap : Nat} {l : List Nat} (h : Src w b a cap l) : l.length ≤ 9223372036854775807 := by
  rcases h with h | h
  · have := h.1; have := h.2.1; omega
  · rw [h.1]; decide
theorem Kept.heap_end {S : Nat → Prop} {w w' v' : World} (h : Kept S w w') (hw : v'.heap = w'.heap) (ho : v'.os = w'.os) (ht : v'.tape = w'.tape) (hu : v'.output = w'.output) : Kept S w v' :=
  ⟨ho.trans h.os, ht.trans h.tape, hu.trans h.output, by rw [hw]; exact h.size, fun k hk hs => by rw [hw]; exact h.block k hk hs⟩
end Go.Proofs.Ytakaflbfhpalhaa.Mem
