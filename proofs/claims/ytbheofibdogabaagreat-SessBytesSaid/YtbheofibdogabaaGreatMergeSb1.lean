import Derived.WalkKit
import Derived.WalkSpells
import Derived.WalkLawsBesides
import Derived.Lib.Hide
import Derived.Deep.Draws
import Derived.Below
import Derived.Laws.AppendOwnNone
import Derived.Deep.RegionLaw
section
/- Memory: what stays where only some blocks are written; bytes that a slice shows. No program. -/
namespace Go.Proofs.YtbheofibdogabaaGreat.Mem
open Go Go.RowKit

/-- Of the blocks that there are only those of S may have turned. -/
structure Kept (S : Nat → Prop) (w w' : World) : Prop where
  os : w'.os = w.os
  tape : w'.tape = w.tape
  output : w'.output = w.output
  size : w.heap.size ≤ w'.heap.size
  block : ∀ k, k < w.heap.size → ¬ S k → w'.heap[k]? = w.heap[k]?

def None : Nat → Prop := fun _ => False
def Only (b : Nat) : Nat → Prop := fun k => k = b
theorem Only.self {b : Nat} : Only b b := rfl

theorem Kept.refl (S : Nat → Prop) (w : World) : Kept S w w := ⟨rfl, rfl, rfl, Nat.le_refl _, fun _ _ _ => rfl⟩
theorem Kept.trans' {S T : Nat → Prop} {a b c : World} (h : Kept S a b) (k : Kept T b c) (ht : ∀ x, T x → S x ∨ a.heap.size ≤ x) : Kept S a c :=
  ⟨k.os.trans h.os, k.tape.trans h.tape, k.output.trans h.output, Nat.le_trans h.size k.size, fun i hi hs =>
    (k.block i (Nat.lt_of_lt_of_le hi h.size) (fun e => (ht i e).elim hs (fun g => by omega))).trans (h.block i hi hs)⟩
theorem Kept.trans {S : Nat → Prop} {a b c : World} (h : Kept S a b) (k : Kept S b c) : Kept S a c := h.trans' k (fun _ h => .inl h)
theorem Kept.mono {S T : Nat → Prop} {a b : World} (h : Kept S a b) (hs : ∀ x, S x → T x) : Kept T a b :=
  ⟨h.os, h.tape, h.output, h.size, fun i hi ht => h.block i hi (fun e => ht (hs i e))⟩
theorem Kept.ofNone {S : Nat → Prop} {a b : World} (h : Kept None a b) : Kept S a b := h.mono (fun _ h => h.elim)
theorem Kept.alloc {S : Nat → Prop} {a w : World} (h : Kept S a w) (o : Obj) : Kept S a (w.alloc o) :=
  h.trans ⟨rfl, rfl, rfl, by simp, fun k hk _ => Below.heap_alloc _ _ _ hk⟩
theorem Kept.setCell {S : Nat → Prop} {a w : World} (h : Kept S a w) {p : Addr} (hp : S p.block ∨ a.heap.size ≤ p.block) (u : Value) : Kept S a (w.setCell p u) :=
  h.trans' (T := Only p.block) ⟨rfl, rfl, rfl, by simp, fun k _ hs => Below.heap_setCell _ _ _ _ hs⟩ (fun x hx => by cases hx; exact hp)
theorem Kept.setAt {S : Nat → Prop} {a w : World} (h : Kept S a w) {b : Nat} (hb : S b ∨ a.heap.size ≤ b) (i : Nat) (u : Value) : Kept S a (w.setCell ⟨b, i, none⟩ u) := h.setCell (p := ⟨b, i, none⟩) hb u
theorem Kept.drew {S : Nat → Prop} {a w : World} (h : Kept S a w) : Kept S a w.drew := ⟨h.os, h.tape, h.output, h.size, h.block⟩
theorem Kept.drewN {S : Nat → Prop} {a w : World} (h : Kept S a w) (n : Nat) : Kept S a (w.drewN n) := ⟨h.os, h.tape, h.output, h.size, h.block⟩
theorem Kept.grown {S : Nat → Prop} {a w w' : World} {row : Option Nat} (h : Kept S a w) (hg : w.grownBy w' row) (hr : ∀ k, row = some k → S k ∨ a.heap.size ≤ k) : Kept S a w' :=
  h.trans' (T := fun k => row = some k) ⟨hg.os, hg.tape, hg.output, hg.size, fun k hk hs => hg.block k hk (fun e => hs e.symm)⟩ (fun x hx => hr x hx)
theorem Kept.below {S : Nat → Prop} {B : Nat} {w w' : World} (h : Kept S w w') (hB : B ≤ w.heap.size) (hs : ∀ k, S k → B ≤ k) : Below B w w' :=
  ⟨h.os, h.tape, h.output, h.size, fun k hk => h.block k (by omega) (fun e => by have := hs k e; omega)⟩
theorem Kept.of_below {w w' : World} (h : Below w.heap.size w w') : Kept None w w' := ⟨h.os, h.tape, h.output, h.size, fun k hk _ => h.block k hk⟩
theorem Kept.cell {S : Nat → Prop} {w w' : World} (h : Kept S w w') {p : Addr} (hp : p.block < w.heap.size) (hs : ¬ S p.block) : w'.cell? p = w.cell? p := World.cell?_of_block (w := w) (h.block p.block hp hs)
theorem Kept.frozen {S : Nat → Prop} {w w' : World} (h : Kept S w w') {p : Addr} (hp : p.block < w.heap.size) (hs : ¬ S p.block) : w'.frozen? p = w.frozen? p := World.frozen?_of_block (w := w) (h.block p.block hp hs)
theorem lt_of_heap {w : World} {b : Nat} {o : Obj} (h : w.heap[b]? = some o) : b < w.heap.size := (Array.getElem?_eq_some_iff.1 h).1
theorem Kept.heap {S : Nat → Prop} {w w' : World} (h : Kept S w w') {b : Nat} {o : Obj} (hb : w.heap[b]? = some o) (hs : ¬ S b) : w'.heap[b]? = some o := (h.block b (lt_of_heap hb) hs).trans hb

/-- bytes -/
def B8 (l : List Nat) : Prop := ∀ x ∈ l, x < 256
theorem B8.nil : B8 [] := fun _ h => by cases h
theorem B8.append {a b : List Nat} (ha : B8 a) (hb : B8 b) : B8 (a ++ b) := fun x h => (List.mem_append.1 h).elim (ha x) (hb x)
theorem B8.drop {a : List Nat} (h : B8 a) (n : Nat) : B8 (a.drop n) := fun x hx => h x (List.mem_of_mem_drop hx)
theorem B8.take {a : List Nat} (h : B8 a) (n : Nat) : B8 (a.take n) := fun x hx => h x (List.mem_of_mem_take hx)
theorem B8.get {a : List Nat} (h : B8 a) (i : Nat) : a.getD i 0 < 256 := by
  by_cases hi : i < a.length
  · have : a.getD i 0 = a[i] := by simp [hi]
    rw [this]; exact h _ (List.getElem_mem hi)
  · simp [show a.length ≤ i by omega]

/-- The slice (a, its length, cap) shows the bytes l; where it has cells, they lie in block b. -/
def Shows (w : World) (b : Nat) (a : Option Addr) (cap : Nat) (l : List Nat) : Prop :=
  l.length ≤ cap ∧ cap ≤ 9223372036854775807 ∧ ((a = none ∧ l = [] ∧ cap = 0) ∨ ∃ off, a = some ⟨b, off, none⟩ ∧ ∀ i, i < l.length → w.cell? ⟨b, off + i, none⟩ = some (.int .u8 (l.getD i 0)))

theorem Shows.kept {S : Nat → Prop} {w w' : World} {b : Nat} {a : Option Addr} {cap : Nat} {l : List Nat} (h : Shows w b a cap l) (hk : Kept S w w') (hs : l ≠ [] → ¬ S b) : Shows w' b a cap l := by
  obtain ⟨h1, h2, h3⟩ := h
  refine ⟨h1, h2, ?_⟩
  rcases h3 with h3 | ⟨off, ha, hc⟩
  · exact .inl h3
  · refine .inr ⟨off, ha, fun i hi => ?_⟩
    have hlt := World.block_lt_of_cell? w _ (hc i hi)
    exact (hk.cell (p := ⟨b, off + i, none⟩) hlt (hs (by intro e; subst e; simp at hi))).trans (hc i hi)
theorem Shows.lt {w : World} {b : Nat} {a : Option Addr} {cap : Nat} {l : List Nat} (h : Shows w b a cap l) (hl : l ≠ []) : b < w.heap.size := by
  rcases h.2.2 with ⟨_, e, _⟩ | ⟨off, _, hc⟩
  · exact absurd e hl
  · exact World.block_lt_of_cell? w _ (hc 0 (List.length_pos_iff.2 hl))
/-- The same, or an empty slice of whatever address: as one may come in. -/
def Src (w : World) (b : Nat) (a : Option Addr) (cap : Nat) (l : List Nat) : Prop := Shows w b a cap l ∨ (l = [] ∧ a ≠ none)
theorem Shows.src {w : World} {b : Nat} {a : Option Addr} {cap : Nat} {l : List Nat} (h : Shows w b a cap l) : Src w b a cap l := .inl h
theorem Src.kept {S : Nat → Prop} {w w' : World} {b : Nat} {a : Option Addr} {cap : Nat} {l : List Nat} (h : Src w b a cap l) (hk : Kept S w w') (hs : l ≠ [] → ¬ S b) : Src w' b a cap l := by
  rcases h with h | h
  · exact .inl (h.kept hk hs)
  · exact .inr h
theorem Src.lt {w : World} {b : Nat} {a : Option Addr} {cap : Nat} {l : List Nat} (h : Src w b a cap l) (hl : l ≠ []) : b < w.heap.size := by
  rcases h with h | h
  · exact h.lt hl
  · exact absurd h.1 hl
theorem Src.bare {w : World} {b cap : Nat} {l : List Nat} (h : Src w b none cap l) : l = [] ∧ cap = 0 := by
  rcases h with ⟨_, _, ⟨_, h1, h2⟩ | ⟨_, h, _⟩⟩ | h
  · exact ⟨h1, h2⟩
  · cases h
  · exact absurd rfl h.2
theorem Src.at_ {w : World} {b : Nat} {a : Option Addr} {cap : Nat} {l : List Nat} (h : Src w b a cap l) (h0 : 0 < l.length) : ∃ off, a = some ⟨b, off, none⟩ ∧ ∀ i, i < l.length → w.cell? ⟨b, off + i, none⟩ = some (.int .u8 (l.getD i 0)) := by
  rcases h with ⟨_, _, ⟨_, rfl, _⟩ | h⟩ | ⟨rfl, _⟩
  · simp at h0
  · exact h
  · simp at h0
theorem Src.len {w : World} {b : Nat} {a : Option Addr} {cap : Nat} {l : List Nat} (h : Src w b a cap l) : l.length ≤ 9223372036854775807 := by
  rcases h with h | h
  · have := h.1; have := h.2.1; omega
  · rw [h.1]; decide
theorem Kept.heap_end {S : Nat → Prop} {w w' v' : World} (h : Kept S w w') (hw : v'.heap = w'.heap) (ho : v'.os = w'.os) (ht : v'.tape = w'.tape) (hu : v'.output = w'.output) : Kept S w v' :=
  ⟨ho.trans h.os, ht.trans h.tape, hu.trans h.output, by rw [hw]; exact h.size, fun k hk hs => by rw [hw]; exact h.block k hk hs⟩
end Go.Proofs.YtbheofibdogabaaGreat.Mem
end
section
/- Bytes that the call has made itself: appended to, sliced, cloned. For any program. -/
namespace Go.Proofs.YtbheofibdogabaaGreat.Mem
open Go Go.RowKit

def byteV (x : Nat) : Value := .int .u8 x
/-- (a, its length, cap) is the head of block b, which is the call's own; e: the number of the type uint8 -/
def OwnB (e : TypeId) (w : World) (b : Nat) (a : Option Addr) (cap : Nat) (l : List Nat) : Prop :=
  (a = none ∧ cap = 0 ∧ l = []) ∨
  (a = some ⟨b, 0, none⟩ ∧ l.length ≤ cap ∧ cap ≤ maxLen ∧ ∃ cur : Array Value, w.heap[b]? = some (.cells cur e (0, 0)) ∧ cur.size = cap ∧ cur.toList.take l.length = l.map byteV)
/-- the block that is written, where there is one -/
def Of (a : Option Addr) (b : Nat) : Nat → Prop := fun k => a ≠ none ∧ k = b

theorem OwnB.nil (e : TypeId) (w : World) (b : Nat) : OwnB e w b none 0 [] := .inl ⟨rfl, rfl, rfl⟩
theorem OwnB.move {e : TypeId} {w : World} {b cap : Nat} {l : List Nat} (h : OwnB e w b none cap l) (b2 : Nat) : OwnB e w b2 none cap l := by
  rcases h with h | h
  · exact .inl h
  · exact absurd h.1 (by simp)
theorem OwnB.kept {e : TypeId} {S : Nat → Prop} {w w' : World} {b : Nat} {a : Option Addr} {cap : Nat} {l : List Nat} (h : OwnB e w b a cap l) (hk : Kept S w w') (hs : a ≠ none → ¬ S b) : OwnB e w' b a cap l := by
  rcases h with h | ⟨ha, h1, h2, cur, hh, h3⟩
  · exact .inl h
  · exact .inr ⟨ha, h1, h2, cur, hk.heap hh (hs (by rw [ha]; simp)), h3⟩
theorem OwnB.heap {e : TypeId} {w w' : World} {b : Nat} {a : Option Addr} {cap : Nat} {l : List Nat} (h : OwnB e w b a cap l) (hw : w'.heap = w.heap) : OwnB e w' b a cap l := by
  unfold OwnB at *; rw [hw]; exact h
theorem Shows.heap {w w' : World} {b : Nat} {a : Option Addr} {cap : Nat} {l : List Nat} (h : Shows w b a cap l) (hw : w'.heap = w.heap) : Shows w' b a cap l := by
  unfold Shows World.cell? at *; rw [hw]; exact h
theorem Kept.heap2 {S : Nat → Prop} {w v w' : World} (h : Kept S w w') (hw : w.heap = v.heap) (ho : w.os = v.os) (ht : w.tape = v.tape) (hu : w.output = v.output) : Kept S v w' :=
  ⟨h.os.trans ho, h.tape.trans ht, h.output.trans hu, by rw [← hw]; exact h.size, fun k hk hs => by rw [h.block k (by rw [hw]; exact hk) hs, hw]⟩
theorem OwnB.lt {e : TypeId} {w : World} {b : Nat} {a : Option Addr} {cap : Nat} {l : List Nat} (h : OwnB e w b a cap l) (ha : a ≠ none) : b < w.heap.size := by
  rcases h with h | ⟨_, _, _, cur, hh, _⟩
  · exact absurd h.1 ha
  · exact lt_of_heap hh
theorem OwnB.row {e : TypeId} {w : World} {b : Nat} {a : Option Addr} {cap : Nat} {l : List Nat} (h : OwnB e w b a cap l) : w.ownsRow 0 e 1 (.slice a l.length cap) l.length (l.map byteV) := by
  refine ⟨by simp, ?_⟩
  rcases h with ⟨rfl, rfl, rfl⟩ | ⟨rfl, h1, h2, cur, hh, h3, h4⟩
  · exact .inl ⟨rfl, rfl⟩
  · exact .inr ⟨b, cap, cur, rfl, Nat.zero_le _, hh, h1, h2, by omega, by rw [Nat.mul_one]; exact h4⟩
theorem OwnB.cellAt {e : TypeId} {w : World} {b cap : Nat} {l : List Nat} (h : OwnB e w b (some ⟨b, 0, none⟩) cap l) (i : Nat) (hi : i < l.length) : w.cell? ⟨b, i, none⟩ = some (.int .u8 (l.getD i 0)) := by
  have := h.row.cellAt i (by omega)
  rw [this]
  simp [byteV, hi]
theorem OwnB.shows {e : TypeId} {w : World} {b : Nat} {a : Option Addr} {cap : Nat} {l : List Nat} (h : OwnB e w b a cap l) : Shows w b a cap l := by
  have hc := h
  rcases h with ⟨rfl, rfl, rfl⟩ | ⟨rfl, h1, h2, _⟩
  · exact ⟨Nat.le_refl _, by decide, .inl ⟨rfl, rfl, rfl⟩⟩
  · unfold maxLen at h2
    exact ⟨h1, h2, .inr ⟨0, rfl, fun i hi => by rw [Nat.zero_add]; exact hc.cellAt i hi⟩⟩
/-- the cells behind a slice of bytes, as the laws of append ask for them -/
theorem Shows.news {w : World} {b : Nat} {a : Addr} {cap : Nat} {l : List Nat} (h : Shows w b (some a) cap l) : ∀ j u, (l.map byteV)[j]? = some u → w.cell? (a.add j) = some u := by
  intro j u hu
  rcases h.2.2 with ⟨ha, _⟩ | ⟨off, ha, hc⟩
  · cases ha
  · injection ha with ha
    subst ha
    rw [List.getElem?_map] at hu
    obtain ⟨y, hy, rfl⟩ := Option.map_eq_some_iff.1 hu
    obtain ⟨hj, e⟩ := List.getElem?_eq_some_iff.1 hy
    have hadd : (⟨b, off, none⟩ : Addr).add j = ⟨b, off + j, none⟩ := by unfold Addr.add; split <;> simp_all
    rw [hadd, hc j hj]
    simp [hj, e, byteV]
theorem Src.news {w : World} {b : Nat} {a : Addr} {cap : Nat} {l : List Nat} (h : Src w b (some a) cap l) : ∀ j u, (l.map byteV)[j]? = some u → w.cell? (a.add j) = some u := by
  rcases h with h | ⟨rfl, _⟩
  · exact h.news
  · intro j u hu; simp at hu
theorem Src.heap {w w' : World} {b : Nat} {a : Option Addr} {cap : Nat} {l : List Nat} (h : Src w b a cap l) (hw : w'.heap = w.heap) : Src w' b a cap l := h.imp (fun h => by unfold Shows World.cell? at *; rw [hw]; exact h) id
theorem OwnB.src {e : TypeId} {w : World} {b : Nat} {a : Option Addr} {cap : Nat} {l : List Nat} (h : OwnB e w b a cap l) : Src w b a cap l := .inl h.shows
theorem news_one {l : List Nat} : ∀ u ∈ l.map byteV, u.oneCell' = true := by
  intro u hu
  obtain ⟨y, _, rfl⟩ := List.mem_map.1 hu
  rfl

theorem own_new {e : TypeId} {w : World} {cur : Array Value} {l : List Nat} {cap : Nat} (h1 : l.length ≤ cap) (h2 : cap ≤ maxLen) (h3 : cur.size = cap) (h4 : cur.toList.take l.length = l.map byteV) :
    OwnB e (w.alloc (.cells cur e)) w.heap.size (some ⟨w.heap.size, 0, none⟩) cap l := .inr ⟨rfl, h1, h2, cur, heap_alloc_new w _, h3, h4⟩

/-- append, of whatever bytes, to whatever bytes the call has made itself -/
theorem run_append_bytes {P : Program} (w : World) (t ty e : TypeId) (i : TypeInfo) (ht : P.underlying t = some (.slice e)) (hi : P.info? e = some i) (hz : i.zero = some (.int .u8 0)) (hsize : i.size = 1) (hby : i.bytes = 1)
    (b : Nat) (a : Option Addr) (cap : Nat) (l : List Nat) (own : OwnB e w b a cap l) (b2 : Nat) (a2 : Option Addr) (cap2 : Nat) (m : List Nat) (hs : Src w b2 a2 cap2 m) (hle : l.length + m.length ≤ 70368744177664) :
    ∃ b' a' cap' w', (Builtin.append_ #[t, t] ty #[.slice a l.length cap, .slice a2 m.length cap2]).run P w = .ok (.slice a' (l ++ m).length cap') w' ∧
      OwnB e w' b' a' cap' (l ++ m) ∧ Kept (Of a b) w w' ∧ ((b' = b ∧ (a' = none ∨ a ≠ none)) ∨ w.heap.size ≤ b') ∧ (a' = none ↔ a = none ∧ m = []) := by
  have hmx : l.length + m.length ≤ maxLen := by unfold maxLen; omega
  have hlen : (l ++ m).length = l.length + m.length := List.length_append
  -- a block that is made
  have made : ∀ old, old < l.length + m.length →
      OwnB e (w.drew.alloc (.cells ((l.map byteV).toArray ++ (m.map byteV).toArray ++ Builtin.zeroCells (Value.cells (.int .u8 0)) (grownCap w (l.length + m.length) old e - (l.length + m.length))) e)) w.heap.size (some ⟨w.heap.size, 0, none⟩) (grownCap w (l.length + m.length) old e) (l ++ m) := by
    intro old ho
    have hge := grownCap_ge w (l.length + m.length) old e
    have hcm : grownCap w (l.length + m.length) old e ≤ maxLen := grownCap_le_maxLen w _ old e hmx
    refine own_new (w := w.drew) (by omega) hcm ?_ ?_
    · have : (Value.cells (.int .u8 0)).size = 1 := rfl
      simp only [Array.size_append, List.size_toArray, List.length_map, size_zeroCells, this, Nat.mul_one]
      omega
    · simp only [Array.toList_append, List.append_assoc]
      rw [← List.append_assoc, ← List.map_append, List.take_append_of_le_length (by simp)]
      rw [List.take_of_length_le (by simp)]
  have kn : ∀ o, Kept (Of a b) w (w.drew.alloc o) := fun o => (Kept.refl _ _).drew.alloc o
  cases a2 with
  | none =>
    obtain ⟨rfl, rfl⟩ := hs.bare
    have hr := run_append_owned_none (P := P) w 0 t ty e i 1 ht hi _ _ _ own.row
    exact ⟨b, a, cap, w, by simpa using hr, by simpa using own, Kept.refl _ _, .inl ⟨rfl, by cases a <;> simp⟩, by simp⟩
  | some ad =>
    have hnews := hs.news
    have hl : (m.map byteV).length = m.length * i.size := by rw [hsize]; simp
    rcases own with ⟨rfl, rfl, rfl⟩ | ⟨rfl, h1, h2, cur, hh, h3, h4⟩
    · by_cases hm : m = []
      · subst hm
        refine ⟨b, none, 0, w, ?_, .inl ⟨rfl, rfl, rfl⟩, Kept.refl _ _, .inl ⟨rfl, .inl rfl⟩, by simp⟩
        simp [Builtin.append_, run_underlying ht, sizeOf, typeInfo, hi, Builtin.lenOf, Builtin.firstCells, loadCells, loadCellsFrom]
      · have hpos : 0 < m.length := List.length_pos_iff.2 hm
        have hr := run_append_nil (P := P) w t ty e i _ ht hi hz ad m.length cap2 _ hl hnews hpos (by omega) (by rw [hby]; simp at hle; omega)
        have hm2 := made 0 (by simp; omega)
        simp only [List.length_nil, Nat.zero_add, List.map_nil, List.nil_append, Array.empty_append] at hm2 hle ⊢
        refine ⟨w.heap.size, _, _, _, hr, ?_, kn _, .inr (Nat.le_refl _), by simp [hm]⟩
        simpa using hm2
    · by_cases hroom : l.length + m.length ≤ cap
      · have hfit : l.length * i.size + (m.map byteV).length ≤ cur.size := by rw [hsize, h3]; simp; omega
        have hr := run_append_room (P := P) w t ty e i ht hi b l.length cap cur hh ad m.length cap2 _ hl hnews news_one hroom hfit
        refine ⟨b, _, cap, _, by rw [hlen]; exact hr, .inr ⟨rfl, by omega, h2, _, setRow_heap w b cur _ e _ hh, ?_, ?_⟩, ⟨rfl, rfl, rfl, by simp, fun k _ hk => setRow_other w b k _ (fun e => hk ⟨by simp, e⟩)⟩, .inl ⟨rfl, .inr (by simp)⟩, by simp⟩
        · simp only [List.size_toArray, List.length_append, List.length_take, List.length_drop, Array.length_toList, List.length_map, hsize]
          omega
        · rw [hsize, Nat.mul_one, h4, hlen, List.map_append]
          show List.take _ ((l.map byteV ++ m.map byteV) ++ _) = _
          rw [List.take_append_of_le_length (by simp), List.take_of_length_le (by simp)]
      · have holds : ∀ j v, (l.map byteV)[j]? = some v → w.cell? ((⟨b, 0, none⟩ : Addr).add j) = some v := (Shows.news (w := w) (b := b) (cap := cap) (l := l) (OwnB.shows (e := e) (.inr ⟨rfl, h1, h2, cur, hh, h3, h4⟩)))
        have hr := run_append_grow (P := P) w t ty e i _ ht hi hz ⟨b, 0, none⟩ l.length cap (l.map byteV) (by rw [hsize]; simp) holds ad m.length cap2 _ hl hnews (by omega) (by omega) (growslice_fits (by omega) (by rw [hby]; omega))
        exact ⟨w.heap.size, _, _, _, by rw [hlen]; exact hr, made cap (by omega), kn _, .inr (Nat.le_refl _), by simp⟩

/-- the same, as a step of a walk -/
theorem wp_append_bytes {P : Program} {w : World} {o : Oper} {a : Act} {K : Act → World → Prop} {Q : Exit → Act → World → Prop} (s x : Operand) (t : TypeId)
    (ho : o.op = .call { callee := .builtin .append, args := #[s, x], argTypes := #[t, t] })
    (e : TypeId) (i : TypeInfo) (ht : P.underlying t = some (.slice e)) (hi : P.info? e = some i) (hz : i.zero = some (.int .u8 0)) (hsize : i.size = 1) (hby : i.bytes = 1)
    (b : Nat) (ao : Option Addr) (cap : Nat) (l : List Nat) (n : Nat) (hs : a.eval s = .slice ao n cap) (own : OwnB e w b ao cap l) (hn : l.length = n)
    (b2 : Nat) (a2 : Option Addr) (cap2 : Nat) (m : List Nat) (n2 : Nat) (hx : a.eval x = .slice a2 n2 cap2) (hsh : Src w b2 a2 cap2 m) (hn2 : m.length = n2) (hle : n + n2 ≤ 70368744177664)
    (h : ∀ b' a' cap' w', OwnB e w' b' a' cap' (l ++ m) → Kept (Of ao b) w w' → ((b' = b ∧ (a' = none ∨ ao ≠ none)) ∨ w.heap.size ≤ b') → (a' = none ↔ ao = none ∧ m = []) → K (a.put o.dst (.slice a' (l ++ m).length cap')) w') : o.wp P a w K Q := by
  subst hn hn2
  obtain ⟨b', a', cap', w', hr, h2, h3, h4, h5⟩ := run_append_bytes (P := P) w t o.type e i ht hi hz hsize hby b ao cap l own b2 a2 cap2 m hsh hle
  unfold Oper.wp execOp
  simp only [ho, resolve, invoke, builtin, Sem.run_bind, Sem.run_pure, Result.andThen_ok, List.map_toArray, List.map_cons, List.map_nil, hs, hx, hr]
  exact h b' a' cap' w' h2 h3 h4 h5
theorem wpList_append_bytes {P : Program} {w : World} {ops : Array Oper} {rest : List Oper} {o : Oper} {a : Act} {Q : Exit → Act → World → Prop} (hgd : o.guard = none) (s x : Operand) (t : TypeId)
    (ho : o.op = .call { callee := .builtin .append, args := #[s, x], argTypes := #[t, t] })
    (e : TypeId) (i : TypeInfo) (ht : P.underlying t = some (.slice e)) (hi : P.info? e = some i) (hz : i.zero = some (.int .u8 0)) (hsize : i.size = 1) (hby : i.bytes = 1)
    (b : Nat) (ao : Option Addr) (cap : Nat) (l : List Nat) (n : Nat) (hs : a.eval s = .slice ao n cap) (own : OwnB e w b ao cap l) (hn : l.length = n)
    (b2 : Nat) (a2 : Option Addr) (cap2 : Nat) (m : List Nat) (n2 : Nat) (hx : a.eval x = .slice a2 n2 cap2) (hsh : Src w b2 a2 cap2 m) (hn2 : m.length = n2) (hle : n + n2 ≤ 70368744177664)
    (h : ∀ b' a' cap' w', OwnB e w' b' a' cap' (l ++ m) → Kept (Of ao b) w w' → ((b' = b ∧ (a' = none ∨ ao ≠ none)) ∨ w.heap.size ≤ b') → (a' = none ↔ ao = none ∧ m = []) → wpList P ops Q rest (a.put o.dst (.slice a' (l ++ m).length cap')) w') : wpList P ops Q (o :: rest) a w :=
  wpList_plain hgd fun _ hK => wp_append_bytes s x t ho e i ht hi hz hsize hby b ao cap l n hs own hn b2 a2 cap2 m n2 hx hsh hn2 hle fun b' a' cap' w' h2 h3 h4 h5 => hK _ _ (h b' a' cap' w' h2 h3 h4 h5)
/-- the same, in a region that draws its order -/
theorem step_append_bytes {P : Program} {w : World} {ops : Array Oper} {o : Oper} {a : Act} {K : Act → World → Prop} {Q : Exit → Act → World → Prop} {E : Prop} (hgd : o.guard = none) (s x : Operand) (t : TypeId)
    (ho : o.op = .call { callee := .builtin .append, args := #[s, x], argTypes := #[t, t] })
    (e : TypeId) (i : TypeInfo) (ht : P.underlying t = some (.slice e)) (hi : P.info? e = some i) (hz : i.zero = some (.int .u8 0)) (hsize : i.size = 1) (hby : i.bytes = 1)
    (b : Nat) (ao : Option Addr) (cap : Nat) (l : List Nat) (n : Nat) (hs : a.eval s = .slice ao n cap) (own : OwnB e w b ao cap l) (hn : l.length = n)
    (b2 : Nat) (a2 : Option Addr) (cap2 : Nat) (m : List Nat) (n2 : Nat) (hx : a.eval x = .slice a2 n2 cap2) (hsh : Src w b2 a2 cap2 m) (hn2 : m.length = n2) (hle : n + n2 ≤ 70368744177664)
    (h : ∀ b' a' cap' w', OwnB e w' b' a' cap' (l ++ m) → Kept (Of ao b) w w' → ((b' = b ∧ (a' = none ∨ ao ≠ none)) ∨ w.heap.size ≤ b') → (a' = none ↔ ao = none ∧ m = []) → K (a.put o.dst (.slice a' (l ++ m).length cap')) w') :
    if Region.wanted o (yielded ops a.tmps) = true then Oper.wp P o a w K Q else E := by
  have hw : Region.wanted o (yielded ops a.tmps) = true := by simp [Region.wanted, hgd]
  rw [if_pos hw]
  exact wp_append_bytes s x t ho e i ht hi hz hsize hby b ao cap l n hs own hn b2 a2 cap2 m n2 hx hsh hn2 hle h
theorem run_eql_nil {P : Program} (w : World) (t e : TypeId) (a : Option Addr) (n c : Nat) (h : P.underlying t = some (.slice e)) : (binOp .eql t (.slice a n c) (.slice none 0 0)).run P w = .ok (.bool a.isNone) w := by
  have hh : ∀ d : Nat, (Op.equalIn (d + 1) t (.slice a n c) (.slice none 0 0)).run P w = .ok a.isNone w := fun d => by
    cases a <;> simp [Op.equalIn, run_underlying h]
  simp only [binOp]
  simp [Op.equal, Op.maxDepth, hh 9999]
end Go.Proofs.YtbheofibdogabaaGreat.Mem
end
