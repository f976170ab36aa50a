/- A Disk in memory, for the code that landed: its fields, the variable that it may share, the bytes; its inner functions. -/
import Derived.Test.YtaogpchjkbcjoaaDiskMath
import Derived.Test.YtaogpchjkbcjoaaCloneB
import Derived.Lib.MinMax
import Derived.Deep.RegionLaw
import Derived.Deep.RegionWith
namespace Go.Proofs.Ytaogpchjkbcjoaa.Dk
open Go Go.RowKit Mem Kp
def dcells (st : St) (p : Option Addr) : Array Value := #[.int .i64 st.room, .pointer p, .int .i64 st.file.length, .int .i64 st.safe, .bool st.off, .int .i64 st.armed, .int .i64 st.keep]
def Held (w : World) (d : Nat) (S : Nat → Prop) (p : Option Addr) (l : List Nat) : Prop :=
  (p = none ∧ l = []) ∨ ∃ s b a c, p = some ⟨s, 0, none⟩ ∧ w.heap[s]? = some (.cells #[.slice a l.length c] 30 (0, 0)) ∧ OwnB 5 w b a c l ∧ S s ∧ s ≠ d ∧ (a ≠ none → S b) ∧ b ≠ d ∧ b ≠ s
structure At (w : World) (d : Nat) (S : Nat → Prop) (p : Option Addr) (st : St) : Prop where
  heap : w.heap[d]? = some (.cells (dcells st p) 56 (0, 0))
  held : Held w d S p st.file
  self : S d
  hi : ∀ k, S k → k < w.heap.size
theorem Held.kept {w w' : World} {d : Nat} {S T : Nat → Prop} {p : Option Addr} {l : List Nat} (h : Held w d S p l) (hk : Kept T w w') (hs : ∀ k, S k → k ≠ d → ¬ T k) : Held w' d S p l := by
  rcases h with h | ⟨s, b, a, c, h1, h2, h3, h4, h5, h6, h7, h8⟩
  · exact .inl h
  · exact .inr ⟨s, b, a, c, h1, hk.heap h2 (hs s h4 h5), h3.kept hk (fun hn => hs b (h6 hn) h7), h4, h5, h6, h7, h8⟩
theorem At.kept {w w' : World} {d : Nat} {S T : Nat → Prop} {p : Option Addr} {st : St} (h : At w d S p st) (hk : Kept T w w') (hs : ∀ k, S k → ¬ T k) : At w' d S p st :=
  ⟨hk.heap h.heap (hs d h.self), h.held.kept hk (fun k hS _ => hs k hS), h.self, fun k hS => Nat.lt_of_lt_of_le (h.hi k hS) hk.size⟩
theorem At.same {w w' : World} {d : Nat} {S : Nat → Prop} {p : Option Addr} {st : St} (h : At w d S p st) (hk : Kept None w w') : At w' d S p st := h.kept hk (fun _ _ h => h)
theorem At.cells {w : World} {d : Nat} {S : Nat → Prop} {p : Option Addr} {st : St} (h : At w d S p st) :
    (w.cell? ⟨d, 0, none⟩ = some (.int .i64 st.room) ∧ w.cell? ⟨d, 1, none⟩ = some (.pointer p) ∧ w.cell? ⟨d, 2, none⟩ = some (.int .i64 st.file.length) ∧ w.cell? ⟨d, 3, none⟩ = some (.int .i64 st.safe) ∧ w.cell? ⟨d, 4, none⟩ = some (.bool st.off) ∧ w.cell? ⟨d, 5, none⟩ = some (.int .i64 st.armed) ∧ w.cell? ⟨d, 6, none⟩ = some (.int .i64 st.keep)) ∧ ∀ i, w.frozen? ⟨d, i, none⟩ = false :=
  ⟨⟨cell_heap h.heap 0, cell_heap h.heap 1, cell_heap h.heap 2, cell_heap h.heap 3, cell_heap h.heap 4, cell_heap h.heap 5, cell_heap h.heap 6⟩, fun i => frozen_heap h.heap i⟩
/-- a cell is stored -/
theorem At.put {w : World} {d : Nat} {S : Nat → Prop} {p : Option Addr} {st : St} (h : At w d S p st) (i : Nat) (v : Value) (st' : St) (hc : (dcells st p).setIfInBounds i v = dcells st' p) (hf : st'.file = st.file) : At (w.setCell ⟨d, i, none⟩ v) d S p st' ∧ Kept (Only d) w (w.setCell ⟨d, i, none⟩ v) := by
  have k : Kept (Only d) w (w.setCell ⟨d, i, none⟩ v) := (Kept.refl _ _).setAt (.inl (show Only d d from rfl)) _ _
  refine ⟨⟨by rw [← hc]; exact heap_set h.heap i v, by rw [hf]; exact h.held.kept k (fun k _ hn e => hn e), h.self, fun k2 hS => Nat.lt_of_lt_of_le (h.hi k2 hS) k.size⟩, k⟩
theorem At.armed {w : World} {d : Nat} {S : Nat → Prop} {p : Option Addr} {st : St} (h : At w d S p st) (n : Nat) : At (w.setCell ⟨d, 5, none⟩ (.int .i64 n)) d S p ⟨st.room, st.file, st.safe, st.off, n, st.keep⟩ ∧ Kept (Only d) w (w.setCell ⟨d, 5, none⟩ (.int .i64 n)) := h.put 5 _ _ rfl rfl
theorem At.offs {w : World} {d : Nat} {S : Nat → Prop} {p : Option Addr} {st : St} (h : At w d S p st) (b : Bool) : At (w.setCell ⟨d, 4, none⟩ (.bool b)) d S p ⟨st.room, st.file, st.safe, b, st.armed, st.keep⟩ ∧ Kept (Only d) w (w.setCell ⟨d, 4, none⟩ (.bool b)) := h.put 4 _ _ rfl rfl
theorem At.safes {w : World} {d : Nat} {S : Nat → Prop} {p : Option Addr} {st : St} (h : At w d S p st) (n : Nat) : At (w.setCell ⟨d, 3, none⟩ (.int .i64 n)) d S p ⟨st.room, st.file, n, st.off, st.armed, st.keep⟩ ∧ Kept (Only d) w (w.setCell ⟨d, 3, none⟩ (.int .i64 n)) := h.put 3 _ _ rfl rfl
theorem At.keeps {w : World} {d : Nat} {S : Nat → Prop} {p : Option Addr} {st : St} (h : At w d S p st) (k : Int) : At (w.setCell ⟨d, 6, none⟩ (.int .i64 k)) d S p ⟨st.room, st.file, st.safe, st.off, st.armed, k⟩ ∧ Kept (Only d) w (w.setCell ⟨d, 6, none⟩ (.int .i64 k)) := h.put 6 _ _ rfl rfl
/-- what a call leaves; q: what is asked of the pointer to the shared variable -/
def LeftA (q : Option Addr → Prop) (d : Nat) (S : Nat → Prop) (w : World) (st : St) (w' : World) : Prop := ∃ S' p, q p ∧ At w' d S' p st ∧ Kept S w w' ∧ ∀ k, S' k → S k ∨ w.heap.size ≤ k
def Any : Option Addr → Prop := fun _ => True
def Some : Option Addr → Prop := fun p => p ≠ none
theorem LeftA.any {q : Option Addr → Prop} {d : Nat} {S : Nat → Prop} {w w' : World} {st : St} (h : LeftA q d S w st w') : LeftA Any d S w st w' := by
  obtain ⟨S', p, _, h⟩ := h; exact ⟨S', p, trivial, h⟩
theorem LeftA.next {q : Option Addr → Prop} {d : Nat} {S S1 : Nat → Prop} {w w1 w2 : World} {st2 : St} (hk : Kept S w w1) (hs : ∀ k, S1 k → S k ∨ w.heap.size ≤ k) (h : LeftA q d S1 w1 st2 w2) : LeftA q d S w st2 w2 := by
  obtain ⟨S', p, hq, h1, h2, h3⟩ := h
  refine ⟨S', p, hq, h1, hk.trans' h2 (fun x hx => hs x hx), fun k hk2 => ?_⟩
  have := hk.size
  rcases h3 k hk2 with h4 | h4
  · exact hs k h4
  · exact .inr (by omega)
theorem LeftA.refl {q : Option Addr → Prop} {d : Nat} {S : Nat → Prop} {w : World} {p : Option Addr} {st : St} (hq : q p) (h : At w d S p st) : LeftA q d S w st w := ⟨S, p, hq, h, Kept.refl _ _, fun _ h => .inl h⟩
/-- behind stores into the fields -/
theorem LeftA.of {q : Option Addr → Prop} {d : Nat} {S : Nat → Prop} {w w' : World} {p : Option Addr} {st : St} (hq : q p) (h : At w' d S p st) (hk : Kept (Only d) w w') : LeftA q d S w st w' := ⟨S, p, hq, h, hk.mono (fun k e => by cases e; exact h.self), fun _ h => .inl h⟩
/-- memory for l anew, and its length -/
theorem At.laid {w w1 w2 w' : World} {d : Nat} {S : Nat → Prop} {p : Option Addr} {st : St} (h : At w d S p st) (hk : Kept None w w1) {b c : Nat} {a : Option Addr} {l : List Nat} (ho : OwnB 5 w1 b a c l) (hb : w.heap.size ≤ b)
    (h2 : w2 = (w1.setCell ⟨d, 1, none⟩ (.pointer (some ⟨w1.heap.size, 0, none⟩))).setCell ⟨d, 2, none⟩ (.int .i64 l.length)) (hf : w' = w2.alloc (.cells #[.slice a l.length c] 30)) :
    LeftA Some d S w (st.with_ l st.safe) w' := by
  have hd := lt_of_heap h.heap
  have hs1 := hk.size
  have ha1 := h.same hk
  have kk : Kept (Only d) w1 w2 := by rw [h2]; exact ((Kept.refl _ _).setAt (.inl (show Only d d from rfl)) _ _).setAt (.inl (show Only d d from rfl)) _ _
  have hs2 : w2.heap.size = w1.heap.size := by rw [h2]; simp
  have ka : Kept None w2 w' := by rw [hf]; exact (Kept.refl _ _).alloc _
  have hs3 : w'.heap.size = w2.heap.size + 1 := by rw [hf]; simp
  -- where there are no bytes the block may be named anew
  obtain ⟨b3, o3, m1, m2, m3⟩ : ∃ b3, OwnB 5 w1 b3 a c l ∧ (a ≠ none → b3 < w1.heap.size) ∧ w.heap.size ≤ b3 ∧ b3 ≠ w1.heap.size := by
    by_cases hn : a = none
    · subst hn
      exact ⟨w1.heap.size + 1, ho.move _, fun h => absurd rfl h, by omega, by omega⟩
    · have := ho.lt hn
      exact ⟨b, ho, fun _ => this, hb, by omega⟩
  have o4 : OwnB 5 w' b3 a c l := (o3.kept kk (fun _ e => by cases e; omega)).kept ka (fun _ h => h)
  refine ⟨fun k => S k ∨ (w.heap.size ≤ k ∧ k < w'.heap.size), some ⟨w1.heap.size, 0, none⟩, by simp [Some], ⟨?_, .inr ⟨w1.heap.size, b3, a, c, rfl, ?_, o4, .inr ⟨by omega, by omega⟩, by omega, fun hn => .inr ⟨m2, by have := m1 hn; omega⟩, by omega, m3⟩, .inl h.self, fun k hS => ?_⟩, ((Kept.ofNone hk).trans (kk.mono (fun k e => by cases e; exact h.self))).trans (Kept.ofNone ka), fun k hS => hS.imp (fun h => h) (fun h => h.1)⟩
  · exact ka.heap (by rw [h2]; exact heap_set (heap_set ha1.heap 1 _) 2 _) (fun h => h)
  · rw [hf, ← hs2]; exact heap_alloc_new w2 _
  · rcases hS with hS | hS
    · have := h.hi k hS; omega
    · exact hS.2
/-- the shared variable has m more, and the length is that -/
theorem At.more {w w1 w' : World} {d s b : Nat} {S : Nat → Prop} {st : St} {a : Option Addr} {c : Nat} (h : At w d S (some ⟨s, 0, none⟩) st) (hh : w.heap[s]? = some (.cells #[.slice a st.file.length c] 30 (0, 0))) (hS : S s) (hsd : s ≠ d) (hSb : a ≠ none → S b) (hbd : b ≠ d) (hbs : b ≠ s)
    {b' c' : Nat} {a' : Option Addr} {m : List Nat} (h2 : OwnB 5 w1 b' a' c' (st.file ++ m)) (h3 : Kept (Of a b) w w1) (h4 : (b' = b ∧ (a' = none ∨ a ≠ none)) ∨ w.heap.size ≤ b')
    (hf : w'.heap = ((w1.setCell ⟨s, 0, none⟩ (.slice a' (st.file ++ m).length c')).setCell ⟨d, 2, none⟩ (.int .i64 (st.file ++ m).length)).heap) (ho : w'.os = w1.os) (ht : w'.tape = w1.tape) (hu : w'.output = w1.output) :
    LeftA Some d S w (st.with_ (st.file ++ m) st.safe) w' := by
  have ld := lt_of_heap h.heap
  have ls := lt_of_heap hh
  have nd : ¬ Of a b d := fun e => hbd e.2.symm
  have ns : ¬ Of a b s := fun e => hbs e.2.symm
  have hd1 := h3.heap h.heap nd
  have hs1 := h3.heap hh ns
  have k1 : Kept S w w1 := h3.mono (fun x hx => by rw [hx.2]; exact hSb hx.1)
  have k4 : Kept (fun k => k = s ∨ k = d) w1 ((w1.setCell ⟨s, 0, none⟩ (.slice a' (st.file ++ m).length c')).setCell ⟨d, 2, none⟩ (.int .i64 (st.file ++ m).length)) := ((Kept.refl _ _).setAt (.inl (.inl rfl)) _ _).setAt (.inl (.inr rfl)) _ _
  have kf1 : Kept (fun k => k = s ∨ k = d) w1 w' := k4.heap_end hf ho ht hu
  have kf : Kept S w w' := k1.trans (kf1.mono (fun k e => by rcases e with rfl | rfl; exact hS; exact h.self))
  have hsz : w'.heap.size = w1.heap.size := by rw [hf]; simp
  have hsz1 := k1.size
  obtain ⟨b3, o3, s3, m1, m2⟩ : ∃ b3, OwnB 5 w1 b3 a' c' (st.file ++ m) ∧ (a' ≠ none → S b3 ∨ (w.heap.size ≤ b3 ∧ b3 < w'.heap.size)) ∧ b3 ≠ d ∧ b3 ≠ s := by
    by_cases ha : a' = none
    · subst ha
      exact ⟨b, h2.move _, fun h => absurd rfl h, hbd, hbs⟩
    · have hlt := h2.lt ha
      rcases h4 with ⟨rfl, h4⟩ | h4
      · exact ⟨b', h2, fun _ => .inl (hSb (h4.resolve_left ha)), hbd, hbs⟩
      · exact ⟨b', h2, fun _ => .inr ⟨h4, by omega⟩, by omega, by omega⟩
  have o4 : OwnB 5 w' b3 a' c' (st.file ++ m) := o3.kept kf1 (fun _ e => e.elim m2 m1)
  refine ⟨fun k => S k ∨ (w.heap.size ≤ k ∧ k < w'.heap.size), some ⟨s, 0, none⟩, by simp [Some], ⟨?_, .inr ⟨s, b3, a', c', rfl, ?_, o4, .inl hS, hsd, s3, m1, m2⟩, .inl h.self, fun k hS => ?_⟩, kf, fun k hS => hS.imp (fun h => h) (fun h => h.1)⟩
  · rw [hf]; exact heap_set (heap_set_other hd1 (a := ⟨s, 0, none⟩) hsd _) 2 _
  · rw [hf]; exact heap_set_other (heap_set hs1 0 _) (a := ⟨d, 2, none⟩) (fun e => hsd e.symm) _
  · rcases hS with hS | hS
    · have := h.hi k hS; omega
    · exact hS.2
end Go.Proofs.Ytaogpchjkbcjoaa.Dk
