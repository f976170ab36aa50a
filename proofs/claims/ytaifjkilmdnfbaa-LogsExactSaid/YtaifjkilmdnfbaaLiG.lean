import Derived.Test.YtaifjkilmdnfbaaMergeLgM
import Derived.Test.YtaifjkilmdnfbaaBehG
import Derived.WideShapes
/- Lists of values of k cells each in memory: read, appended to, made anew. For any program, no program's function. -/
namespace Go.Proofs.Ytaifjkilmdnfbaa.Li
open Go Go.RowKit Mem Bh

/-- a kind of rows: each is so many cells -/
class Row (α : Type) where
  k : Nat
  cells : α → List Value
  pos : 0 < k
  len : ∀ x, (cells x).length = k
  one : ∀ x, ∀ u ∈ cells x, u.oneCell' = true
variable {α : Type} [Row α]
def flat (L : List α) : List Value := L.flatMap Row.cells
theorem flat_nil : flat ([] : List α) = [] := rfl
theorem flat_append (L M : List α) : flat (L ++ M) = flat L ++ flat M := by unfold flat; rw [List.flatMap_append]
theorem flat_length (L : List α) : (flat L).length = L.length * Row.k α := by
  induction L with
  | nil => simp [flat]
  | cons p r ih =>
    show (Row.cells p ++ flat r).length = _
    rw [List.length_append, ih, List.length_cons, Row.len, Nat.succ_mul]
    omega
theorem flat_at (L : List α) : ∀ i j (hi : i < L.length), j < Row.k α → (flat L)[i * Row.k α + j]? = (Row.cells L[i])[j]? := by
  induction L with
  | nil => intro i j hi; simp at hi
  | cons p r ih =>
    intro i j hi hj
    show (Row.cells p ++ flat r)[i * Row.k α + j]? = _
    have hl := Row.len p
    cases i with
    | zero => rw [Nat.zero_mul, Nat.zero_add, List.getElem?_append_left (by omega)]; rfl
    | succ i =>
      rw [List.getElem?_append_right (by rw [Nat.succ_mul]; omega), hl, show (i + 1) * Row.k α + j - Row.k α = i * Row.k α + j by rw [Nat.succ_mul]; omega, ih i j (by simpa using hi) hj]
      rfl
theorem flat_one {L : List α} : ∀ u ∈ flat L, u.oneCell' = true := by
  intro u hu
  obtain ⟨p, _, h⟩ := List.mem_flatMap.1 hu
  exact Row.one p u h
/-- the cells of a row at an address -/
def At (w : World) (b o : Nat) (x : α) : Prop := ∀ j u, (Row.cells x)[j]? = some u → w.cell? ⟨b, o + j, none⟩ = some u
structure ListAt (w : World) (a : Option Addr) (cap : Nat) (L : List α) : Prop where
  len : L.length ≤ cap
  max : cap ≤ 9223372036854775807
  nil : a = none → cap = 0
  at_ : 0 < L.length → ∃ b off, a = some ⟨b, off, none⟩ ∧ ∀ i (hi : i < L.length), At w b (off + i * Row.k α) L[i]
theorem At.below {w w' : World} {x : α} {b o : Nat} (h : At w b o x) (hk : Below w.heap.size w w') : At w' b o x := fun j u hu =>
  (World.cell?_of_block (w := w) (hk.block b (World.block_lt_of_cell? w _ (h j u hu)))).trans (h j u hu)
theorem ListAt.below {w w' : World} {a : Option Addr} {cap : Nat} {L : List α} (h : ListAt w a cap L) (hk : Below w.heap.size w w') : ListAt w' a cap L := by
  refine ⟨h.len, h.max, h.nil, fun h0 => ?_⟩
  obtain ⟨b, off, ha, hc⟩ := h.at_ h0
  exact ⟨b, off, ha, fun i hi => (hc i hi).below hk⟩
theorem ListAt.alloc {w : World} {a : Option Addr} {cap : Nat} {L : List α} (h : ListAt w a cap L) (o : Obj) : ListAt (w.alloc o) a cap L := h.below (below_alloc _ _)
theorem ListAt.drewN {w : World} {a : Option Addr} {cap : Nat} {L : List α} (h : ListAt w a cap L) (n : Nat) : ListAt (w.drewN n) a cap L := h.below ((Beh.start w).drewN n)
theorem ListAt.empty (w : World) : ListAt w none 0 ([] : List α) := ⟨Nat.le_refl _, by omega, fun _ => rfl, fun h => by simp at h⟩
theorem ListAt.bare {w : World} {cap : Nat} {L : List α} (h : ListAt w none cap L) : L = [] ∧ cap = 0 := by
  have := h.nil rfl
  have := h.len
  exact ⟨List.eq_nil_of_length_eq_zero (by omega), by omega⟩
theorem ListAt.src {w : World} {a : Option Addr} {cap : Nat} {L : List α} (h : ListAt w a cap L) : SrcC (Row.k α) w a cap L.length (flat L) := by
  have hp := Row.pos (α := α)
  refine ⟨flat_length L, fun ha => ⟨by have := h.nil ha; have := h.len; omega, h.nil ha⟩, fun ad ha j u hu => ?_⟩
  obtain ⟨hj, _⟩ := List.getElem?_eq_some_iff.1 hu
  rw [flat_length] at hj
  have hne : 0 < L.length := by
    rcases Nat.eq_zero_or_pos L.length with h0 | h0
    · rw [h0, Nat.zero_mul] at hj; omega
    · exact h0
  obtain ⟨b, off, ha2, hc⟩ := h.at_ hne
  rw [ha] at ha2
  injection ha2 with ha2
  subst ha2
  have hd : j = j / Row.k α * Row.k α + j % Row.k α := by rw [Nat.mul_comm]; exact (Nat.div_add_mod _ _).symm
  have hi : j / Row.k α < L.length := (Nat.div_lt_iff_lt_mul hp).2 hj
  have hm : j % Row.k α < Row.k α := Nat.mod_lt _ hp
  rw [Go.WideShapes.add_plain]
  have hcc := hc (j / Row.k α) hi (j % Row.k α) u (by rw [← flat_at L _ _ hi hm, ← hd]; exact hu)
  rw [hd, ← Nat.add_assoc]
  exact hcc
theorem ListAt.take {w : World} {a : Option Addr} {cap : Nat} {L : List α} (h : ListAt w a cap L) {n : Nat} (hn : n ≤ L.length) : ListAt w a cap (L.take n) := by
  refine ⟨by rw [List.length_take]; have := h.len; omega, h.max, h.nil, fun h0 => ?_⟩
  rw [List.length_take] at h0
  obtain ⟨b, off, ha, hc⟩ := h.at_ (by omega)
  refine ⟨b, off, ha, fun i hi => ?_⟩
  rw [List.length_take] at hi
  have := hc i (by omega)
  rw [List.getElem_take]
  exact this
theorem ListAt.drop {w : World} {ad : Addr} {cap : Nat} {L : List α} (h : ListAt w (some ad) cap L) {n : Nat} (hn : n ≤ L.length) : ListAt w (some (ad.add (n * Row.k α))) (cap - n) (L.drop n) := by
  refine ⟨by rw [List.length_drop]; have := h.len; omega, by have := h.max; omega, fun e => (by cases e), fun h0 => ?_⟩
  rw [List.length_drop] at h0
  obtain ⟨b, off, ha, hc⟩ := h.at_ (by omega)
  injection ha with ha
  subst ha
  refine ⟨b, off + n * Row.k α, by rw [Go.WideShapes.add_plain], fun i hi => ?_⟩
  rw [List.length_drop] at hi
  have := hc (n + i) (by omega)
  rw [List.getElem_drop, show off + n * Row.k α + i * Row.k α = off + (n + i) * Row.k α by rw [Nat.add_mul]; omega]
  exact this
/-- rows that a call has made itself -/
@[reducible] def OwnL (e : TypeId) (w : World) (b : Nat) (a : Option Addr) (cap : Nat) (L : List α) : Prop := OwnC e (Row.k α) w b a cap L.length (flat L)
theorem OwnL.list {e : TypeId} {w : World} {b : Nat} {a : Option Addr} {cap : Nat} {L : List α} (h : OwnL e w b a cap L) : ListAt w a cap L := by
  have hl := flat_length L
  refine ⟨?_, ?_, fun ha => ?_, fun h0 => ?_⟩
  · rcases h.2 with ⟨_, h1, h2⟩ | ⟨_, h1, _⟩ <;> omega
  · rcases h.2 with ⟨_, h1, h2⟩ | ⟨_, _, h1, _⟩
    · omega
    · unfold maxLen at h1; omega
  · rcases h.2 with ⟨_, h1, h2⟩ | ⟨h1, _⟩
    · exact h1
    · rw [h1] at ha; cases ha
  · have hpos : 0 < (flat L).length := by rw [hl]; exact Nat.mul_pos h0 Row.pos
    have hf := (h.cell (j := 0) hpos).1
    refine ⟨b, 0, hf, fun i hi j u hu => ?_⟩
    have hj : j < Row.k α := by have := (List.getElem?_eq_some_iff.1 hu).1; rwa [Row.len] at this
    have hlt : i * Row.k α + j < (flat L).length := by
      rw [hl]
      have : (i + 1) * Row.k α ≤ L.length * Row.k α := Nat.mul_le_mul_right _ hi
      rw [Nat.succ_mul] at this
      omega
    have hc := (h.cell hlt).2.1
    have he := flat_at L i j hi hj
    rw [hu, List.getElem?_eq_getElem hlt] at he
    injection he with he
    rw [Nat.zero_add, hc, he]
/-- rows in a block that was laid whole -/
theorem lit_list {w : World} {b : Nat} {L : List α} {cs : Array Value} {t : TypeId} {fr : Nat × Nat} (h : w.heap[b]? = some (.cells cs t fr)) (hc : cs = (flat L).toArray) (hm : L.length ≤ 9223372036854775807) : ListAt w (some ⟨b, 0, none⟩) L.length L := by
  subst hc
  refine ⟨Nat.le_refl _, hm, fun h => (by cases h), fun _ => ⟨b, 0, rfl, fun i hi j u hu => ?_⟩⟩
  have hj : j < Row.k α := by have := (List.getElem?_eq_some_iff.1 hu).1; rwa [Row.len] at this
  have he := flat_at L i j hi hj
  rw [hu] at he
  show w.cell? ⟨b, 0 + i * Row.k α + j, none⟩ = some u
  rw [Nat.zero_add]
  simp [World.cell?, h, he]
/-- rows that a call has made: they are its own, and what there was is as it was -/
structure Made (e : TypeId) (w w' : World) (b : Nat) (a : Option Addr) (cap : Nat) (L : List α) : Prop where
  own : OwnL e w' b a cap L
  new : w.heap.size ≤ b
  beh : Beh w w'
theorem Made.list {e : TypeId} {w w' : World} {b : Nat} {a : Option Addr} {cap : Nat} {L : List α} (h : Made e w w' b a cap L) : ListAt w' a cap L := OwnL.list h.own
theorem Made.from {e : TypeId} {w0 w w' : World} {b : Nat} {a : Option Addr} {cap : Nat} {L : List α} (h : Beh w0 w) (m : Made e w w' b a cap L) : Made e w0 w' b a cap L := ⟨m.own, Nat.le_trans h.size m.new, h.trans m.beh⟩
theorem Made.nil (e : TypeId) (w : World) : Made e w w w.heap.size none 0 ([] : List α) := ⟨OwnC.nil _ _ _ _, Nat.le_refl _, Beh.start _⟩
theorem Made.nil' {e : TypeId} {w w' : World} (h : Beh w w') : Made e w w' w.heap.size none 0 ([] : List α) := ⟨OwnC.nil _ _ _ _, Nat.le_refl _, h⟩
theorem OwnL.kept {e : TypeId} {w w' : World} {b : Nat} {a : Option Addr} {cap : Nat} {L : List α} (h : OwnL e w b a cap L) (hb : Beh w w') : OwnL e w' b a cap L :=
  OwnC.kept h (Kept.of_below hb) (fun _ h => h)
theorem Made.on {e : TypeId} {w0 w w' : World} {b : Nat} {a : Option Addr} {cap : Nat} {L : List α} (m : Made e w0 w b a cap L) (hb : Beh w w') : Made e w0 w' b a cap L := ⟨OwnL.kept m.own hb, m.new, m.beh.on hb⟩
/-- more rows appended to one's own -/
theorem Made.more {e : TypeId} {w0 w w' : World} {b b' : Nat} {a a' : Option Addr} {cap cap' : Nat} {L M : List α} (m : Made e w0 w b a cap L) (h2 : OwnC e (Row.k α) w' b' a' cap' (L.length + M.length) (flat L ++ flat M)) (h3 : Kept (Of a b) w w') (h4 : (b' = b ∧ (a' = none ∨ a ≠ none)) ∨ w.heap.size ≤ b') : Made e w0 w' b' a' cap' (L ++ M) := by
  refine ⟨?_, ?_, (m.beh.below.trans (h3.below m.beh.size ?_) : Below _ _ _)⟩
  · show OwnC _ (Row.k α) w' b' a' cap' (L ++ M).length (flat (L ++ M))
    rw [List.length_append, flat_append]; exact h2
  · have := m.new
    have := m.beh.size
    rcases h4 with ⟨h4, _⟩ | h4 <;> omega
  · exact fun k hk => by have := hk.2; have := m.new; omega
theorem own_beh {w w' : World} {S : Nat → Prop} (h : Kept S w w') (hs : ∀ k, S k → w.heap.size ≤ k) : Beh w w' := h.below (Nat.le_refl _) hs
theorem own_beh2 {w w1 w' : World} {S : Nat → Prop} (h0 : Kept Mem.None w w1) (h : Kept S w1 w') (hs : ∀ k, S k → w.heap.size ≤ k) : Beh w w' :=
  (h0.below (Nat.le_refl _) (fun _ h => h.elim)).trans (h.below h0.size hs)
theorem heap_setc {w : World} {b i : Nat} {cur : Array Value} {t : TypeId} {v : Value} (h : w.heap[b]? = some (.cells cur t (0, 0))) :
    (w.setCell ⟨b, i, none⟩ v).heap[b]? = some (.cells (cur.setIfInBounds i v) t (0, 0)) := by
  simp [World.setCell, Array.getElem?_modify, h]
end Go.Proofs.Ytaifjkilmdnfbaa.Li
