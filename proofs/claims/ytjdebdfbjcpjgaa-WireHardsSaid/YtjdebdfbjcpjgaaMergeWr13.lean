import Derived.Test.YtjdebdfbjcpjgaaMergeWr1
import Derived.Test.YtjdebdfbjcpjgaaMergeWr9
import Derived.WideShapes
import Derived.Test.YtjdebdfbjcpjgaaMergeWr3
import Derived.Test.YtjdebdfbjcpjgaaKeepB
import Derived.Test.YtjdebdfbjcpjgaaMergeWr11
import Derived.Test.YtjdebdfbjcpjgaaMergeWr10
import Derived.Deep.RegionLaw
section
/- Lists of values of k cells each in memory: read, appended to, made anew. For any program, no program's function. -/
namespace Go.Proofs.Ytjdebdfbjcpjgaa.Li
open Go Go.RowKit Mem Bh

/-- a kind of rows: each is so many cells -/
class Row (α : Type) where
  k : Nat
  cells : α → List Value
  pos : 0 < k
  len : ∀ x, (cells x).length = k
  one : ∀ x, ∀ u ∈ cells x, u.oneCell' = true
variable {α : Type} [Row α]
def flat (L : List α) : List Value := L.flatMap Row.cells
theorem flat_nil : flat ([] : List α) = [] := rfl
theorem flat_append (L M : List α) : flat (L ++ M) = flat L ++ flat M := by unfold flat; rw [List.flatMap_append]
theorem flat_length (L : List α) : (flat L).length = L.length * Row.k α := by
  induction L with
  | nil => simp [flat]
  | cons p r ih =>
    show (Row.cells p ++ flat r).length = _
    rw [List.length_append, ih, List.length_cons, Row.len, Nat.succ_mul]
    omega
theorem flat_at (L : List α) : ∀ i j (hi : i < L.length), j < Row.k α → (flat L)[i * Row.k α + j]? = (Row.cells L[i])[j]? := by
  induction L with
  | nil => intro i j hi; simp at hi
  | cons p r ih =>
    intro i j hi hj
    show (Row.cells p ++ flat r)[i * Row.k α + j]? = _
    have hl := Row.len p
    cases i with
    | zero => rw [Nat.zero_mul, Nat.zero_add, List.getElem?_append_left (by omega)]; rfl
    | succ i =>
      rw [List.getElem?_append_right (by rw [Nat.succ_mul]; omega), hl, show (i + 1) * Row.k α + j - Row.k α = i * Row.k α + j by rw [Nat.succ_mul]; omega, ih i j (by simpa using hi) hj]
      rfl
theorem flat_one {L : List α} : ∀ u ∈ flat L, u.oneCell' = true := by
  intro u hu
  obtain ⟨p, _, h⟩ := List.mem_flatMap.1 hu
  exact Row.one p u h
/-- the cells of a row at an address -/
def At (w : World) (b o : Nat) (x : α) : Prop := ∀ j u, (Row.cells x)[j]? = some u → w.cell? ⟨b, o + j, none⟩ = some u
structure ListAt (w : World) (a : Option Addr) (cap : Nat) (L : List α) : Prop where
  len : L.length ≤ cap
  max : cap ≤ 9223372036854775807
  nil : a = none → cap = 0
  at_ : 0 < L.length → ∃ b off, a = some ⟨b, off, none⟩ ∧ ∀ i (hi : i < L.length), At w b (off + i * Row.k α) L[i]
theorem At.below {w w' : World} {x : α} {b o : Nat} (h : At w b o x) (hk : Below w.heap.size w w') : At w' b o x := fun j u hu =>
  (World.cell?_of_block (w := w) (hk.block b (World.block_lt_of_cell? w _ (h j u hu)))).trans (h j u hu)
theorem ListAt.below {w w' : World} {a : Option Addr} {cap : Nat} {L : List α} (h : ListAt w a cap L) (hk : Below w.heap.size w w') : ListAt w' a cap L := by
  refine ⟨h.len, h.max, h.nil, fun h0 => ?_⟩
  obtain ⟨b, off, ha, hc⟩ := h.at_ h0
  exact ⟨b, off, ha, fun i hi => (hc i hi).below hk⟩
theorem ListAt.alloc {w : World} {a : Option Addr} {cap : Nat} {L : List α} (h : ListAt w a cap L) (o : Obj) : ListAt (w.alloc o) a cap L := h.below (below_alloc _ _)
theorem ListAt.drewN {w : World} {a : Option Addr} {cap : Nat} {L : List α} (h : ListAt w a cap L) (n : Nat) : ListAt (w.drewN n) a cap L := h.below ((Beh.start w).drewN n)
theorem ListAt.empty (w : World) : ListAt w none 0 ([] : List α) := ⟨Nat.le_refl _, by omega, fun _ => rfl, fun h => by simp at h⟩
theorem ListAt.bare {w : World} {cap : Nat} {L : List α} (h : ListAt w none cap L) : L = [] ∧ cap = 0 := by
  have := h.nil rfl
  have := h.len
  exact ⟨List.eq_nil_of_length_eq_zero (by omega), by omega⟩
theorem ListAt.src {w : World} {a : Option Addr} {cap : Nat} {L : List α} (h : ListAt w a cap L) : SrcC (Row.k α) w a cap L.length (flat L) := by
  have hp := Row.pos (α := α)
  refine ⟨flat_length L, fun ha => ⟨by have := h.nil ha; have := h.len; omega, h.nil ha⟩, fun ad ha j u hu => ?_⟩
  obtain ⟨hj, _⟩ := List.getElem?_eq_some_iff.1 hu
  rw [flat_length] at hj
  have hne : 0 < L.length := by
    rcases Nat.eq_zero_or_pos L.length with h0 | h0
    · rw [h0, Nat.zero_mul] at hj; omega
    · exact h0
  obtain ⟨b, off, ha2, hc⟩ := h.at_ hne
  rw [ha] at ha2
  injection ha2 with ha2
  subst ha2
  have hd : j = j / Row.k α * Row.k α + j % Row.k α := by rw [Nat.mul_comm]; exact (Nat.div_add_mod _ _).symm
  have hi : j / Row.k α < L.length := (Nat.div_lt_iff_lt_mul hp).2 hj
  have hm : j % Row.k α < Row.k α := Nat.mod_lt _ hp
  rw [Go.WideShapes.add_plain]
  have hcc := hc (j / Row.k α) hi (j % Row.k α) u (by rw [← flat_at L _ _ hi hm, ← hd]; exact hu)
  rw [hd, ← Nat.add_assoc]
  exact hcc
theorem ListAt.take {w : World} {a : Option Addr} {cap : Nat} {L : List α} (h : ListAt w a cap L) {n : Nat} (hn : n ≤ L.length) : ListAt w a cap (L.take n) := by
  refine ⟨by rw [List.length_take]; have := h.len; omega, h.max, h.nil, fun h0 => ?_⟩
  rw [List.length_take] at h0
  obtain ⟨b, off, ha, hc⟩ := h.at_ (by omega)
  refine ⟨b, off, ha, fun i hi => ?_⟩
  rw [List.length_take] at hi
  have := hc i (by omega)
  rw [List.getElem_take]
  exact this
theorem ListAt.drop {w : World} {ad : Addr} {cap : Nat} {L : List α} (h : ListAt w (some ad) cap L) {n : Nat} (hn : n ≤ L.length) : ListAt w (some (ad.add (n * Row.k α))) (cap - n) (L.drop n) := by
  refine ⟨by rw [List.length_drop]; have := h.len; omega, by have := h.max; omega, fun e => (by cases e), fun h0 => ?_⟩
  rw [List.length_drop] at h0
  obtain ⟨b, off, ha, hc⟩ := h.at_ (by omega)
  injection ha with ha
  subst ha
  refine ⟨b, off + n * Row.k α, by rw [Go.WideShapes.add_plain], fun i hi => ?_⟩
  rw [List.length_drop] at hi
  have := hc (n + i) (by omega)
  rw [List.getElem_drop, show off + n * Row.k α + i * Row.k α = off + (n + i) * Row.k α by rw [Nat.add_mul]; omega]
  exact this
/-- rows that a call has made itself -/
@[reducible] def OwnL (e : TypeId) (w : World) (b : Nat) (a : Option Addr) (cap : Nat) (L : List α) : Prop := OwnC e (Row.k α) w b a cap L.length (flat L)
theorem OwnL.list {e : TypeId} {w : World} {b : Nat} {a : Option Addr} {cap : Nat} {L : List α} (h : OwnL e w b a cap L) : ListAt w a cap L := by
  have hl := flat_length L
  refine ⟨?_, ?_, fun ha => ?_, fun h0 => ?_⟩
  · rcases h.2 with ⟨_, h1, h2⟩ | ⟨_, h1, _⟩ <;> omega
  · rcases h.2 with ⟨_, h1, h2⟩ | ⟨_, _, h1, _⟩
    · omega
    · unfold maxLen at h1; omega
  · rcases h.2 with ⟨_, h1, h2⟩ | ⟨h1, _⟩
    · exact h1
    · rw [h1] at ha; cases ha
  · have hpos : 0 < (flat L).length := by rw [hl]; exact Nat.mul_pos h0 Row.pos
    have hf := (h.cell (j := 0) hpos).1
    refine ⟨b, 0, hf, fun i hi j u hu => ?_⟩
    have hj : j < Row.k α := by have := (List.getElem?_eq_some_iff.1 hu).1; rwa [Row.len] at this
    have hlt : i * Row.k α + j < (flat L).length := by
      rw [hl]
      have : (i + 1) * Row.k α ≤ L.length * Row.k α := Nat.mul_le_mul_right _ hi
      rw [Nat.succ_mul] at this
      omega
    have hc := (h.cell hlt).2.1
    have he := flat_at L i j hi hj
    rw [hu, List.getElem?_eq_getElem hlt] at he
    injection he with he
    rw [Nat.zero_add, hc, he]
/-- rows in a block that was laid whole -/
theorem lit_list {w : World} {b : Nat} {L : List α} {cs : Array Value} {t : TypeId} {fr : Nat × Nat} (h : w.heap[b]? = some (.cells cs t fr)) (hc : cs = (flat L).toArray) (hm : L.length ≤ 9223372036854775807) : ListAt w (some ⟨b, 0, none⟩) L.length L := by
  subst hc
  refine ⟨Nat.le_refl _, hm, fun h => (by cases h), fun _ => ⟨b, 0, rfl, fun i hi j u hu => ?_⟩⟩
  have hj : j < Row.k α := by have := (List.getElem?_eq_some_iff.1 hu).1; rwa [Row.len] at this
  have he := flat_at L i j hi hj
  rw [hu] at he
  show w.cell? ⟨b, 0 + i * Row.k α + j, none⟩ = some u
  rw [Nat.zero_add]
  simp [World.cell?, h, he]
/-- rows that a call has made: they are its own, and what there was is as it was -/
structure Made (e : TypeId) (w w' : World) (b : Nat) (a : Option Addr) (cap : Nat) (L : List α) : Prop where
  own : OwnL e w' b a cap L
  new : w.heap.size ≤ b
  beh : Beh w w'
theorem Made.list {e : TypeId} {w w' : World} {b : Nat} {a : Option Addr} {cap : Nat} {L : List α} (h : Made e w w' b a cap L) : ListAt w' a cap L := OwnL.list h.own
theorem Made.from {e : TypeId} {w0 w w' : World} {b : Nat} {a : Option Addr} {cap : Nat} {L : List α} (h : Beh w0 w) (m : Made e w w' b a cap L) : Made e w0 w' b a cap L := ⟨m.own, Nat.le_trans h.size m.new, h.trans m.beh⟩
theorem Made.nil (e : TypeId) (w : World) : Made e w w w.heap.size none 0 ([] : List α) := ⟨OwnC.nil _ _ _ _, Nat.le_refl _, Beh.start _⟩
theorem Made.nil' {e : TypeId} {w w' : World} (h : Beh w w') : Made e w w' w.heap.size none 0 ([] : List α) := ⟨OwnC.nil _ _ _ _, Nat.le_refl _, h⟩
theorem OwnL.kept {e : TypeId} {w w' : World} {b : Nat} {a : Option Addr} {cap : Nat} {L : List α} (h : OwnL e w b a cap L) (hb : Beh w w') : OwnL e w' b a cap L :=
  OwnC.kept h (Kept.of_below hb) (fun _ h => h)
theorem Made.on {e : TypeId} {w0 w w' : World} {b : Nat} {a : Option Addr} {cap : Nat} {L : List α} (m : Made e w0 w b a cap L) (hb : Beh w w') : Made e w0 w' b a cap L := ⟨OwnL.kept m.own hb, m.new, m.beh.on hb⟩
/-- more rows appended to one's own -/
theorem Made.more {e : TypeId} {w0 w w' : World} {b b' : Nat} {a a' : Option Addr} {cap cap' : Nat} {L M : List α} (m : Made e w0 w b a cap L) (h2 : OwnC e (Row.k α) w' b' a' cap' (L.length + M.length) (flat L ++ flat M)) (h3 : Kept (Of a b) w w') (h4 : (b' = b ∧ (a' = none ∨ a ≠ none)) ∨ w.heap.size ≤ b') : Made e w0 w' b' a' cap' (L ++ M) := by
  refine ⟨?_, ?_, (m.beh.below.trans (h3.below m.beh.size ?_) : Below _ _ _)⟩
  · show OwnC _ (Row.k α) w' b' a' cap' (L ++ M).length (flat (L ++ M))
    rw [List.length_append, flat_append]; exact h2
  · have := m.new
    have := m.beh.size
    rcases h4 with ⟨h4, _⟩ | h4 <;> omega
  · exact fun k hk => by have := hk.2; have := m.new; omega
theorem own_beh {w w' : World} {S : Nat → Prop} (h : Kept S w w') (hs : ∀ k, S k → w.heap.size ≤ k) : Beh w w' := h.below (Nat.le_refl _) hs
theorem own_beh2 {w w1 w' : World} {S : Nat → Prop} (h0 : Kept Mem.None w w1) (h : Kept S w1 w') (hs : ∀ k, S k → w.heap.size ≤ k) : Beh w w' :=
  (h0.below (Nat.le_refl _) (fun _ h => h.elim)).trans (h.below h0.size hs)
theorem heap_setc {w : World} {b i : Nat} {cur : Array Value} {t : TypeId} {v : Value} (h : w.heap[b]? = some (.cells cur t (0, 0))) :
    (w.setCell ⟨b, i, none⟩ v).heap[b]? = some (.cells (cur.setIfInBounds i v) t (0, 0)) := by
  simp [World.setCell, Array.getElem?_modify, h]
end Go.Proofs.Ytjdebdfbjcpjgaa.Li
end
section
/- Cut out of LogAt: all but what names api.Hard. Entries and logs in memory. No program's function. -/
namespace Go.Proofs.Ytjdebdfbjcpjgaa.Lg
open Go Go.RowKit Vl Kv Ss Cn Mem Li
@[reducible] def E.agg (x : E) : Value := .agg #[.int .i64 x.term, .int .i64 x.kind, .int .i64 x.call.client, .int .i64 x.call.seq, .int .i64 x.call.cmd.kind, .string x.call.cmd.key, .int .i64 x.call.cmd.old.kind, .float .f64 x.call.cmd.old.num, .string x.call.cmd.old.text, .int .i64 x.call.cmd.val.kind, .float .f64 x.call.cmd.val.num, .string x.call.cmd.val.text, .int .i64 x.conf.f, .int .i64 x.conf.w, .int .i64 x.conf.l, .int .i64 x.conf.x]
def E.cells (x : E) : List Value := [.int .i64 x.term, .int .i64 x.kind, .int .i64 x.call.client, .int .i64 x.call.seq, .int .i64 x.call.cmd.kind, .string x.call.cmd.key, .int .i64 x.call.cmd.old.kind, .float .f64 x.call.cmd.old.num, .string x.call.cmd.old.text, .int .i64 x.call.cmd.val.kind, .float .f64 x.call.cmd.val.num, .string x.call.cmd.val.text, .int .i64 x.conf.f, .int .i64 x.conf.w, .int .i64 x.conf.l, .int .i64 x.conf.x]
def E.obj (x : E) : Obj := .cells #[.int .i64 x.term, .int .i64 x.kind, .int .i64 x.call.client, .int .i64 x.call.seq, .int .i64 x.call.cmd.kind, .string x.call.cmd.key, .int .i64 x.call.cmd.old.kind, .float .f64 x.call.cmd.old.num, .string x.call.cmd.old.text, .int .i64 x.call.cmd.val.kind, .float .f64 x.call.cmd.val.num, .string x.call.cmd.val.text, .int .i64 x.conf.f, .int .i64 x.conf.w, .int .i64 x.conf.l, .int .i64 x.conf.x] 32
def C.obj (c : C) : Obj := .cells #[.int .i64 c.f, .int .i64 c.w, .int .i64 c.l, .int .i64 c.x] 30
instance : Row E where
  k := 16
  cells := E.cells
  pos := by decide
  len := fun _ => rfl
  one := fun x u hu => by
    simp only [E.cells, List.mem_cons, List.not_mem_nil, or_false] at hu
    rcases hu with rfl | rfl | rfl | rfl | rfl | rfl | rfl | rfl | rfl | rfl | rfl | rfl | rfl | rfl | rfl | rfl <;> rfl
/-- where a log's parts lie -/
structure Hp where
  sb : Nat
  sa : Option Addr
  sc : Nat
  lb : Nat
  la : Option Addr
  lc : Nat
@[reducible] def H.val (h : H) (p : Hp) : Value := .agg #[.int .i64 h.term, .int .i64 h.vote, .int .i64 h.base, .int .i64 h.bterm, .int .i64 h.conf.f, .int .i64 h.conf.w, .int .i64 h.conf.l, .int .i64 h.conf.x, .slice p.sa h.snap.length p.sc, .slice p.la h.log.length p.lc]
def Hp.none : Hp := ⟨0, Option.none, 0, 0, Option.none, 0⟩
@[reducible] def EntAt (w : World) (a : Option Addr) (cap : Nat) (L : List E) : Prop := ListAt w a cap L
/-- a log that may be read -/
structure HardAt (w : World) (h : H) (p : Hp) : Prop where
  snap : Src w p.sb p.sa p.sc h.snap
  log : EntAt w p.la p.lc h.log
theorem HardAt.on {w w' : World} {h : H} {p : Hp} (x : HardAt w h p) (hb : Below w.heap.size w w') : HardAt w' h p :=
  ⟨x.snap.kept (Kept.of_below hb) (fun _ h => h), x.log.below hb⟩
theorem HardAt.none (w : World) : HardAt w H.zero Hp.none := ⟨.inl ⟨Nat.le_refl _, by decide, .inl ⟨rfl, rfl, rfl⟩⟩, ListAt.empty w⟩
theorem else_kept {b : Nat} {w w' : World} (h : Bh.Else b w w') : Kept (Mem.Only b) w w' := ⟨h.os, h.tape, h.output, Nat.le_of_eq h.size.symm, fun k _ hk => h.block k hk⟩
theorem ownB_else {e : TypeId} {w w' : World} {b g : Nat} {a : Option Addr} {cap : Nat} {l : List Nat} (h : OwnB e w b a cap l) (x : Bh.Else g w w') (hg : g < b) : OwnB e w' b a cap l :=
  h.kept (else_kept x) (fun _ hb => by have hb : b = g := hb; omega)
theorem ownL_else {e : TypeId} {w w' : World} {b g : Nat} {a : Option Addr} {cap : Nat} {L : List E} (h : OwnL e w b a cap L) (x : Bh.Else g w w') (hg : g < b) : OwnL e w' b a cap L :=
  OwnC.kept h (else_kept x) (fun _ hb => by have hb : b = g := hb; omega)
theorem else_beh {b : Nat} {w0 w w' : World} (h : Kv.Beh w0 w) (x : Bh.Else b w w') (hb : w0.heap.size ≤ b) : Kv.Beh w0 w' :=
  Below.trans h (⟨x.os, x.tape, x.output, Nat.le_of_eq x.size.symm, fun k hk => x.block k (by omega)⟩ : Below w0.heap.size w w')
/-- bytes of a call's own, behind so many blocks -/
structure OwnS (lo : Nat) (w : World) (b : Nat) (a : Option Addr) (cap : Nat) (l : List Nat) : Prop where
  own : OwnB 5 w b a cap l
  new : lo ≤ b
theorem OwnS.on {lo : Nat} {w w' : World} {b : Nat} {a : Option Addr} {cap : Nat} {l : List Nat} (h : OwnS lo w b a cap l) (hb : Below w.heap.size w w') : OwnS lo w' b a cap l := ⟨h.own.kept (Kept.of_below hb) (fun _ h => h), h.new⟩
theorem OwnS.els {lo : Nat} {w w' : World} {b g : Nat} {a : Option Addr} {cap : Nat} {l : List Nat} (h : OwnS lo w b a cap l) (x : Bh.Else g w w') (hg : g < lo) : OwnS lo w' b a cap l := ⟨ownB_else h.own x (by have := h.new; omega), h.new⟩
theorem OwnS.of {lo : Nat} {w w' : World} {e : Ending} {l : List Nat} (h : Kp.NewB l w e w') (hl : lo ≤ w.heap.size) : ∃ b a cap, e = .returned (.slice a l.length cap) ∧ OwnS lo w' b a cap l ∧ Below w.heap.size w w' := by
  obtain ⟨b, a, cap, h1, h2, h3, h4, _⟩ := h
  exact ⟨b, a, cap, h1, ⟨h2, by omega⟩, h4.below (Nat.le_refl _) (fun _ h => h.elim)⟩
/-- entries of a call's own, behind so many blocks -/
structure OwnN (lo : Nat) (w : World) (b : Nat) (a : Option Addr) (cap : Nat) (L : List E) : Prop where
  own : OwnL 32 w b a cap L
  new : lo ≤ b
theorem OwnN.on {lo : Nat} {w w' : World} {b : Nat} {a : Option Addr} {cap : Nat} {L : List E} (h : OwnN lo w b a cap L) (hb : Below w.heap.size w w') : OwnN lo w' b a cap L := ⟨OwnL.kept h.own hb, h.new⟩
theorem OwnN.els {lo : Nat} {w w' : World} {b g : Nat} {a : Option Addr} {cap : Nat} {L : List E} (h : OwnN lo w b a cap L) (x : Bh.Else g w w') (hg : g < lo) : OwnN lo w' b a cap L := ⟨ownL_else h.own x (by have := h.new; omega), h.new⟩
theorem OwnN.of {lo : Nat} {w w' : World} {b : Nat} {a : Option Addr} {cap : Nat} {L : List E} (h : Made 32 w w' b a cap L) (hl : lo ≤ w.heap.size) : OwnN lo w' b a cap L := ⟨h.own, Nat.le_trans hl h.new⟩
theorem OwnS.none {lo : Nat} {w : World} : OwnS lo w lo Option.none 0 [] := ⟨OwnB.nil _ _ _, Nat.le_refl _⟩
theorem OwnN.none {lo : Nat} {w : World} : OwnN lo w lo Option.none 0 [] := ⟨OwnC.nil _ _ _ _, Nat.le_refl _⟩
/-- a log that a call has made: its parts are its own -/
structure MadeH (w w' : World) (h : H) (p : Hp) : Prop where
  snap : OwnB 5 w' p.sb p.sa p.sc h.snap
  snew : w.heap.size ≤ p.sb
  log : OwnL 32 w' p.lb p.la p.lc h.log
  lnew : w.heap.size ≤ p.lb
  beh : Kv.Beh w w'
theorem MadeH.at_ {w w' : World} {h : H} {p : Hp} (m : MadeH w w' h p) : HardAt w' h p := ⟨m.snap.src, OwnL.list m.log⟩
theorem MadeH.on {w w1 w' : World} {h : H} {p : Hp} (m : MadeH w w1 h p) (hb : Below w1.heap.size w1 w') : MadeH w w' h p :=
  ⟨m.snap.kept (Kept.of_below hb) (fun _ h => h), m.snew, OwnL.kept m.log hb, m.lnew, m.beh.on hb⟩
theorem MadeH.from {w0 w w' : World} {h : H} {p : Hp} (hb : Kv.Beh w0 w) (m : MadeH w w' h p) : MadeH w0 w' h p :=
  ⟨m.snap, Nat.le_trans hb.size m.snew, m.log, Nat.le_trans hb.size m.lnew, hb.trans m.beh⟩
/-- the parts of a log that is zero, in a call -/
def Hp.zero (w : World) : Hp := ⟨w.heap.size, Option.none, 0, w.heap.size, Option.none, 0⟩
theorem MadeH.zero {w w' : World} (hb : Kv.Beh w w') : MadeH w w' H.zero (Hp.zero w) := ⟨OwnB.nil _ _ _, Nat.le_refl _, OwnC.nil _ _ _ _, Nat.le_refl _, hb⟩
theorem Src.empty (w : World) (b : Nat) : Src w b Option.none 0 [] := .inl ⟨Nat.le_refl _, by decide, .inl ⟨rfl, rfl, rfl⟩⟩
theorem cells10 {w : World} {b : Nat} {x0 x1 x2 x3 x4 x5 x6 x7 x8 x9 : Value} {t : TypeId} (h : w.heap[b]? = some (.cells #[x0, x1, x2, x3, x4, x5, x6, x7, x8, x9] t)) :
    w.cell? ⟨b, 0, none⟩ = some x0 ∧ w.cell? ⟨b, 1, none⟩ = some x1 ∧ w.cell? ⟨b, 2, none⟩ = some x2 ∧ w.cell? ⟨b, 3, none⟩ = some x3 ∧ w.cell? ⟨b, 4, none⟩ = some x4 ∧ w.cell? ⟨b, 5, none⟩ = some x5 ∧ w.cell? ⟨b, 6, none⟩ = some x6 ∧ w.cell? ⟨b, 7, none⟩ = some x7 ∧ w.cell? ⟨b, 8, none⟩ = some x8 ∧ w.cell? ⟨b, 9, none⟩ = some x9 := by
  refine ⟨?_, ?_, ?_, ?_, ?_, ?_, ?_, ?_, ?_, ?_⟩ <;> simp [World.cell?, h]
theorem cells16 {w : World} {b : Nat} {x0 x1 x2 x3 x4 x5 x6 x7 x8 x9 y0 y1 y2 y3 y4 y5 : Value} {t : TypeId} (h : w.heap[b]? = some (.cells #[x0, x1, x2, x3, x4, x5, x6, x7, x8, x9, y0, y1, y2, y3, y4, y5] t)) :
    w.cell? ⟨b, 0, none⟩ = some x0 ∧ w.cell? ⟨b, 1, none⟩ = some x1 ∧ w.cell? ⟨b, 2, none⟩ = some x2 ∧ w.cell? ⟨b, 3, none⟩ = some x3 ∧ w.cell? ⟨b, 4, none⟩ = some x4 ∧ w.cell? ⟨b, 5, none⟩ = some x5 ∧ w.cell? ⟨b, 6, none⟩ = some x6 ∧ w.cell? ⟨b, 7, none⟩ = some x7 ∧ w.cell? ⟨b, 8, none⟩ = some x8 ∧ w.cell? ⟨b, 9, none⟩ = some x9 ∧
    w.cell? ⟨b, 10, none⟩ = some y0 ∧ w.cell? ⟨b, 11, none⟩ = some y1 ∧ w.cell? ⟨b, 12, none⟩ = some y2 ∧ w.cell? ⟨b, 13, none⟩ = some y3 ∧ w.cell? ⟨b, 14, none⟩ = some y4 ∧ w.cell? ⟨b, 15, none⟩ = some y5 := by
  refine ⟨?_, ?_, ?_, ?_, ?_, ?_, ?_, ?_, ?_, ?_, ?_, ?_, ?_, ?_, ?_, ?_⟩ <;> simp [World.cell?, h]
theorem frozen_e {w : World} {b : Nat} {x : E} (h : w.heap[b]? = some x.obj) : ∀ j, w.frozen? ⟨b, j, none⟩ = false := fun j => frozen_of h j
/-- the cells of an entry of a list -/
structure E.Cells (w : World) (b o : Nat) (x : E) : Prop where
  c0 : w.cell? ⟨b, o, none⟩ = some (.int .i64 x.term)
  c1 : w.cell? ⟨b, o + 1, none⟩ = some (.int .i64 x.kind)
  c2 : w.cell? ⟨b, o + 2, none⟩ = some (.int .i64 x.call.client)
  c3 : w.cell? ⟨b, o + 3, none⟩ = some (.int .i64 x.call.seq)
  c4 : w.cell? ⟨b, o + 4, none⟩ = some (.int .i64 x.call.cmd.kind)
  c5 : w.cell? ⟨b, o + 5, none⟩ = some (.string x.call.cmd.key)
  c6 : w.cell? ⟨b, o + 6, none⟩ = some (.int .i64 x.call.cmd.old.kind)
  c7 : w.cell? ⟨b, o + 7, none⟩ = some (.float .f64 x.call.cmd.old.num)
  c8 : w.cell? ⟨b, o + 8, none⟩ = some (.string x.call.cmd.old.text)
  c9 : w.cell? ⟨b, o + 9, none⟩ = some (.int .i64 x.call.cmd.val.kind)
  c10 : w.cell? ⟨b, o + 10, none⟩ = some (.float .f64 x.call.cmd.val.num)
  c11 : w.cell? ⟨b, o + 11, none⟩ = some (.string x.call.cmd.val.text)
  c12 : w.cell? ⟨b, o + 12, none⟩ = some (.int .i64 x.conf.f)
  c13 : w.cell? ⟨b, o + 13, none⟩ = some (.int .i64 x.conf.w)
  c14 : w.cell? ⟨b, o + 14, none⟩ = some (.int .i64 x.conf.l)
  c15 : w.cell? ⟨b, o + 15, none⟩ = some (.int .i64 x.conf.x)
theorem cells_of {w : World} {b o : Nat} {x : E} (h : At w b o x) : E.Cells w b o x :=
  ⟨h 0 _ rfl, h 1 _ rfl, h 2 _ rfl, h 3 _ rfl, h 4 _ rfl, h 5 _ rfl, h 6 _ rfl, h 7 _ rfl, h 8 _ rfl, h 9 _ rfl, h 10 _ rfl, h 11 _ rfl, h 12 _ rfl, h 13 _ rfl, h 14 _ rfl, h 15 _ rfl⟩
theorem EntAt.cells {w : World} {a : Option Addr} {cap : Nat} {L : List E} (h : EntAt w a cap L) (h0 : 0 < L.length) : ∃ b off, a = some ⟨b, off, none⟩ ∧ ∀ i, i < L.length → E.Cells w b (off + i * 16) (L.getD i E.zero) := by
  obtain ⟨b, off, ha, hc⟩ := h.at_ h0
  refine ⟨b, off, ha, fun i hi => ?_⟩
  have : L.getD i E.zero = L[i] := by simp [hi]
  rw [this]
  exact cells_of (hc i hi)
theorem cells16e {w : World} {b : Nat} {x : E} (h : w.heap[b]? = some x.obj) :
    w.cell? ⟨b, 0, none⟩ = some (.int .i64 x.term) ∧ w.cell? ⟨b, 1, none⟩ = some (.int .i64 x.kind) ∧ w.cell? ⟨b, 2, none⟩ = some (.int .i64 x.call.client) ∧ w.cell? ⟨b, 3, none⟩ = some (.int .i64 x.call.seq) ∧ w.cell? ⟨b, 4, none⟩ = some (.int .i64 x.call.cmd.kind) ∧ w.cell? ⟨b, 5, none⟩ = some (.string x.call.cmd.key) ∧ w.cell? ⟨b, 6, none⟩ = some (.int .i64 x.call.cmd.old.kind) ∧ w.cell? ⟨b, 7, none⟩ = some (.float .f64 x.call.cmd.old.num) ∧ w.cell? ⟨b, 8, none⟩ = some (.string x.call.cmd.old.text) ∧ w.cell? ⟨b, 9, none⟩ = some (.int .i64 x.call.cmd.val.kind) ∧ w.cell? ⟨b, 10, none⟩ = some (.float .f64 x.call.cmd.val.num) ∧ w.cell? ⟨b, 11, none⟩ = some (.string x.call.cmd.val.text) ∧ w.cell? ⟨b, 12, none⟩ = some (.int .i64 x.conf.f) ∧ w.cell? ⟨b, 13, none⟩ = some (.int .i64 x.conf.w) ∧ w.cell? ⟨b, 14, none⟩ = some (.int .i64 x.conf.l) ∧ w.cell? ⟨b, 15, none⟩ = some (.int .i64 x.conf.x) := cells16 h
theorem zero_agg : E.zero.agg = .agg #[.int .i64 0, .int .i64 0, .int .i64 0, .int .i64 0, .int .i64 0, .string ⟨#[]⟩, .int .i64 0, .float .f64 0, .string ⟨#[]⟩, .int .i64 0, .float .f64 0, .string ⟨#[]⟩, .int .i64 0, .int .i64 0, .int .i64 0, .int .i64 0] := rfl
theorem zero_obj : E.zero.obj = .cells #[.int .i64 0, .int .i64 0, .int .i64 0, .int .i64 0, .int .i64 0, .string ⟨#[]⟩, .int .i64 0, .float .f64 0, .string ⟨#[]⟩, .int .i64 0, .float .f64 0, .string ⟨#[]⟩, .int .i64 0, .int .i64 0, .int .i64 0, .int .i64 0] 32 := rfl
theorem infoEnt : (Try.prog.info? 32).map (fun i => (i.zero, i.size, i.bytes)) = some (some E.zero.agg, 16, 152) := by kernel_rfl
end Go.Proofs.Ytjdebdfbjcpjgaa.Lg
end
section
/- The landed writer: upTo, isNought, isCanon, conf. -/
namespace Go.Proofs.Ytjdebdfbjcpjgaa.Wr
open Go Go.RowKit Vl Kv Ss Cn Mem Lg Nm
attribute [local go_sem] Nm.run_bits Nm.run_frombits run_store_float
variable {w0 wr : World} {bw : Nat} {o : Option (List Nat)} {F : List (Nat × Obj)}
theorem nat_beq (a b : Nat) : ((a : Int) == (b : Int)) = (a == b) := by rw [Bool.eq_iff_iff]; simp; omega
theorem nat_beq0 (a : Nat) : ((a : Int) == 0) = (a == 0) := nat_beq a 0
theorem isNought_any (a : Nat) (w : World) : Calls Try.prog 99 #[.float .f64 a] w fun e w' => e = .returned (.bool (a == 0)) ∧ w = w' := by
  go_enter Try.func99, Try.ntmps99
  go_wp2
  go_ret
  exact ⟨ret_bool (nat_beq0 a), rfl⟩
theorem isCanon_any (a : Nat) (w : World) : Calls Try.prog 113 #[.float .f64 a] w fun e w' => e = .returned (.bool (Nm.canon a == a)) ∧ w = w' := by
  go_enter Try.func113, Try.ntmps113
  go_wp2_with (first | (go_at_call 124; refine (Canon_any _ _).mono ?_; rintro e w' ⟨rfl, rfl⟩))
  go_ret
  exact ⟨ret_bool (nat_beq _ a), rfl⟩
/-- what upTo leaves -/
def upR (o : Option (List Nat)) (n most : Int) : Option (Option (List Nat)) := if 0 ≤ n ∧ n ≤ most then some (app o (Pk.intB n)) else none
theorem upR_yes {o : Option (List Nat)} {n most : Int} (h1 : 0 ≤ n) (h2 : n ≤ most) : upR o n most = some (app o (Pk.intB n)) := if_pos ⟨h1, h2⟩
theorem upR_no {o : Option (List Nat)} {n most : Int} (h : ¬ (0 ≤ n ∧ n ≤ most)) : upR o n most = none := if_neg h
theorem upTo_any (h : Yw w0 wr bw o F) {n : Int} (most : Int) (hn : In64 n) (hl : lenO o ≤ 1000000000) :
    Calls Try.prog 69 #[.pointer (some ⟨bw, 0, none⟩), .int .i64 n, .int .i64 most] wr (Wrote w0 bw F (upR o n most)) := by
  have H := Lib.hid h
  have HI := Lib.hid (yInt h hn hl)
  clear h hn
  by_cases h1 : 0 ≤ n
  · have d1 : decide ((0 : Int) ≤ n) = true := decide_eq_true h1
    by_cases h2 : n ≤ most
    · have d2 : decide (n ≤ most) = true := decide_eq_true h2
      have HR := Lib.hid (upR_yes (o := o) h1 h2)
      clear h1 h2
      go_enter Try.func69, Try.ntmps69
      go_wp2_with (first | (go_at_call 66; refine (must_ok _).mono ?_; rintro e w' ⟨rfl, rfl⟩) | (go_at_call 68; refine HI.out.mono ?_; rintro e w' ⟨rfl, hx⟩; (have HX := Lib.hid hx); clear hx))
      go_end0
      exact Wrote.ok HX.out HR.out
    · have d2 : decide (n ≤ most) = false := decide_eq_false h2
      have HR := Lib.hid (upR_no (o := o) (fun e : 0 ≤ n ∧ n ≤ most => h2 e.2))
      clear h1 h2
      go_enter Try.func69, Try.ntmps69
      go_wp2_with (first | (go_at_call 66; refine (must_not _).mono ?_; rintro e w' ⟨rfl, rfl⟩))
      exact ⟨rfl, Wrote.no H.out HR.out⟩
  · have d1 : decide ((0 : Int) ≤ n) = false := decide_eq_false h1
    have HR := Lib.hid (upR_no (o := o) (fun e : 0 ≤ n ∧ n ≤ most => h1 e.1))
    clear h1
    go_enter Try.func69, Try.ntmps69
    go_wp2_with (first | (go_at_call 66; refine (must_not _).mono ?_; rintro e w' ⟨rfl, rfl⟩))
    exact ⟨rfl, Wrote.no H.out HR.out⟩
theorem cConf_enc (c : C) : cConf.enc c = Pk.intB c.f ++ (Pk.intB c.w ++ (Pk.intB c.l ++ Pk.intB c.x)) := rfl
set_option maxHeartbeats 1600000 in
set_option maxRecDepth 100000 in
theorem conf_any (h : Yw w0 wr bw o F) {c : C} (hc : FitC c) (hl : lenO o ≤ 900000000) :
    Calls Try.prog 71 #[.pointer (some ⟨bw, 0, none⟩), c.val] wr (Wrote w0 bw F (some (app o (cConf.enc c)))) := by
  have HX := Lib.hid (h.more (Lg.C.obj c))
  have HE := Lib.hid (cConf_enc c)
  have HC := Lib.hid hc
  clear h hc
  obtain ⟨f, v, l, x⟩ := c
  unfold Lg.C.obj at HX
  dsimp only at HX HE
  obtain ⟨c0, c1, c2, c3⟩ := Bh.cells4 HX.out.head
  go_enter Try.func71, Try.ntmps71
  go_wp2_with fail
  go_region_with (go_at_call 68; refine Calls.mono (yInt (HX.out.on ((Beh.start _).drewN 1)) HC.out.f (by omega)) ?_; rintro e w' ⟨rfl, hx⟩; (have HX := Lib.hid hx); clear hx c0 c1 c2 c3)
  obtain ⟨c0, c1, c2, c3⟩ := Bh.cells4 HX.out.head
  have hl2 := lenO_int o f
  go_wp2_with fail
  go_region_with (go_at_call 68; refine Calls.mono (yInt (HX.out.on ((Beh.start _).drewN 1)) HC.out.w (by omega)) ?_; rintro e w' ⟨rfl, hx⟩; (have HX := Lib.hid hx); clear hx c0 c1 c2 c3)
  obtain ⟨c0, c1, c2, c3⟩ := Bh.cells4 HX.out.head
  have hl3 := lenO_int (app o (Pk.intB f)) v
  go_wp2_with fail
  go_region_with (go_at_call 68; refine Calls.mono (yInt (HX.out.on ((Beh.start _).drewN 1)) HC.out.l (by omega)) ?_; rintro e w' ⟨rfl, hx⟩; (have HX := Lib.hid hx); clear hx c0 c1 c2 c3)
  obtain ⟨c0, c1, c2, c3⟩ := Bh.cells4 HX.out.head
  have hl4 := lenO_int (app (app o (Pk.intB f)) (Pk.intB v)) l
  go_wp2_with fail
  go_region_with (go_at_call 68; refine Calls.mono (yInt (HX.out.on ((Beh.start _).drewN 1)) HC.out.x (by omega)) ?_; rintro e w' ⟨rfl, hx⟩; (have HX := Lib.hid hx); clear hx c0 c1 c2 c3)
  obtain ⟨c0, c1, c2, c3⟩ := Bh.cells4 HX.out.head
  go_wp2_with fail
  go_end0
  have hx := HX.out.tail
  simp only [app_app] at hx
  exact Wrote.ok hx (by rw [HE.out]; simp only [List.append_assoc])
end Go.Proofs.Ytjdebdfbjcpjgaa.Wr
end
