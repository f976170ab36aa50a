import Derived.Test.YtaengjgmchpabaaGreatMergeWr1
import Derived.Test.YtaengjgmchpabaaGreatMergeWr10
import Derived.WideShapes
import Derived.Test.YtaengjgmchpabaaGreatMergeWr11
import Derived.Test.YtaengjgmchpabaaGreatMergeWr3
import Derived.Test.YtaengjgmchpabaaGreatKeepB
import Derived.Test.YtaengjgmchpabaaGreatMergeWr12
import Derived.Test.YtaengjgmchpabaaGreatMergeWr13
import Derived.Deep.Upon
section
/- Lists of values of k cells each in memory: read, appended to, made anew. For any program, no program's function. -/
namespace Go.Proofs.YtaengjgmchpabaaGreat.Li
open Go Go.RowKit Mem Bh

/-- a kind of rows: each is so many cells -/
class Row (α : Type) where
  k : Nat
  cells : α → List Value
  pos : 0 < k
  len : ∀ x, (cells x).length = k
  one : ∀ x, ∀ u ∈ cells x, u.oneCell' = true
variable {α : Type} [Row α]
def flat (L : List α) : List Value := L.flatMap Row.cells
theorem flat_nil : flat ([] : List α) = [] := rfl
theorem flat_append (L M : List α) : flat (L ++ M) = flat L ++ flat M := by unfold flat; rw [List.flatMap_append]
theorem flat_length (L : List α) : (flat L).length = L.length * Row.k α := by
  induction L with
  | nil => simp [flat]
  | cons p r ih =>
    show (Row.cells p ++ flat r).length = _
    rw [List.length_append, ih, List.length_cons, Row.len, Nat.succ_mul]
    omega
theorem flat_at (L : List α) : ∀ i j (hi : i < L.length), j < Row.k α → (flat L)[i * Row.k α + j]? = (Row.cells L[i])[j]? := by
  induction L with
  | nil => intro i j hi; simp at hi
  | cons p r ih =>
    intro i j hi hj
    show (Row.cells p ++ flat r)[i * Row.k α + j]? = _
    have hl := Row.len p
    cases i with
    | zero => rw [Nat.zero_mul, Nat.zero_add, List.getElem?_append_left (by omega)]; rfl
    | succ i =>
      rw [List.getElem?_append_right (by rw [Nat.succ_mul]; omega), hl, show (i + 1) * Row.k α + j - Row.k α = i * Row.k α + j by rw [Nat.succ_mul]; omega, ih i j (by simpa using hi) hj]
      rfl
theorem flat_one {L : List α} : ∀ u ∈ flat L, u.oneCell' = true := by
  intro u hu
  obtain ⟨p, _, h⟩ := List.mem_flatMap.1 hu
  exact Row.one p u h
/-- the cells of a row at an address -/
def At (w : World) (b o : Nat) (x : α) : Prop := ∀ j u, (Row.cells x)[j]? = some u → w.cell? ⟨b, o + j, none⟩ = some u
structure ListAt (w : World) (a : Option Addr) (cap : Nat) (L : List α) : Prop where
  len : L.length ≤ cap
  max : cap ≤ 9223372036854775807
  nil : a = none → cap = 0
  at_ : 0 < L.length → ∃ b off, a = some ⟨b, off, none⟩ ∧ ∀ i (hi : i < L.length), At w b (off + i * Row.k α) L[i]
theorem At.below {w w' : World} {x : α} {b o : Nat} (h : At w b o x) (hk : Below w.heap.size w w') : At w' b o x := fun j u hu =>
  (World.cell?_of_block (w := w) (hk.block b (World.block_lt_of_cell? w _ (h j u hu)))).trans (h j u hu)
theorem ListAt.below {w w' : World} {a : Option Addr} {cap : Nat} {L : List α} (h : ListAt w a cap L) (hk : Below w.heap.size w w') : ListAt w' a cap L := by
  refine ⟨h.len, h.max, h.nil, fun h0 => ?_⟩
  obtain ⟨b, off, ha, hc⟩ := h.at_ h0
  exact ⟨b, off, ha, fun i hi => (hc i hi).below hk⟩
theorem ListAt.alloc {w : World} {a : Option Addr} {cap : Nat} {L : List α} (h : ListAt w a cap L) (o : Obj) : ListAt (w.alloc o) a cap L := h.below (below_alloc _ _)
theorem ListAt.drewN {w : World} {a : Option Addr} {cap : Nat} {L : List α} (h : ListAt w a cap L) (n : Nat) : ListAt (w.drewN n) a cap L := h.below ((Beh.start w).drewN n)
theorem ListAt.empty (w : World) : ListAt w none 0 ([] : List α) := ⟨Nat.le_refl _, by omega, fun _ => rfl, fun h => by simp at h⟩
theorem ListAt.bare {w : World} {cap : Nat} {L : List α} (h : ListAt w none cap L) : L = [] ∧ cap = 0 := by
  have := h.nil rfl
  have := h.len
  exact ⟨List.eq_nil_of_length_eq_zero (by omega), by omega⟩
theorem ListAt.src {w : World} {a : Option Addr} {cap : Nat} {L : List α} (h : ListAt w a cap L) : SrcC (Row.k α) w a cap L.length (flat L) := by
  have hp := Row.pos (α := α)
  refine ⟨flat_length L, fun ha => ⟨by have := h.nil ha; have := h.len; omega, h.nil ha⟩, fun ad ha j u hu => ?_⟩
  obtain ⟨hj, _⟩ := List.getElem?_eq_some_iff.1 hu
  rw [flat_length] at hj
  have hne : 0 < L.length := by
    rcases Nat.eq_zero_or_pos L.length with h0 | h0
    · rw [h0, Nat.zero_mul] at hj; omega
    · exact h0
  obtain ⟨b, off, ha2, hc⟩ := h.at_ hne
  rw [ha] at ha2
  injection ha2 with ha2
  subst ha2
  have hd : j = j / Row.k α * Row.k α + j % Row.k α := by rw [Nat.mul_comm]; exact (Nat.div_add_mod _ _).symm
  have hi : j / Row.k α < L.length := (Nat.div_lt_iff_lt_mul hp).2 hj
  have hm : j % Row.k α < Row.k α := Nat.mod_lt _ hp
  rw [Go.WideShapes.add_plain]
  have hcc := hc (j / Row.k α) hi (j % Row.k α) u (by rw [← flat_at L _ _ hi hm, ← hd]; exact hu)
  rw [hd, ← Nat.add_assoc]
  exact hcc
theorem ListAt.take {w : World} {a : Option Addr} {cap : Nat} {L : List α} (h : ListAt w a cap L) {n : Nat} (hn : n ≤ L.length) : ListAt w a cap (L.take n) := by
  refine ⟨by rw [List.length_take]; have := h.len; omega, h.max, h.nil, fun h0 => ?_⟩
  rw [List.length_take] at h0
  obtain ⟨b, off, ha, hc⟩ := h.at_ (by omega)
  refine ⟨b, off, ha, fun i hi => ?_⟩
  rw [List.length_take] at hi
  have := hc i (by omega)
  rw [List.getElem_take]
  exact this
theorem ListAt.drop {w : World} {ad : Addr} {cap : Nat} {L : List α} (h : ListAt w (some ad) cap L) {n : Nat} (hn : n ≤ L.length) : ListAt w (some (ad.add (n * Row.k α))) (cap - n) (L.drop n) := by
  refine ⟨by rw [List.length_drop]; have := h.len; omega, by have := h.max; omega, fun e => (by cases e), fun h0 => ?_⟩
  rw [List.length_drop] at h0
  obtain ⟨b, off, ha, hc⟩ := h.at_ (by omega)
  injection ha with ha
  subst ha
  refine ⟨b, off + n * Row.k α, by rw [Go.WideShapes.add_plain], fun i hi => ?_⟩
  rw [List.length_drop] at hi
  have := hc (n + i) (by omega)
  rw [List.getElem_drop, show off + n * Row.k α + i * Row.k α = off + (n + i) * Row.k α by rw [Nat.add_mul]; omega]
  exact this
/-- rows that a call has made itself -/
@[reducible] def OwnL (e : TypeId) (w : World) (b : Nat) (a : Option Addr) (cap : Nat) (L : List α) : Prop := OwnC e (Row.k α) w b a cap L.length (flat L)
theorem OwnL.list {e : TypeId} {w : World} {b : Nat} {a : Option Addr} {cap : Nat} {L : List α} (h : OwnL e w b a cap L) : ListAt w a cap L := by
  have hl := flat_length L
  refine ⟨?_, ?_, fun ha => ?_, fun h0 => ?_⟩
  · rcases h.2 with ⟨_, h1, h2⟩ | ⟨_, h1, _⟩ <;> omega
  · rcases h.2 with ⟨_, h1, h2⟩ | ⟨_, _, h1, _⟩
    · omega
    · unfold maxLen at h1; omega
  · rcases h.2 with ⟨_, h1, h2⟩ | ⟨h1, _⟩
    · exact h1
    · rw [h1] at ha; cases ha
  · have hpos : 0 < (flat L).length := by rw [hl]; exact Nat.mul_pos h0 Row.pos
    have hf := (h.cell (j := 0) hpos).1
    refine ⟨b, 0, hf, fun i hi j u hu => ?_⟩
    have hj : j < Row.k α := by have := (List.getElem?_eq_some_iff.1 hu).1; rwa [Row.len] at this
    have hlt : i * Row.k α + j < (flat L).length := by
      rw [hl]
      have : (i + 1) * Row.k α ≤ L.length * Row.k α := Nat.mul_le_mul_right _ hi
      rw [Nat.succ_mul] at this
      omega
    have hc := (h.cell hlt).2.1
    have he := flat_at L i j hi hj
    rw [hu, List.getElem?_eq_getElem hlt] at he
    injection he with he
    rw [Nat.zero_add, hc, he]
/-- rows in a block that was laid whole -/
theorem lit_list {w : World} {b : Nat} {L : List α} {cs : Array Value} {t : TypeId} {fr : Nat × Nat} (h : w.heap[b]? = some (.cells cs t fr)) (hc : cs = (flat L).toArray) (hm : L.length ≤ 9223372036854775807) : ListAt w (some ⟨b, 0, none⟩) L.length L := by
  subst hc
  refine ⟨Nat.le_refl _, hm, fun h => (by cases h), fun _ => ⟨b, 0, rfl, fun i hi j u hu => ?_⟩⟩
  have hj : j < Row.k α := by have := (List.getElem?_eq_some_iff.1 hu).1; rwa [Row.len] at this
  have he := flat_at L i j hi hj
  rw [hu] at he
  show w.cell? ⟨b, 0 + i * Row.k α + j, none⟩ = some u
  rw [Nat.zero_add]
  simp [World.cell?, h, he]
/-- rows that a call has made: they are its own, and what there was is as it was -/
structure Made (e : TypeId) (w w' : World) (b : Nat) (a : Option Addr) (cap : Nat) (L : List α) : Prop where
  own : OwnL e w' b a cap L
  new : w.heap.size ≤ b
  beh : Beh w w'
theorem Made.list {e : TypeId} {w w' : World} {b : Nat} {a : Option Addr} {cap : Nat} {L : List α} (h : Made e w w' b a cap L) : ListAt w' a cap L := OwnL.list h.own
theorem Made.from {e : TypeId} {w0 w w' : World} {b : Nat} {a : Option Addr} {cap : Nat} {L : List α} (h : Beh w0 w) (m : Made e w w' b a cap L) : Made e w0 w' b a cap L := ⟨m.own, Nat.le_trans h.size m.new, h.trans m.beh⟩
theorem Made.nil (e : TypeId) (w : World) : Made e w w w.heap.size none 0 ([] : List α) := ⟨OwnC.nil _ _ _ _, Nat.le_refl _, Beh.start _⟩
theorem Made.nil' {e : TypeId} {w w' : World} (h : Beh w w') : Made e w w' w.heap.size none 0 ([] : List α) := ⟨OwnC.nil _ _ _ _, Nat.le_refl _, h⟩
theorem OwnL.kept {e : TypeId} {w w' : World} {b : Nat} {a : Option Addr} {cap : Nat} {L : List α} (h : OwnL e w b a cap L) (hb : Beh w w') : OwnL e w' b a cap L :=
  OwnC.kept h (Kept.of_below hb) (fun _ h => h)
theorem Made.on {e : TypeId} {w0 w w' : World} {b : Nat} {a : Option Addr} {cap : Nat} {L : List α} (m : Made e w0 w b a cap L) (hb : Beh w w') : Made e w0 w' b a cap L := ⟨OwnL.kept m.own hb, m.new, m.beh.on hb⟩
/-- more rows appended to one's own -/
theorem Made.more {e : TypeId} {w0 w w' : World} {b b' : Nat} {a a' : Option Addr} {cap cap' : Nat} {L M : List α} (m : Made e w0 w b a cap L) (h2 : OwnC e (Row.k α) w' b' a' cap' (L.length + M.length) (flat L ++ flat M)) (h3 : Kept (Of a b) w w') (h4 : (b' = b ∧ (a' = none ∨ a ≠ none)) ∨ w.heap.size ≤ b') : Made e w0 w' b' a' cap' (L ++ M) := by
  refine ⟨?_, ?_, (m.beh.below.trans (h3.below m.beh.size ?_) : Below _ _ _)⟩
  · show OwnC _ (Row.k α) w' b' a' cap' (L ++ M).length (flat (L ++ M))
    rw [List.length_append, flat_append]; exact h2
  · have := m.new
    have := m.beh.size
    rcases h4 with ⟨h4, _⟩ | h4 <;> omega
  · exact fun k hk => by have := hk.2; have := m.new; omega
theorem own_beh {w w' : World} {S : Nat → Prop} (h : Kept S w w') (hs : ∀ k, S k → w.heap.size ≤ k) : Beh w w' := h.below (Nat.le_refl _) hs
theorem own_beh2 {w w1 w' : World} {S : Nat → Prop} (h0 : Kept Mem.None w w1) (h : Kept S w1 w') (hs : ∀ k, S k → w.heap.size ≤ k) : Beh w w' :=
  (h0.below (Nat.le_refl _) (fun _ h => h.elim)).trans (h.below h0.size hs)
theorem heap_setc {w : World} {b i : Nat} {cur : Array Value} {t : TypeId} {v : Value} (h : w.heap[b]? = some (.cells cur t (0, 0))) :
    (w.setCell ⟨b, i, none⟩ v).heap[b]? = some (.cells (cur.setIfInBounds i v) t (0, 0)) := by
  simp [World.setCell, Array.getElem?_modify, h]
end Go.Proofs.YtaengjgmchpabaaGreat.Li
end
section
/- Cut out of LogAt: all but what names api.Hard. Entries and logs in memory. No program's function. -/
namespace Go.Proofs.YtaengjgmchpabaaGreat.Lg
open Go Go.RowKit Vl Kv Ss Cn Mem Li
@[reducible] def E.agg (x : E) : Value := .agg #[.int .i64 x.term, .int .i64 x.kind, .int .i64 x.call.client, .int .i64 x.call.seq, .int .i64 x.call.cmd.kind, .string x.call.cmd.key, .int .i64 x.call.cmd.old.kind, .float .f64 x.call.cmd.old.num, .string x.call.cmd.old.text, .int .i64 x.call.cmd.val.kind, .float .f64 x.call.cmd.val.num, .string x.call.cmd.val.text, .int .i64 x.conf.f, .int .i64 x.conf.w, .int .i64 x.conf.l, .int .i64 x.conf.x]
def E.cells (x : E) : List Value := [.int .i64 x.term, .int .i64 x.kind, .int .i64 x.call.client, .int .i64 x.call.seq, .int .i64 x.call.cmd.kind, .string x.call.cmd.key, .int .i64 x.call.cmd.old.kind, .float .f64 x.call.cmd.old.num, .string x.call.cmd.old.text, .int .i64 x.call.cmd.val.kind, .float .f64 x.call.cmd.val.num, .string x.call.cmd.val.text, .int .i64 x.conf.f, .int .i64 x.conf.w, .int .i64 x.conf.l, .int .i64 x.conf.x]
def E.obj (x : E) : Obj := .cells #[.int .i64 x.term, .int .i64 x.kind, .int .i64 x.call.client, .int .i64 x.call.seq, .int .i64 x.call.cmd.kind, .string x.call.cmd.key, .int .i64 x.call.cmd.old.kind, .float .f64 x.call.cmd.old.num, .string x.call.cmd.old.text, .int .i64 x.call.cmd.val.kind, .float .f64 x.call.cmd.val.num, .string x.call.cmd.val.text, .int .i64 x.conf.f, .int .i64 x.conf.w, .int .i64 x.conf.l, .int .i64 x.conf.x] 70
def C.obj (c : C) : Obj := .cells #[.int .i64 c.f, .int .i64 c.w, .int .i64 c.l, .int .i64 c.x] 24
instance : Row E where
  k := 16
  cells := E.cells
  pos := by decide
  len := fun _ => rfl
  one := fun x u hu => by
    simp only [E.cells, List.mem_cons, List.not_mem_nil, or_false] at hu
    rcases hu with rfl | rfl | rfl | rfl | rfl | rfl | rfl | rfl | rfl | rfl | rfl | rfl | rfl | rfl | rfl | rfl <;> rfl
/-- where a log's parts lie -/
structure Hp where
  sb : Nat
  sa : Option Addr
  sc : Nat
  lb : Nat
  la : Option Addr
  lc : Nat
@[reducible] def H.val (h : H) (p : Hp) : Value := .agg #[.int .i64 h.term, .int .i64 h.vote, .int .i64 h.base, .int .i64 h.bterm, .int .i64 h.conf.f, .int .i64 h.conf.w, .int .i64 h.conf.l, .int .i64 h.conf.x, .slice p.sa h.snap.length p.sc, .slice p.la h.log.length p.lc]
def Hp.none : Hp := ⟨0, Option.none, 0, 0, Option.none, 0⟩
@[reducible] def EntAt (w : World) (a : Option Addr) (cap : Nat) (L : List E) : Prop := ListAt w a cap L
/-- a log that may be read -/
structure HardAt (w : World) (h : H) (p : Hp) : Prop where
  snap : Mem.Src w p.sb p.sa p.sc h.snap
  log : EntAt w p.la p.lc h.log
theorem HardAt.on {w w' : World} {h : H} {p : Hp} (x : HardAt w h p) (hb : Below w.heap.size w w') : HardAt w' h p :=
  ⟨x.snap.kept (Kept.of_below hb) (fun _ h => h), x.log.below hb⟩
theorem HardAt.none (w : World) : HardAt w H.zero Hp.none := ⟨.inl ⟨Nat.le_refl _, by decide, .inl ⟨rfl, rfl, rfl⟩⟩, ListAt.empty w⟩
theorem else_kept {b : Nat} {w w' : World} (h : Bh.Else b w w') : Kept (Mem.Only b) w w' := ⟨h.os, h.tape, h.output, Nat.le_of_eq h.size.symm, fun k _ hk => h.block k hk⟩
theorem ownB_else {e : TypeId} {w w' : World} {b g : Nat} {a : Option Addr} {cap : Nat} {l : List Nat} (h : OwnB e w b a cap l) (x : Bh.Else g w w') (hg : g < b) : OwnB e w' b a cap l :=
  h.kept (else_kept x) (fun _ hb => by have hb : b = g := hb; omega)
theorem ownL_else {e : TypeId} {w w' : World} {b g : Nat} {a : Option Addr} {cap : Nat} {L : List E} (h : OwnL e w b a cap L) (x : Bh.Else g w w') (hg : g < b) : OwnL e w' b a cap L :=
  OwnC.kept h (else_kept x) (fun _ hb => by have hb : b = g := hb; omega)
theorem else_beh {b : Nat} {w0 w w' : World} (h : Kv.Beh w0 w) (x : Bh.Else b w w') (hb : w0.heap.size ≤ b) : Kv.Beh w0 w' :=
  Below.trans h (⟨x.os, x.tape, x.output, Nat.le_of_eq x.size.symm, fun k hk => x.block k (by omega)⟩ : Below w0.heap.size w w')
/-- bytes of a call's own, behind so many blocks -/
structure OwnS (lo : Nat) (w : World) (b : Nat) (a : Option Addr) (cap : Nat) (l : List Nat) : Prop where
  own : OwnB 5 w b a cap l
  new : lo ≤ b
theorem OwnS.on {lo : Nat} {w w' : World} {b : Nat} {a : Option Addr} {cap : Nat} {l : List Nat} (h : OwnS lo w b a cap l) (hb : Below w.heap.size w w') : OwnS lo w' b a cap l := ⟨h.own.kept (Kept.of_below hb) (fun _ h => h), h.new⟩
theorem OwnS.els {lo : Nat} {w w' : World} {b g : Nat} {a : Option Addr} {cap : Nat} {l : List Nat} (h : OwnS lo w b a cap l) (x : Bh.Else g w w') (hg : g < lo) : OwnS lo w' b a cap l := ⟨ownB_else h.own x (by have := h.new; omega), h.new⟩
theorem OwnS.of {lo : Nat} {w w' : World} {e : Ending} {l : List Nat} (h : Kp.NewB l w e w') (hl : lo ≤ w.heap.size) : ∃ b a cap, e = .returned (.slice a l.length cap) ∧ OwnS lo w' b a cap l ∧ Below w.heap.size w w' := by
  obtain ⟨b, a, cap, h1, h2, h3, h4, _⟩ := h
  exact ⟨b, a, cap, h1, ⟨h2, by omega⟩, h4.below (Nat.le_refl _) (fun _ h => h.elim)⟩
/-- entries of a call's own, behind so many blocks -/
structure OwnN (lo : Nat) (w : World) (b : Nat) (a : Option Addr) (cap : Nat) (L : List E) : Prop where
  own : OwnL 70 w b a cap L
  new : lo ≤ b
theorem OwnN.on {lo : Nat} {w w' : World} {b : Nat} {a : Option Addr} {cap : Nat} {L : List E} (h : OwnN lo w b a cap L) (hb : Below w.heap.size w w') : OwnN lo w' b a cap L := ⟨OwnL.kept h.own hb, h.new⟩
theorem OwnN.els {lo : Nat} {w w' : World} {b g : Nat} {a : Option Addr} {cap : Nat} {L : List E} (h : OwnN lo w b a cap L) (x : Bh.Else g w w') (hg : g < lo) : OwnN lo w' b a cap L := ⟨ownL_else h.own x (by have := h.new; omega), h.new⟩
theorem OwnN.of {lo : Nat} {w w' : World} {b : Nat} {a : Option Addr} {cap : Nat} {L : List E} (h : Made 70 w w' b a cap L) (hl : lo ≤ w.heap.size) : OwnN lo w' b a cap L := ⟨h.own, Nat.le_trans hl h.new⟩
theorem OwnS.none {lo : Nat} {w : World} : OwnS lo w lo Option.none 0 [] := ⟨OwnB.nil _ _ _, Nat.le_refl _⟩
theorem OwnN.none {lo : Nat} {w : World} : OwnN lo w lo Option.none 0 [] := ⟨OwnC.nil _ _ _ _, Nat.le_refl _⟩
/-- a log that a call has made: its parts are its own -/
structure MadeH (w w' : World) (h : H) (p : Hp) : Prop where
  snap : OwnB 5 w' p.sb p.sa p.sc h.snap
  snew : w.heap.size ≤ p.sb
  log : OwnL 70 w' p.lb p.la p.lc h.log
  lnew : w.heap.size ≤ p.lb
  beh : Kv.Beh w w'
theorem MadeH.at_ {w w' : World} {h : H} {p : Hp} (m : MadeH w w' h p) : HardAt w' h p := ⟨m.snap.src, OwnL.list m.log⟩
theorem MadeH.on {w w1 w' : World} {h : H} {p : Hp} (m : MadeH w w1 h p) (hb : Below w1.heap.size w1 w') : MadeH w w' h p :=
  ⟨m.snap.kept (Kept.of_below hb) (fun _ h => h), m.snew, OwnL.kept m.log hb, m.lnew, m.beh.on hb⟩
theorem MadeH.from {w0 w w' : World} {h : H} {p : Hp} (hb : Kv.Beh w0 w) (m : MadeH w w' h p) : MadeH w0 w' h p :=
  ⟨m.snap, Nat.le_trans hb.size m.snew, m.log, Nat.le_trans hb.size m.lnew, hb.trans m.beh⟩
/-- the parts of a log that is zero, in a call -/
def Hp.zero (w : World) : Hp := ⟨w.heap.size, Option.none, 0, w.heap.size, Option.none, 0⟩
theorem MadeH.zero {w w' : World} (hb : Kv.Beh w w') : MadeH w w' H.zero (Hp.zero w) := ⟨OwnB.nil _ _ _, Nat.le_refl _, OwnC.nil _ _ _ _, Nat.le_refl _, hb⟩
theorem Src.empty (w : World) (b : Nat) : Mem.Src w b Option.none 0 [] := .inl ⟨Nat.le_refl _, by decide, .inl ⟨rfl, rfl, rfl⟩⟩
theorem cells10 {w : World} {b : Nat} {x0 x1 x2 x3 x4 x5 x6 x7 x8 x9 : Value} {t : TypeId} (h : w.heap[b]? = some (.cells #[x0, x1, x2, x3, x4, x5, x6, x7, x8, x9] t)) :
    w.cell? ⟨b, 0, none⟩ = some x0 ∧ w.cell? ⟨b, 1, none⟩ = some x1 ∧ w.cell? ⟨b, 2, none⟩ = some x2 ∧ w.cell? ⟨b, 3, none⟩ = some x3 ∧ w.cell? ⟨b, 4, none⟩ = some x4 ∧ w.cell? ⟨b, 5, none⟩ = some x5 ∧ w.cell? ⟨b, 6, none⟩ = some x6 ∧ w.cell? ⟨b, 7, none⟩ = some x7 ∧ w.cell? ⟨b, 8, none⟩ = some x8 ∧ w.cell? ⟨b, 9, none⟩ = some x9 := by
  refine ⟨?_, ?_, ?_, ?_, ?_, ?_, ?_, ?_, ?_, ?_⟩ <;> simp [World.cell?, h]
theorem cells16 {w : World} {b : Nat} {x0 x1 x2 x3 x4 x5 x6 x7 x8 x9 y0 y1 y2 y3 y4 y5 : Value} {t : TypeId} (h : w.heap[b]? = some (.cells #[x0, x1, x2, x3, x4, x5, x6, x7, x8, x9, y0, y1, y2, y3, y4, y5] t)) :
    w.cell? ⟨b, 0, none⟩ = some x0 ∧ w.cell? ⟨b, 1, none⟩ = some x1 ∧ w.cell? ⟨b, 2, none⟩ = some x2 ∧ w.cell? ⟨b, 3, none⟩ = some x3 ∧ w.cell? ⟨b, 4, none⟩ = some x4 ∧ w.cell? ⟨b, 5, none⟩ = some x5 ∧ w.cell? ⟨b, 6, none⟩ = some x6 ∧ w.cell? ⟨b, 7, none⟩ = some x7 ∧ w.cell? ⟨b, 8, none⟩ = some x8 ∧ w.cell? ⟨b, 9, none⟩ = some x9 ∧
    w.cell? ⟨b, 10, none⟩ = some y0 ∧ w.cell? ⟨b, 11, none⟩ = some y1 ∧ w.cell? ⟨b, 12, none⟩ = some y2 ∧ w.cell? ⟨b, 13, none⟩ = some y3 ∧ w.cell? ⟨b, 14, none⟩ = some y4 ∧ w.cell? ⟨b, 15, none⟩ = some y5 := by
  refine ⟨?_, ?_, ?_, ?_, ?_, ?_, ?_, ?_, ?_, ?_, ?_, ?_, ?_, ?_, ?_, ?_⟩ <;> simp [World.cell?, h]
theorem frozen_e {w : World} {b : Nat} {x : E} (h : w.heap[b]? = some x.obj) : ∀ j, w.frozen? ⟨b, j, none⟩ = false := fun j => frozen_of h j
/-- the cells of an entry of a list -/
structure E.Cells (w : World) (b o : Nat) (x : E) : Prop where
  c0 : w.cell? ⟨b, o, none⟩ = some (.int .i64 x.term)
  c1 : w.cell? ⟨b, o + 1, none⟩ = some (.int .i64 x.kind)
  c2 : w.cell? ⟨b, o + 2, none⟩ = some (.int .i64 x.call.client)
  c3 : w.cell? ⟨b, o + 3, none⟩ = some (.int .i64 x.call.seq)
  c4 : w.cell? ⟨b, o + 4, none⟩ = some (.int .i64 x.call.cmd.kind)
  c5 : w.cell? ⟨b, o + 5, none⟩ = some (.string x.call.cmd.key)
  c6 : w.cell? ⟨b, o + 6, none⟩ = some (.int .i64 x.call.cmd.old.kind)
  c7 : w.cell? ⟨b, o + 7, none⟩ = some (.float .f64 x.call.cmd.old.num)
  c8 : w.cell? ⟨b, o + 8, none⟩ = some (.string x.call.cmd.old.text)
  c9 : w.cell? ⟨b, o + 9, none⟩ = some (.int .i64 x.call.cmd.val.kind)
  c10 : w.cell? ⟨b, o + 10, none⟩ = some (.float .f64 x.call.cmd.val.num)
  c11 : w.cell? ⟨b, o + 11, none⟩ = some (.string x.call.cmd.val.text)
  c12 : w.cell? ⟨b, o + 12, none⟩ = some (.int .i64 x.conf.f)
  c13 : w.cell? ⟨b, o + 13, none⟩ = some (.int .i64 x.conf.w)
  c14 : w.cell? ⟨b, o + 14, none⟩ = some (.int .i64 x.conf.l)
  c15 : w.cell? ⟨b, o + 15, none⟩ = some (.int .i64 x.conf.x)
theorem cells_of {w : World} {b o : Nat} {x : E} (h : At w b o x) : E.Cells w b o x :=
  ⟨h 0 _ rfl, h 1 _ rfl, h 2 _ rfl, h 3 _ rfl, h 4 _ rfl, h 5 _ rfl, h 6 _ rfl, h 7 _ rfl, h 8 _ rfl, h 9 _ rfl, h 10 _ rfl, h 11 _ rfl, h 12 _ rfl, h 13 _ rfl, h 14 _ rfl, h 15 _ rfl⟩
theorem EntAt.cells {w : World} {a : Option Addr} {cap : Nat} {L : List E} (h : EntAt w a cap L) (h0 : 0 < L.length) : ∃ b off, a = some ⟨b, off, none⟩ ∧ ∀ i, i < L.length → E.Cells w b (off + i * 16) (L.getD i E.zero) := by
  obtain ⟨b, off, ha, hc⟩ := h.at_ h0
  refine ⟨b, off, ha, fun i hi => ?_⟩
  have : L.getD i E.zero = L[i] := by simp [hi]
  rw [this]
  exact cells_of (hc i hi)
theorem cells16e {w : World} {b : Nat} {x : E} (h : w.heap[b]? = some x.obj) :
    w.cell? ⟨b, 0, none⟩ = some (.int .i64 x.term) ∧ w.cell? ⟨b, 1, none⟩ = some (.int .i64 x.kind) ∧ w.cell? ⟨b, 2, none⟩ = some (.int .i64 x.call.client) ∧ w.cell? ⟨b, 3, none⟩ = some (.int .i64 x.call.seq) ∧ w.cell? ⟨b, 4, none⟩ = some (.int .i64 x.call.cmd.kind) ∧ w.cell? ⟨b, 5, none⟩ = some (.string x.call.cmd.key) ∧ w.cell? ⟨b, 6, none⟩ = some (.int .i64 x.call.cmd.old.kind) ∧ w.cell? ⟨b, 7, none⟩ = some (.float .f64 x.call.cmd.old.num) ∧ w.cell? ⟨b, 8, none⟩ = some (.string x.call.cmd.old.text) ∧ w.cell? ⟨b, 9, none⟩ = some (.int .i64 x.call.cmd.val.kind) ∧ w.cell? ⟨b, 10, none⟩ = some (.float .f64 x.call.cmd.val.num) ∧ w.cell? ⟨b, 11, none⟩ = some (.string x.call.cmd.val.text) ∧ w.cell? ⟨b, 12, none⟩ = some (.int .i64 x.conf.f) ∧ w.cell? ⟨b, 13, none⟩ = some (.int .i64 x.conf.w) ∧ w.cell? ⟨b, 14, none⟩ = some (.int .i64 x.conf.l) ∧ w.cell? ⟨b, 15, none⟩ = some (.int .i64 x.conf.x) := cells16 h
theorem zero_agg : E.zero.agg = .agg #[.int .i64 0, .int .i64 0, .int .i64 0, .int .i64 0, .int .i64 0, .string ⟨#[]⟩, .int .i64 0, .float .f64 0, .string ⟨#[]⟩, .int .i64 0, .float .f64 0, .string ⟨#[]⟩, .int .i64 0, .int .i64 0, .int .i64 0, .int .i64 0] := rfl
theorem zero_obj : E.zero.obj = .cells #[.int .i64 0, .int .i64 0, .int .i64 0, .int .i64 0, .int .i64 0, .string ⟨#[]⟩, .int .i64 0, .float .f64 0, .string ⟨#[]⟩, .int .i64 0, .float .f64 0, .string ⟨#[]⟩, .int .i64 0, .int .i64 0, .int .i64 0, .int .i64 0] 70 := rfl
theorem infoEnt : (Tryz.prog.info? 70).map (fun i => (i.zero, i.size, i.bytes)) = some (some E.zero.agg, 16, 152) := by kernel_rfl
end Go.Proofs.YtaengjgmchpabaaGreat.Lg
end
section
/- A reader beside one or two blocks of the call's own; structs stored into a block, whole, in its middle, and loaded. -/
namespace Go.Proofs.YtaengjgmchpabaaGreat.Wr
open Go Go.RowKit Vl Kv Ss Cn Mem Lg Nm
/-- some cells of a row anew -/
def splice (old : Array Value) : Nat → List Value → Array Value
  | _, [] => old
  | o, v :: r => splice (old.setIfInBounds o v) (o + 1) r
theorem heap_setCells {b : Nat} {t : TypeId} : ∀ (vs : List Value) (o : Nat) (w : World) (old : Array Value), w.heap[b]? = some (.cells old t) → (w.setCells b o vs).heap[b]? = some (.cells (splice old o vs) t)
  | [], _, _, _, h => h
  | v :: r, o, w, old, h => heap_setCells r (o + 1) (w.setCell ⟨b, o, none⟩ v) (old.setIfInBounds o v) (Bh.heap_set v h)
theorem setCells_any {b n : Nat} (hn : n ≠ b) : ∀ (vs : List Value) (o : Nat) (w : World), (w.setCells b o vs).heap[n]? = w.heap[n]?
  | [], _, _ => rfl
  | _ :: r, o, _ => (setCells_any hn r (o + 1) _).trans (Below.heap_setCell _ _ _ _ hn)
theorem setCells_size {b : Nat} : ∀ (vs : List Value) (o : Nat) (w : World), (w.setCells b o vs).heap.size = w.heap.size
  | [], _, _ => rfl
  | _ :: r, o, _ => (setCells_size r (o + 1) _).trans (by simp [World.setCell])
theorem else_setCells (b : Nat) : ∀ (vs : List Value) (o : Nat) (w : World), Bh.Else b w (w.setCells b o vs)
  | [], _, _ => ⟨rfl, rfl, rfl, rfl, fun _ _ => rfl⟩
  | v :: r, o, w => by
    have h1 := Bh.Else.set b o w v
    have h2 := else_setCells b r (o + 1) (w.setCell ⟨b, o, none⟩ v)
    exact ⟨h2.os.trans h1.os, h2.tape.trans h1.tape, h2.output.trans h1.output, h2.size.trans h1.size, fun k hk => (h2.block k hk).trans (h1.block k hk)⟩
/-- a whole struct stored into block g -/
theorem store_g {P : Program} {ops : Array Oper} {rest : List Oper} {o : Oper} {a : Go.Act} {w : World} {Q : Exit → Go.Act → World → Prop} (n : Nat) {g : Nat} {t : TypeId} {old : Array Value} (hg : w.heap[g]? = some (.cells old t))
    {ty : TypeId} {x y : Operand} {cells : Array Value} (hgd : o.guard = none) (ho : o.op = .store ty x y)
    (hx : a.eval x = .pointer (some ⟨g, 0, none⟩)) (hy : a.eval y = .agg cells) (hn : old.size = n) (hi : (P.info? ty).map (·.size) = some n) (hc : cells.size = n) (h1 : cells.toList.all (·.oneCell') = true)
    (h : ∀ w', w'.heap[g]? = some (.cells cells t) → Bh.Else g w w' → wpList P ops Q rest (a.put o.dst undef) w') : wpList P ops Q (o :: rest) a w :=
  wpList_store_row hgd ty x y ho _ cells hx hy t old hg (hi.trans (by rw [hc])) (by rw [hn, hc]) (by rw [← h1, Array.all_toList]) (h _ (setRow_heap _ _ _ _ _ _ hg) (Bh.Else.row _ _ _))
/-- a struct stored into the middle of block g -/
theorem store_gm {P : Program} {ops : Array Oper} {rest : List Oper} {o : Oper} {a : Go.Act} {w : World} {Q : Exit → Go.Act → World → Prop} {g off : Nat} {t : TypeId} {old : Array Value} (hg : w.heap[g]? = some (.cells old t))
    {ty : TypeId} {x y : Operand} {cells new : Array Value} (hgd : o.guard = none) (ho : o.op = .store ty x y)
    (hx : a.eval x = .pointer (some ⟨g, off, none⟩)) (hy : a.eval y = .agg cells) (hs : decide (off + cells.size ≤ old.size) = true) (hi : (P.info? ty).map (·.size) = some cells.size) (h1 : cells.toList.all (·.oneCell') = true) (hnew : splice old off cells.toList = new)
    (h : ∀ w', w'.heap[g]? = some (.cells new t) → Bh.Else g w w' → wpList P ops Q rest (a.put o.dst undef) w') : wpList P ops Q (o :: rest) a w := by
  subst hnew
  have hs := of_decide_eq_true hs
  refine wpList_store_mid hgd ty x y ho g off cells hx hy (fun j hj => ⟨?_, Bh.frozen_of hg _⟩) hi (by rw [← h1, Array.all_toList]) (h _ (heap_setCells _ _ _ _ hg) (else_setCells _ _ _ _))
  have : off + j < old.size := by omega
  simp [World.cell?, hg, this]
/-- a whole struct loaded out of block g -/
theorem load_g {P : Program} {ops : Array Oper} {rest : List Oper} {o : Oper} {a : Go.Act} {w : World} {Q : Exit → Go.Act → World → Prop} {g : Nat} {t : TypeId} {cs : Array Value} (hg : w.heap[g]? = some (.cells cs t)) {ty : TypeId} {d : TypeDesc} (hu : P.underlying ty = some d)
    {x : Operand} (hgd : o.guard = none) (ho : o.op = .load ty x) (hx : a.eval x = .pointer (some ⟨g, 0, none⟩))
    (hd : (match d with | .struct _ | .array _ _ => true | _ => false) = true) (hi : (P.info? ty).map (·.size) = some cs.size)
    (h : wpList P ops Q rest (a.put o.dst (.agg cs)) w) : wpList P ops Q (o :: rest) a w :=
  wpList_load_row hgd ty x ho _ hx t cs (0, 0) d hg hu hd hi h
/-- one cell stored into block g -/
theorem store_g1 {P : Program} {ops : Array Oper} {rest : List Oper} {o : Oper} {a : Go.Act} {w : World} {Q : Exit → Go.Act → World → Prop} {g off : Nat} {t : TypeId} {old : Array Value} (hg : w.heap[g]? = some (.cells old t))
    {ty : TypeId} {x y : Operand} {v : Value} {new : Array Value} (hgd : o.guard = none) (ho : o.op = .store ty x y)
    (hx : a.eval x = .pointer (some ⟨g, off, none⟩)) (hy : a.eval y = v) (hs : decide (off < old.size) = true) (hone : v.oneCell' = true) (hi : (P.info? ty).map (·.size) = some 1) (hnew : old.setIfInBounds off v = new)
    (h : ∀ w', w'.heap[g]? = some (.cells new t) → Bh.Else g w w' → wpList P ops Q rest (a.put o.dst undef) w') : wpList P ops Q (o :: rest) a w := by
  subst hnew
  have hs := of_decide_eq_true hs
  have hc : v.cells = #[v] := by cases v <;> first | rfl | cases hone
  have e : (storeVar ty ⟨g, off, none⟩ v).run P w = .ok () (w.setCell ⟨g, off, none⟩ v) := by
    have h2 : storeVar ty ⟨g, off, none⟩ v = storeVar ty ⟨g, off, none⟩ (.agg #[v]) := by
      unfold storeVar
      rw [hc]
      rfl
    rw [h2, run_storeVar_mid w g off ty #[v] (fun k hk => by
      obtain rfl : k = 0 := by simp at hk; omega
      refine ⟨?_, Bh.frozen_of hg _⟩
      simp [World.cell?, hg, hs]) (by simpa using hi) (by simp [hone])]
    rfl
  refine wpList_plain hgd fun _ hK => ?_
  unfold Oper.wp execOp
  simp only [ho, hx, hy, Instr.storeAt, Instr.sureAddr, Sem.run_bind, Sem.run_pure, Result.andThen_ok, e]
  exact hK _ _ (h _ (Bh.heap_set v hg) (Bh.Else.set _ _ _ _))
/-- a reader, and the block of a result -/
structure Fr1 (w : World) (rb br bs : Nat) (r : List Nat) (gr : Nat) (R : Obj) (W : World) : Prop where
  rs : Rs W rb br bs r
  kept : Kept (Only br) w W
  lrb : rb < w.heap.size
  lbr : br < w.heap.size
  lbs : r ≠ [] → bs < w.heap.size
  box : W.heap[gr]? = some R
  lo : w.heap.size ≤ gr
/-- a reader, the block of a result, and another one -/
structure Fr2 (w : World) (rb br bs : Nat) (r : List Nat) (gr : Nat) (R : Obj) (gx : Nat) (X : Obj) (W : World) : Prop extends Fr1 w rb br bs r gr R W where
  xbox : W.heap[gx]? = some X
  xlo : w.heap.size ≤ gx
  ne : gx ≠ gr
variable {w W W' : World} {rb br bs gr gx : Nat} {l r r' : List Nat} {R X R' X' : Obj}
theorem Fr1.start (h : Rs w rb br bs l) (R : Obj) : Fr1 w rb br bs l w.heap.size R (w.alloc R) :=
  ⟨h.on (below_alloc _ _), (Kept.refl _ _).alloc _, h.lt.1, h.lt.2, fun hl => RAt.lt2 h.rd hl, alloc_here _ rfl, Nat.le_refl _⟩
theorem Fr1.call (h : Fr1 w rb br bs r gr R W) (hs : Rs W' rb br bs r') (hk : Kept (Only br) W W') (hl : r'.length ≤ r.length) : Fr1 w rb br bs r' gr R W' :=
  ⟨hs, h.kept.trans hk, h.lrb, h.lbr, fun hr => h.lbs (fun e => hr (List.eq_nil_of_length_eq_zero (by rw [e] at hl; simpa using hl))), keptO hk h.box (by have := h.lo; have := h.lbr; omega), h.lo⟩
theorem Rs.els {g : Nat} (h : Rs W rb br bs r) (x : Bh.Else g W W') (h1 : rb ≠ g) (h2 : br ≠ g) (h3 : r ≠ [] → bs ≠ g) : Rs W' rb br bs r :=
  ⟨(x.block rb h1).trans h.box, h.rd.kept (else_kept x) h2 h3, h.ne, h.len, h.nes⟩
theorem Fr1.els {g : Nat} (h : Fr1 w rb br bs r gr R W) (hg : w.heap.size ≤ g) (hx : W'.heap[gr]? = some R') (x : Bh.Else g W W') : Fr1 w rb br bs r gr R' W' :=
  ⟨h.rs.els x (by have := h.lrb; omega) (by have := h.lbr; omega) (fun hr => by have := h.lbs hr; omega), h.kept.trans' (else_kept x) (fun k hk => .inr (by cases hk; exact hg)), h.lrb, h.lbr, h.lbs, hx, h.lo⟩
theorem Fr1.set (h : Fr1 w rb br bs r gr R W) (hx : W'.heap[gr]? = some R') (x : Bh.Else gr W W') : Fr1 w rb br bs r gr R' W' := h.els h.lo hx x
theorem Fr1.more (h : Fr1 w rb br bs r gr R W) (X : Obj) : Fr2 w rb br bs r gr R W.heap.size X (W.alloc X) :=
  { rs := h.rs.on (below_alloc _ _), kept := h.kept.alloc _, lrb := h.lrb, lbr := h.lbr, lbs := h.lbs, box := old_alloc _ h.box, lo := h.lo, xbox := alloc_here _ rfl, xlo := h.kept.size, ne := by have := heap_lt h.box; omega }
theorem Fr2.callx (h : Fr2 w rb br bs r gr R gx X W) (hs : Rs W' rb br bs r') (hk : Kept (Only br) W W') (hl : r'.length ≤ r.length) : Fr2 w rb br bs r' gr R gx X W' :=
  { h.toFr1.call hs hk hl with xbox := keptO hk h.xbox (by have := h.xlo; have := h.lbr; omega), xlo := h.xlo, ne := h.ne }
theorem Fr2.setX (h : Fr2 w rb br bs r gr R gx X W) (hx : W'.heap[gx]? = some X') (x : Bh.Else gx W W') : Fr2 w rb br bs r gr R gx X' W' :=
  { h.toFr1.els h.xlo ((x.block gr (fun e => h.ne e.symm)).trans h.box) x with xbox := hx, xlo := h.xlo, ne := h.ne }
theorem Fr2.setR (h : Fr2 w rb br bs r gr R gx X W) (hx : W'.heap[gr]? = some R') (x : Bh.Else gr W W') : Fr2 w rb br bs r gr R' gx X W' :=
  { h.toFr1.els h.lo hx x with xbox := (x.block gx h.ne).trans h.xbox, xlo := h.xlo, ne := h.ne }
end Go.Proofs.YtaengjgmchpabaaGreat.Wr
end
