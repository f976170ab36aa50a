/- Sessions and machines in memory: read, appended to. No program's function. -/
import Derived.Test.YtlgmjkbaihpmmaaGreatSessMath
import Derived.Test.YtlgmjkbaihpmmaaGreatOwnC
import Derived.Test.YtlgmjkbaihpmmaaGreatBeh
import Derived.WideShapes
namespace Go.Proofs.YtlgmjkbaihpmmaaGreat.Ss
open Go Go.RowKit Vl Kv Mem

def Se.cells (s : Se) : List Value := [.int .i64 s.client, .int .i64 s.seq, .int .i64 s.code, .int .i64 s.val.kind, .float .f64 s.val.num, .string s.val.text]
@[reducible] def Se.agg (s : Se) : Value := .agg #[.int .i64 s.client, .int .i64 s.seq, .int .i64 s.code, .int .i64 s.val.kind, .float .f64 s.val.num, .string s.val.text]
def Se.obj (s : Se) : Obj := .cells #[.int .i64 s.client, .int .i64 s.seq, .int .i64 s.code, .int .i64 s.val.kind, .float .f64 s.val.num, .string s.val.text] 54
@[reducible] def Cl.agg (c : Cl) : Value := .agg #[.int .i64 c.client, .int .i64 c.seq, .int .i64 c.cmd.kind, .string c.cmd.key, .int .i64 c.cmd.old.kind, .float .f64 c.cmd.old.num, .string c.cmd.old.text, .int .i64 c.cmd.val.kind, .float .f64 c.cmd.val.num, .string c.cmd.val.text]
def Cl.obj (c : Cl) : Obj := .cells #[.int .i64 c.client, .int .i64 c.seq, .int .i64 c.cmd.kind, .string c.cmd.key, .int .i64 c.cmd.old.kind, .float .f64 c.cmd.old.num, .string c.cmd.old.text, .int .i64 c.cmd.val.kind, .float .f64 c.cmd.val.num, .string c.cmd.val.text] 84
def flatS (L : List Se) : List Value := L.flatMap Se.cells
theorem flatS_nil : flatS [] = [] := rfl
theorem flatS_append (L M : List Se) : flatS (L ++ M) = flatS L ++ flatS M := by unfold flatS; rw [List.flatMap_append]
theorem flatS_length (L : List Se) : (flatS L).length = L.length * 6 := by
  induction L with
  | nil => rfl
  | cons p r ih =>
    show (p.cells ++ flatS r).length = _
    rw [List.length_append, ih, List.length_cons]
    show 6 + _ = _
    omega
theorem flatS_at (L : List Se) : ∀ i j, i < L.length → j < 6 → (flatS L)[i * 6 + j]? = (L.getD i Se.zero).cells[j]? := by
  induction L with
  | nil => intro i j hi; simp at hi
  | cons p r ih =>
    intro i j hi hj
    show (p.cells ++ flatS r)[i * 6 + j]? = _
    have hl : p.cells.length = 6 := rfl
    cases i with
    | zero => rw [Nat.zero_mul, Nat.zero_add, List.getElem?_append_left (by omega)]; rfl
    | succ i =>
      rw [List.getElem?_append_right (by omega), hl, show (i + 1) * 6 + j - 6 = i * 6 + j by omega, ih i j (by simpa using hi) hj]
      rfl
theorem flatS_one {L : List Se} : ∀ u ∈ flatS L, u.oneCell' = true := by
  intro u hu
  obtain ⟨p, _, h⟩ := List.mem_flatMap.1 hu
  simp only [Se.cells, List.mem_cons, List.not_mem_nil, or_false] at h
  rcases h with rfl | rfl | rfl | rfl | rfl | rfl <;> rfl
/-- the cells of a pair at an address -/
def Se.at_ (w : World) (b o : Nat) (p : Se) : Prop :=
  w.cell? ⟨b, o, none⟩ = some (.int .i64 p.client) ∧ w.cell? ⟨b, o + 1, none⟩ = some (.int .i64 p.seq) ∧ w.cell? ⟨b, o + 2, none⟩ = some (.int .i64 p.code) ∧ w.cell? ⟨b, o + 3, none⟩ = some (.int .i64 p.val.kind) ∧ w.cell? ⟨b, o + 4, none⟩ = some (.float .f64 p.val.num) ∧ w.cell? ⟨b, o + 5, none⟩ = some (.string p.val.text)
structure SessAt (w : World) (a : Option Addr) (cap : Nat) (L : List Se) : Prop where
  len : L.length ≤ cap
  max : cap ≤ 9223372036854775807
  nil : a = none → cap = 0
  at_ : 0 < L.length → ∃ b off, a = some ⟨b, off, none⟩ ∧ ∀ i, i < L.length → (L.getD i Se.zero).at_ w b (off + i * 6)
theorem Se.at_.below {w w' : World} {p : Se} {b o : Nat} (h : p.at_ w b o) (hk : Below w.heap.size w w') : p.at_ w' b o := by
  have g : ∀ j v, w.cell? ⟨b, j, none⟩ = some v → w'.cell? ⟨b, j, none⟩ = some v := fun j v hc => (World.cell?_of_block (w := w) (hk.block b (World.block_lt_of_cell? w _ hc))).trans hc
  exact ⟨g _ _ h.1, g _ _ h.2.1, g _ _ h.2.2.1, g _ _ h.2.2.2.1, g _ _ h.2.2.2.2.1, g _ _ h.2.2.2.2.2⟩
theorem SessAt.below {w w' : World} {a : Option Addr} {cap : Nat} {L : List Se} (h : SessAt w a cap L) (hk : Below w.heap.size w w') : SessAt w' a cap L := by
  refine ⟨h.len, h.max, h.nil, fun h0 => ?_⟩
  obtain ⟨b, off, ha, hc⟩ := h.at_ h0
  exact ⟨b, off, ha, fun i hi => (hc i hi).below hk⟩
theorem SessAt.alloc {w : World} {a : Option Addr} {cap : Nat} {L : List Se} (h : SessAt w a cap L) (o : Obj) : SessAt (w.alloc o) a cap L := h.below (below_alloc _ _)
theorem SessAt.empty (w : World) : SessAt w none 0 [] := ⟨Nat.le_refl _, by omega, fun _ => rfl, fun h => by simp at h⟩
theorem SessAt.bare {w : World} {cap : Nat} {L : List Se} (h : SessAt w none cap L) : L = [] ∧ cap = 0 := by
  have := h.nil rfl
  have := h.len
  exact ⟨List.eq_nil_of_length_eq_zero (by omega), by omega⟩
theorem SessAt.src {w : World} {a : Option Addr} {cap : Nat} {L : List Se} (h : SessAt w a cap L) : SrcC 6 w a cap L.length (flatS L) := by
  refine ⟨flatS_length L, fun ha => ⟨by have := h.nil ha; have := h.len; omega, h.nil ha⟩, fun ad ha j u hu => ?_⟩
  obtain ⟨hj, _⟩ := List.getElem?_eq_some_iff.1 hu
  rw [flatS_length] at hj
  obtain ⟨b, off, ha2, hc⟩ := h.at_ (by omega)
  rw [ha] at ha2
  injection ha2 with ha2
  subst ha2
  have hadd : (⟨b, off, Option.none⟩ : Addr).add j = ⟨b, off + j, Option.none⟩ := by unfold Addr.add; split <;> simp_all
  rw [hadd]
  have hd : j = j / 6 * 6 + j % 6 := by omega
  have hi : j / 6 < L.length := by omega
  have h4 : j % 6 < 6 := Nat.mod_lt _ (by decide)
  have hcc := hc (j / 6) hi
  rw [hd, flatS_at L (j / 6) (j % 6) hi h4] at hu
  have e : off + j = off + j / 6 * 6 + j % 6 := by omega
  rw [e]
  generalize j % 6 = q at *
  generalize L.getD (j / 6) Se.zero = p at *
  match q, h4 with
  | 0, _ => simp [Se.cells] at hu; subst hu; exact hcc.1
  | 1, _ => simp [Se.cells] at hu; subst hu; exact hcc.2.1
  | 2, _ => simp [Se.cells] at hu; subst hu; exact hcc.2.2.1
  | 3, _ => simp [Se.cells] at hu; subst hu; exact hcc.2.2.2.1
  | 4, _ => simp [Se.cells] at hu; subst hu; exact hcc.2.2.2.2.1
  | 5, _ => simp [Se.cells] at hu; subst hu; exact hcc.2.2.2.2.2
/-- pairs that the call has made itself -/
@[reducible] def OwnS (e : TypeId) (w : World) (b : Nat) (a : Option Addr) (cap : Nat) (L : List Se) : Prop := OwnC e 6 w b a cap L.length (flatS L)
theorem OwnS.sess {e : TypeId} {w : World} {b : Nat} {a : Option Addr} {cap : Nat} {L : List Se} (h : OwnS e w b a cap L) : SessAt w a cap L := by
  have hl := flatS_length L
  refine ⟨?_, ?_, fun ha => ?_, fun h0 => ?_⟩
  · rcases h.2 with ⟨_, h1, h2⟩ | ⟨_, h1, _⟩ <;> omega
  · rcases h.2 with ⟨_, h1, h2⟩ | ⟨_, _, h1, _⟩
    · omega
    · unfold maxLen at h1; omega
  · rcases h.2 with ⟨_, h1, h2⟩ | ⟨h1, _⟩
    · exact h1
    · rw [h1] at ha; cases ha
  · have hf := (h.cell (j := 0) (by omega)).1
    refine ⟨b, 0, hf, fun i hi => ?_⟩
    have g : ∀ j, j < 6 → w.cell? ⟨b, 0 + i * 6 + j, Option.none⟩ = (L.getD i Se.zero).cells[j]? := fun j hj => by
      have hlt : i * 6 + j < (flatS L).length := by omega
      have := (h.cell hlt).2.1
      rw [Nat.zero_add, this, ← List.getElem?_eq_getElem hlt, flatS_at L i j hi hj]
    exact ⟨g 0 (by decide), g 1 (by decide), g 2 (by decide), g 3 (by decide), g 4 (by decide), g 5 (by decide)⟩
theorem getD_ltS {L : List Se} {i : Nat} (h : i < L.length) : L.getD i Se.zero = L[i] := by simp [h]
theorem getD_memS {L : List Se} {i : Nat} (h : i < L.length) : L.getD i Se.zero ∈ L := by rw [getD_ltS h]; exact List.getElem_mem h
/-- one pair more -/
theorem take_nextS {L : List Se} {i : Nat} (h : i < L.length) : L.take (i + 1) = L.take i ++ [L.getD i Se.zero] := by rw [List.take_succ_eq_append_getElem h, getD_ltS h]
/-- a part of pairs -/
theorem SessAt.take {w : World} {a : Option Addr} {cap : Nat} {L : List Se} (h : SessAt w a cap L) {n : Nat} (hn : n ≤ L.length) : SessAt w a cap (L.take n) := by
  refine ⟨by rw [List.length_take]; have := h.len; omega, h.max, h.nil, fun h0 => ?_⟩
  rw [List.length_take] at h0
  obtain ⟨b, off, ha, hc⟩ := h.at_ (by omega)
  refine ⟨b, off, ha, fun i hi => ?_⟩
  rw [List.length_take] at hi
  have := hc i (by omega)
  rw [getD_ltS (by omega)] at this
  rw [getD_ltS (by rw [List.length_take]; omega), List.getElem_take]
  exact this
theorem SessAt.drop {w : World} {ad : Addr} {cap : Nat} {L : List Se} (h : SessAt w (some ad) cap L) {n : Nat} (hn : n ≤ L.length) : SessAt w (some (ad.add (n * 6))) (cap - n) (L.drop n) := by
  refine ⟨by rw [List.length_drop]; have := h.len; omega, by have := h.max; omega, fun e => (by cases e), fun h0 => ?_⟩
  rw [List.length_drop] at h0
  obtain ⟨b, off, ha, hc⟩ := h.at_ (by omega)
  injection ha with ha
  subst ha
  refine ⟨b, off + n * 6, by rw [Go.WideShapes.add_plain], fun i hi => ?_⟩
  rw [List.length_drop] at hi
  have := hc (n + i) (by omega)
  rw [getD_ltS (by omega)] at this
  rw [getD_ltS (by rw [List.length_drop]; omega), List.getElem_drop]
  rw [show off + n * 6 + i * 6 = off + (n + i) * 6 by omega]
  exact this
/-! ### a machine: two slices by value -/
structure Ms where
  a : Option Addr
  cap : Nat
  a2 : Option Addr
  cap2 : Nat
@[reducible] def Ms.agg (s : Ms) (m : Ma) : Value := .agg #[.slice s.a m.pairs.length s.cap, .slice s.a2 m.sess.length s.cap2]
def Ms.obj (s : Ms) (m : Ma) : Obj := .cells #[.slice s.a m.pairs.length s.cap, .slice s.a2 m.sess.length s.cap2] 25
def Ms.zero : Ms := ⟨none, 0, none, 0⟩
structure MaAt (w : World) (s : Ms) (m : Ma) : Prop where
  pairs : PairsAt w s.a s.cap m.pairs
  sess : SessAt w s.a2 s.cap2 m.sess
theorem MaAt.on {w w' : World} {s : Ms} {m : Ma} (h : MaAt w s m) (hb : Beh w w') : MaAt w' s m := ⟨h.pairs.below hb, h.sess.below hb⟩
theorem MaAt.zero (w : World) : MaAt w Ms.zero Ma.zero := ⟨PairsAt.empty _, SessAt.empty _⟩
theorem cells6 {w : World} {b : Nat} {x0 x1 x2 x3 x4 x5 : Value} {t : TypeId} (h : w.heap[b]? = some (.cells #[x0, x1, x2, x3, x4, x5] t)) :
    w.cell? ⟨b, 0, none⟩ = some x0 ∧ w.cell? ⟨b, 1, none⟩ = some x1 ∧ w.cell? ⟨b, 2, none⟩ = some x2 ∧ w.cell? ⟨b, 3, none⟩ = some x3 ∧ w.cell? ⟨b, 4, none⟩ = some x4 ∧ w.cell? ⟨b, 5, none⟩ = some x5 := by
  refine ⟨?_, ?_, ?_, ?_, ?_, ?_⟩ <;> simp [World.cell?, h]
theorem cells2 {w : World} {b : Nat} {x0 x1 : Value} {t : TypeId} (h : w.heap[b]? = some (.cells #[x0, x1] t)) : w.cell? ⟨b, 0, none⟩ = some x0 ∧ w.cell? ⟨b, 1, none⟩ = some x1 := by
  refine ⟨?_, ?_⟩ <;> simp [World.cell?, h]
theorem cells10 {w : World} {b : Nat} {x0 x1 x2 x3 x4 x5 x6 x7 x8 x9 : Value} {t : TypeId} (h : w.heap[b]? = some (.cells #[x0, x1, x2, x3, x4, x5, x6, x7, x8, x9] t)) :
    w.cell? ⟨b, 0, none⟩ = some x0 ∧ w.cell? ⟨b, 1, none⟩ = some x1 ∧ w.cell? ⟨b, 2, none⟩ = some x2 ∧ w.cell? ⟨b, 3, none⟩ = some x3 ∧ w.cell? ⟨b, 4, none⟩ = some x4 ∧ w.cell? ⟨b, 5, none⟩ = some x5 ∧ w.cell? ⟨b, 6, none⟩ = some x6 ∧ w.cell? ⟨b, 7, none⟩ = some x7 ∧ w.cell? ⟨b, 8, none⟩ = some x8 ∧ w.cell? ⟨b, 9, none⟩ = some x9 := by
  refine ⟨?_, ?_, ?_, ?_, ?_, ?_, ?_, ?_, ?_, ?_⟩ <;> simp [World.cell?, h]
end Go.Proofs.YtlgmjkbaihpmmaaGreat.Ss
