import Derived.Test.YtjdebdfbjcpjgaaMergeWr13
import Derived.Test.YtjdebdfbjcpjgaaMergeWr10
section
/- Cut out of LogAt so that every seat fills it. -/
namespace Go.Proofs.Ytjdebdfbjcpjgaa.Lg
open Go Go.RowKit Vl Kv Ss Cn Mem Li
def H.obj (h : H) (p : Hp) : Obj := .cells #[.int .i64 h.term, .int .i64 h.vote, .int .i64 h.base, .int .i64 h.bterm, .int .i64 h.conf.f, .int .i64 h.conf.w, .int .i64 h.conf.l, .int .i64 h.conf.x, .slice p.sa h.snap.length p.sc, .slice p.la h.log.length p.lc] 48
theorem cells10h {w : World} {b : Nat} {h : H} {p : Hp} (x : w.heap[b]? = some (h.obj p)) :
    w.cell? ⟨b, 0, none⟩ = some (.int .i64 h.term) ∧ w.cell? ⟨b, 1, none⟩ = some (.int .i64 h.vote) ∧ w.cell? ⟨b, 2, none⟩ = some (.int .i64 h.base) ∧ w.cell? ⟨b, 3, none⟩ = some (.int .i64 h.bterm) ∧ w.cell? ⟨b, 4, none⟩ = some (.int .i64 h.conf.f) ∧ w.cell? ⟨b, 5, none⟩ = some (.int .i64 h.conf.w) ∧ w.cell? ⟨b, 6, none⟩ = some (.int .i64 h.conf.l) ∧ w.cell? ⟨b, 7, none⟩ = some (.int .i64 h.conf.x) ∧ w.cell? ⟨b, 8, none⟩ = some (.slice p.sa h.snap.length p.sc) ∧ w.cell? ⟨b, 9, none⟩ = some (.slice p.la h.log.length p.lc) := cells10 x
theorem frozen_h {w : World} {b : Nat} {h : H} {p : Hp} (x : w.heap[b]? = some (h.obj p)) : ∀ j, w.frozen? ⟨b, j, none⟩ = false := fun j => frozen_of x j
end Go.Proofs.Ytjdebdfbjcpjgaa.Lg
end
section
/- Messages in memory. No program's function. -/
namespace Go.Proofs.Ytjdebdfbjcpjgaa.Wr
open Go Go.RowKit Vl Kv Ss Cn Mem Lg Li
/-- where a message's parts lie; n: how many inner ones it has -/
structure Mp where
  ea : Option Addr
  ec : Nat
  sb : Nat
  sa : Option Addr
  sc : Nat
  ia : Option Addr
  n : Nat
  ic : Nat
/-- a message as it lies in memory, but for its inner ones -/
abbrev Mr := Fl × Mp
def Fl.zero : Fl := ⟨0, 0, 0, 0, 0, 0, 0, 0, false, [], C.zero, []⟩
def Mp.none : Mp := ⟨Option.none, 0, 0, Option.none, 0, Option.none, 0, 0⟩
def Mr.zero : Mr := (Fl.zero, Mp.none)
instance : Inhabited Mr := ⟨Mr.zero⟩
@[reducible] def Mr.val (x : Mr) : Value := .agg #[.int .i64 x.1.kind, .int .i64 x.1.from_, .int .i64 x.1.to, .int .i64 x.1.term, .int .i64 x.1.index, .int .i64 x.1.logt, .int .i64 x.1.commit, .int .i64 x.1.round, .bool x.1.yes, .slice x.2.ea x.1.ents.length x.2.ec, .int .i64 x.1.conf.f, .int .i64 x.1.conf.w, .int .i64 x.1.conf.l, .int .i64 x.1.conf.x, .slice x.2.sa x.1.snap.length x.2.sc, .slice x.2.ia x.2.n x.2.ic]
def Mr.cells (x : Mr) : List Value := [.int .i64 x.1.kind, .int .i64 x.1.from_, .int .i64 x.1.to, .int .i64 x.1.term, .int .i64 x.1.index, .int .i64 x.1.logt, .int .i64 x.1.commit, .int .i64 x.1.round, .bool x.1.yes, .slice x.2.ea x.1.ents.length x.2.ec, .int .i64 x.1.conf.f, .int .i64 x.1.conf.w, .int .i64 x.1.conf.l, .int .i64 x.1.conf.x, .slice x.2.sa x.1.snap.length x.2.sc, .slice x.2.ia x.2.n x.2.ic]
def Mr.obj (x : Mr) : Obj := .cells #[.int .i64 x.1.kind, .int .i64 x.1.from_, .int .i64 x.1.to, .int .i64 x.1.term, .int .i64 x.1.index, .int .i64 x.1.logt, .int .i64 x.1.commit, .int .i64 x.1.round, .bool x.1.yes, .slice x.2.ea x.1.ents.length x.2.ec, .int .i64 x.1.conf.f, .int .i64 x.1.conf.w, .int .i64 x.1.conf.l, .int .i64 x.1.conf.x, .slice x.2.sa x.1.snap.length x.2.sc, .slice x.2.ia x.2.n x.2.ic] 61
instance : Row Mr where
  k := 16
  cells := Mr.cells
  pos := by decide
  len := fun _ => rfl
  one := fun x u hu => by
    simp only [Mr.cells, List.mem_cons, List.not_mem_nil, or_false] at hu
    rcases hu with rfl | rfl | rfl | rfl | rfl | rfl | rfl | rfl | rfl | rfl | rfl | rfl | rfl | rfl | rfl | rfl <;> rfl
/-- what it points to, but for the inner ones -/
structure FlAt (w : World) (x : Mr) : Prop where
  ents : EntAt w x.2.ea x.2.ec x.1.ents
  snap : Src w x.2.sb x.2.sa x.2.sc x.1.snap
theorem FlAt.on {w w' : World} {x : Mr} (h : FlAt w x) (hb : Below w.heap.size w w') : FlAt w' x := ⟨h.ents.below hb, h.snap.kept (Kept.of_below hb) (fun _ h => h)⟩
@[reducible] def MsgsAt (w : World) (a : Option Addr) (cap : Nat) (L : List Mr) : Prop := ListAt w a cap L
/-- the cells of a message of a list -/
structure MrCells (w : World) (b o : Nat) (x : Mr) : Prop where
  c0 : w.cell? ⟨b, o, none⟩ = some (.int .i64 x.1.kind)
  c1 : w.cell? ⟨b, o + 1, none⟩ = some (.int .i64 x.1.from_)
  c2 : w.cell? ⟨b, o + 2, none⟩ = some (.int .i64 x.1.to)
  c3 : w.cell? ⟨b, o + 3, none⟩ = some (.int .i64 x.1.term)
  c4 : w.cell? ⟨b, o + 4, none⟩ = some (.int .i64 x.1.index)
  c5 : w.cell? ⟨b, o + 5, none⟩ = some (.int .i64 x.1.logt)
  c6 : w.cell? ⟨b, o + 6, none⟩ = some (.int .i64 x.1.commit)
  c7 : w.cell? ⟨b, o + 7, none⟩ = some (.int .i64 x.1.round)
  c8 : w.cell? ⟨b, o + 8, none⟩ = some (.bool x.1.yes)
  c9 : w.cell? ⟨b, o + 9, none⟩ = some (.slice x.2.ea x.1.ents.length x.2.ec)
  c10 : w.cell? ⟨b, o + 10, none⟩ = some (.int .i64 x.1.conf.f)
  c11 : w.cell? ⟨b, o + 11, none⟩ = some (.int .i64 x.1.conf.w)
  c12 : w.cell? ⟨b, o + 12, none⟩ = some (.int .i64 x.1.conf.l)
  c13 : w.cell? ⟨b, o + 13, none⟩ = some (.int .i64 x.1.conf.x)
  c14 : w.cell? ⟨b, o + 14, none⟩ = some (.slice x.2.sa x.1.snap.length x.2.sc)
  c15 : w.cell? ⟨b, o + 15, none⟩ = some (.slice x.2.ia x.2.n x.2.ic)
theorem mcells_of {w : World} {b o : Nat} {x : Mr} (h : At w b o x) : MrCells w b o x :=
  ⟨h 0 _ rfl, h 1 _ rfl, h 2 _ rfl, h 3 _ rfl, h 4 _ rfl, h 5 _ rfl, h 6 _ rfl, h 7 _ rfl, h 8 _ rfl, h 9 _ rfl, h 10 _ rfl, h 11 _ rfl, h 12 _ rfl, h 13 _ rfl, h 14 _ rfl, h 15 _ rfl⟩
theorem MsgsAt.cells {w : World} {a : Option Addr} {cap : Nat} {L : List Mr} (h : MsgsAt w a cap L) (h0 : 0 < L.length) : ∃ b off, a = some ⟨b, off, none⟩ ∧ ∀ i, i < L.length → MrCells w b (off + i * 16) (L.getD i Mr.zero) := by
  obtain ⟨b, off, ha, hc⟩ := h.at_ h0
  refine ⟨b, off, ha, fun i hi => ?_⟩
  have : L.getD i Mr.zero = L[i] := by simp [hi]
  rw [this]
  exact mcells_of (hc i hi)
theorem cells16m {w : World} {b : Nat} {x : Mr} (h : w.heap[b]? = some x.obj) :
    w.cell? ⟨b, 0, none⟩ = some (.int .i64 x.1.kind) ∧ w.cell? ⟨b, 1, none⟩ = some (.int .i64 x.1.from_) ∧ w.cell? ⟨b, 2, none⟩ = some (.int .i64 x.1.to) ∧ w.cell? ⟨b, 3, none⟩ = some (.int .i64 x.1.term) ∧ w.cell? ⟨b, 4, none⟩ = some (.int .i64 x.1.index) ∧ w.cell? ⟨b, 5, none⟩ = some (.int .i64 x.1.logt) ∧ w.cell? ⟨b, 6, none⟩ = some (.int .i64 x.1.commit) ∧ w.cell? ⟨b, 7, none⟩ = some (.int .i64 x.1.round) ∧ w.cell? ⟨b, 8, none⟩ = some (.bool x.1.yes) ∧ w.cell? ⟨b, 9, none⟩ = some (.slice x.2.ea x.1.ents.length x.2.ec) ∧ w.cell? ⟨b, 10, none⟩ = some (.int .i64 x.1.conf.f) ∧ w.cell? ⟨b, 11, none⟩ = some (.int .i64 x.1.conf.w) ∧ w.cell? ⟨b, 12, none⟩ = some (.int .i64 x.1.conf.l) ∧ w.cell? ⟨b, 13, none⟩ = some (.int .i64 x.1.conf.x) ∧ w.cell? ⟨b, 14, none⟩ = some (.slice x.2.sa x.1.snap.length x.2.sc) ∧ w.cell? ⟨b, 15, none⟩ = some (.slice x.2.ia x.2.n x.2.ic) := Lg.cells16 h
/-- what a program holds of a message -/
structure FitR (f : Fl) : Prop where
  kind : In64 f.kind
  from_ : In64 f.from_
  to : In64 f.to
  term : In64 f.term
  index : In64 f.index
  logt : In64 f.logt
  commit : In64 f.commit
  round : In64 f.round
  ents : ∀ x ∈ f.ents, FitE x
  len : f.ents.length ≤ 1000
  conf : FitC f.conf
  b8 : B8 f.snap
  snap : f.snap.length ≤ 100000
theorem infoMsg : (Try.prog.info? 61).map (fun i => (i.zero, i.size, i.bytes)) = some (some Mr.zero.val, 16, 176) := by kernel_rfl
end Go.Proofs.Ytjdebdfbjcpjgaa.Wr
end
