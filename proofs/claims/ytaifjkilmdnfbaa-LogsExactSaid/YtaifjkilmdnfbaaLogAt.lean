/- Entries and logs in memory. No program's function. -/
import Derived.Test.YtaifjkilmdnfbaaLogMath
import Derived.Test.YtaifjkilmdnfbaaCallAt
import Derived.Test.YtaifjkilmdnfbaaKeepB
import Derived.Test.YtaifjkilmdnfbaaLiG
import Derived.Test.YtaifjkilmdnfbaaBx
namespace Go.Proofs.Ytaifjkilmdnfbaa.Lg
open Go Go.RowKit Vl Kv Ss Cn Mem Li

@[reducible] def E.agg (x : E) : Value := .agg #[.int .i64 x.term, .int .i64 x.kind, .int .i64 x.call.client, .int .i64 x.call.seq, .int .i64 x.call.cmd.kind, .string x.call.cmd.key, .int .i64 x.call.cmd.old.kind, .float .f64 x.call.cmd.old.num, .string x.call.cmd.old.text, .int .i64 x.call.cmd.val.kind, .float .f64 x.call.cmd.val.num, .string x.call.cmd.val.text, .int .i64 x.conf.f, .int .i64 x.conf.w, .int .i64 x.conf.l, .int .i64 x.conf.x]
def E.cells (x : E) : List Value := [.int .i64 x.term, .int .i64 x.kind, .int .i64 x.call.client, .int .i64 x.call.seq, .int .i64 x.call.cmd.kind, .string x.call.cmd.key, .int .i64 x.call.cmd.old.kind, .float .f64 x.call.cmd.old.num, .string x.call.cmd.old.text, .int .i64 x.call.cmd.val.kind, .float .f64 x.call.cmd.val.num, .string x.call.cmd.val.text, .int .i64 x.conf.f, .int .i64 x.conf.w, .int .i64 x.conf.l, .int .i64 x.conf.x]
def E.obj (x : E) : Obj := .cells #[.int .i64 x.term, .int .i64 x.kind, .int .i64 x.call.client, .int .i64 x.call.seq, .int .i64 x.call.cmd.kind, .string x.call.cmd.key, .int .i64 x.call.cmd.old.kind, .float .f64 x.call.cmd.old.num, .string x.call.cmd.old.text, .int .i64 x.call.cmd.val.kind, .float .f64 x.call.cmd.val.num, .string x.call.cmd.val.text, .int .i64 x.conf.f, .int .i64 x.conf.w, .int .i64 x.conf.l, .int .i64 x.conf.x] 40
def C.obj (c : C) : Obj := .cells #[.int .i64 c.f, .int .i64 c.w, .int .i64 c.l, .int .i64 c.x] 23
instance : Row E where
  k := 16
  cells := E.cells
  pos := by decide
  len := fun _ => rfl
  one := fun x u hu => by
    simp only [E.cells, List.mem_cons, List.not_mem_nil, or_false] at hu
    rcases hu with rfl | rfl | rfl | rfl | rfl | rfl | rfl | rfl | rfl | rfl | rfl | rfl | rfl | rfl | rfl | rfl <;> rfl
/-- where a log's parts lie -/
structure Hp where
  sb : Nat
  sa : Option Addr
  sc : Nat
  lb : Nat
  la : Option Addr
  lc : Nat
@[reducible] def H.val (h : H) (p : Hp) : Value := .agg #[.int .i64 h.term, .int .i64 h.vote, .int .i64 h.base, .int .i64 h.bterm, .int .i64 h.conf.f, .int .i64 h.conf.w, .int .i64 h.conf.l, .int .i64 h.conf.x, .slice p.sa h.snap.length p.sc, .slice p.la h.log.length p.lc]
def H.obj (h : H) (p : Hp) : Obj := .cells #[.int .i64 h.term, .int .i64 h.vote, .int .i64 h.base, .int .i64 h.bterm, .int .i64 h.conf.f, .int .i64 h.conf.w, .int .i64 h.conf.l, .int .i64 h.conf.x, .slice p.sa h.snap.length p.sc, .slice p.la h.log.length p.lc] 27
def Hp.none : Hp := ⟨0, Option.none, 0, 0, Option.none, 0⟩
@[reducible] def EntAt (w : World) (a : Option Addr) (cap : Nat) (L : List E) : Prop := ListAt w a cap L
/-- a log that may be read -/
structure HardAt (w : World) (h : H) (p : Hp) : Prop where
  snap : Src w p.sb p.sa p.sc h.snap
  log : EntAt w p.la p.lc h.log
theorem HardAt.on {w w' : World} {h : H} {p : Hp} (x : HardAt w h p) (hb : Below w.heap.size w w') : HardAt w' h p :=
  ⟨x.snap.kept (Kept.of_below hb) (fun _ h => h), x.log.below hb⟩
theorem HardAt.none (w : World) : HardAt w H.zero Hp.none := ⟨.inl ⟨Nat.le_refl _, by decide, .inl ⟨rfl, rfl, rfl⟩⟩, ListAt.empty w⟩
theorem else_kept {b : Nat} {w w' : World} (h : Bh.Else b w w') : Kept (Mem.Only b) w w' := ⟨h.os, h.tape, h.output, Nat.le_of_eq h.size.symm, fun k _ hk => h.block k hk⟩
theorem ownB_else {e : TypeId} {w w' : World} {b g : Nat} {a : Option Addr} {cap : Nat} {l : List Nat} (h : OwnB e w b a cap l) (x : Bh.Else g w w') (hg : g < b) : OwnB e w' b a cap l :=
  h.kept (else_kept x) (fun _ hb => by have hb : b = g := hb; omega)
theorem ownL_else {e : TypeId} {w w' : World} {b g : Nat} {a : Option Addr} {cap : Nat} {L : List E} (h : OwnL e w b a cap L) (x : Bh.Else g w w') (hg : g < b) : OwnL e w' b a cap L :=
  OwnC.kept h (else_kept x) (fun _ hb => by have hb : b = g := hb; omega)
theorem else_beh {b : Nat} {w0 w w' : World} (h : Kv.Beh w0 w) (x : Bh.Else b w w') (hb : w0.heap.size ≤ b) : Kv.Beh w0 w' :=
  Below.trans h (⟨x.os, x.tape, x.output, Nat.le_of_eq x.size.symm, fun k hk => x.block k (by omega)⟩ : Below w0.heap.size w w')
/-- bytes of a call's own, behind so many blocks -/
structure OwnS (lo : Nat) (w : World) (b : Nat) (a : Option Addr) (cap : Nat) (l : List Nat) : Prop where
  own : OwnB 5 w b a cap l
  new : lo ≤ b
theorem OwnS.on {lo : Nat} {w w' : World} {b : Nat} {a : Option Addr} {cap : Nat} {l : List Nat} (h : OwnS lo w b a cap l) (hb : Below w.heap.size w w') : OwnS lo w' b a cap l := ⟨h.own.kept (Kept.of_below hb) (fun _ h => h), h.new⟩
theorem OwnS.els {lo : Nat} {w w' : World} {b g : Nat} {a : Option Addr} {cap : Nat} {l : List Nat} (h : OwnS lo w b a cap l) (x : Bh.Else g w w') (hg : g < lo) : OwnS lo w' b a cap l := ⟨ownB_else h.own x (by have := h.new; omega), h.new⟩
theorem OwnS.of {lo : Nat} {w w' : World} {e : Ending} {l : List Nat} (h : Kp.NewB l w e w') (hl : lo ≤ w.heap.size) : ∃ b a cap, e = .returned (.slice a l.length cap) ∧ OwnS lo w' b a cap l ∧ Below w.heap.size w w' := by
  obtain ⟨b, a, cap, h1, h2, h3, h4, _⟩ := h
  exact ⟨b, a, cap, h1, ⟨h2, by omega⟩, h4.below (Nat.le_refl _) (fun _ h => h.elim)⟩
/-- entries of a call's own, behind so many blocks -/
structure OwnN (lo : Nat) (w : World) (b : Nat) (a : Option Addr) (cap : Nat) (L : List E) : Prop where
  own : OwnL 40 w b a cap L
  new : lo ≤ b
theorem OwnN.on {lo : Nat} {w w' : World} {b : Nat} {a : Option Addr} {cap : Nat} {L : List E} (h : OwnN lo w b a cap L) (hb : Below w.heap.size w w') : OwnN lo w' b a cap L := ⟨OwnL.kept h.own hb, h.new⟩
theorem OwnN.els {lo : Nat} {w w' : World} {b g : Nat} {a : Option Addr} {cap : Nat} {L : List E} (h : OwnN lo w b a cap L) (x : Bh.Else g w w') (hg : g < lo) : OwnN lo w' b a cap L := ⟨ownL_else h.own x (by have := h.new; omega), h.new⟩
theorem OwnN.of {lo : Nat} {w w' : World} {b : Nat} {a : Option Addr} {cap : Nat} {L : List E} (h : Made 40 w w' b a cap L) (hl : lo ≤ w.heap.size) : OwnN lo w' b a cap L := ⟨h.own, Nat.le_trans hl h.new⟩
theorem OwnS.none {lo : Nat} {w : World} : OwnS lo w lo Option.none 0 [] := ⟨OwnB.nil _ _ _, Nat.le_refl _⟩
theorem OwnN.none {lo : Nat} {w : World} : OwnN lo w lo Option.none 0 [] := ⟨OwnC.nil _ _ _ _, Nat.le_refl _⟩
/-- a log that a call has made: its parts are its own -/
structure MadeH (w w' : World) (h : H) (p : Hp) : Prop where
  snap : OwnB 5 w' p.sb p.sa p.sc h.snap
  snew : w.heap.size ≤ p.sb
  log : OwnL 40 w' p.lb p.la p.lc h.log
  lnew : w.heap.size ≤ p.lb
  beh : Kv.Beh w w'
theorem MadeH.at_ {w w' : World} {h : H} {p : Hp} (m : MadeH w w' h p) : HardAt w' h p := ⟨m.snap.src, OwnL.list m.log⟩
theorem MadeH.on {w w1 w' : World} {h : H} {p : Hp} (m : MadeH w w1 h p) (hb : Below w1.heap.size w1 w') : MadeH w w' h p :=
  ⟨m.snap.kept (Kept.of_below hb) (fun _ h => h), m.snew, OwnL.kept m.log hb, m.lnew, m.beh.on hb⟩
theorem MadeH.from {w0 w w' : World} {h : H} {p : Hp} (hb : Kv.Beh w0 w) (m : MadeH w w' h p) : MadeH w0 w' h p :=
  ⟨m.snap, Nat.le_trans hb.size m.snew, m.log, Nat.le_trans hb.size m.lnew, hb.trans m.beh⟩
/-- the parts of a log that is zero, in a call -/
def Hp.zero (w : World) : Hp := ⟨w.heap.size, Option.none, 0, w.heap.size, Option.none, 0⟩
theorem MadeH.zero {w w' : World} (hb : Kv.Beh w w') : MadeH w w' H.zero (Hp.zero w) := ⟨OwnB.nil _ _ _, Nat.le_refl _, OwnC.nil _ _ _ _, Nat.le_refl _, hb⟩
theorem Src.empty (w : World) (b : Nat) : Src w b Option.none 0 [] := .inl ⟨Nat.le_refl _, by decide, .inl ⟨rfl, rfl, rfl⟩⟩
theorem cells10 {w : World} {b : Nat} {x0 x1 x2 x3 x4 x5 x6 x7 x8 x9 : Value} {t : TypeId} (h : w.heap[b]? = some (.cells #[x0, x1, x2, x3, x4, x5, x6, x7, x8, x9] t)) :
    w.cell? ⟨b, 0, none⟩ = some x0 ∧ w.cell? ⟨b, 1, none⟩ = some x1 ∧ w.cell? ⟨b, 2, none⟩ = some x2 ∧ w.cell? ⟨b, 3, none⟩ = some x3 ∧ w.cell? ⟨b, 4, none⟩ = some x4 ∧ w.cell? ⟨b, 5, none⟩ = some x5 ∧ w.cell? ⟨b, 6, none⟩ = some x6 ∧ w.cell? ⟨b, 7, none⟩ = some x7 ∧ w.cell? ⟨b, 8, none⟩ = some x8 ∧ w.cell? ⟨b, 9, none⟩ = some x9 := by
  refine ⟨?_, ?_, ?_, ?_, ?_, ?_, ?_, ?_, ?_, ?_⟩ <;> simp [World.cell?, h]
theorem cells16 {w : World} {b : Nat} {x0 x1 x2 x3 x4 x5 x6 x7 x8 x9 y0 y1 y2 y3 y4 y5 : Value} {t : TypeId} (h : w.heap[b]? = some (.cells #[x0, x1, x2, x3, x4, x5, x6, x7, x8, x9, y0, y1, y2, y3, y4, y5] t)) :
    w.cell? ⟨b, 0, none⟩ = some x0 ∧ w.cell? ⟨b, 1, none⟩ = some x1 ∧ w.cell? ⟨b, 2, none⟩ = some x2 ∧ w.cell? ⟨b, 3, none⟩ = some x3 ∧ w.cell? ⟨b, 4, none⟩ = some x4 ∧ w.cell? ⟨b, 5, none⟩ = some x5 ∧ w.cell? ⟨b, 6, none⟩ = some x6 ∧ w.cell? ⟨b, 7, none⟩ = some x7 ∧ w.cell? ⟨b, 8, none⟩ = some x8 ∧ w.cell? ⟨b, 9, none⟩ = some x9 ∧
    w.cell? ⟨b, 10, none⟩ = some y0 ∧ w.cell? ⟨b, 11, none⟩ = some y1 ∧ w.cell? ⟨b, 12, none⟩ = some y2 ∧ w.cell? ⟨b, 13, none⟩ = some y3 ∧ w.cell? ⟨b, 14, none⟩ = some y4 ∧ w.cell? ⟨b, 15, none⟩ = some y5 := by
  refine ⟨?_, ?_, ?_, ?_, ?_, ?_, ?_, ?_, ?_, ?_, ?_, ?_, ?_, ?_, ?_, ?_⟩ <;> simp [World.cell?, h]
theorem cells10h {w : World} {b : Nat} {h : H} {p : Hp} (x : w.heap[b]? = some (h.obj p)) :
    w.cell? ⟨b, 0, none⟩ = some (.int .i64 h.term) ∧ w.cell? ⟨b, 1, none⟩ = some (.int .i64 h.vote) ∧ w.cell? ⟨b, 2, none⟩ = some (.int .i64 h.base) ∧ w.cell? ⟨b, 3, none⟩ = some (.int .i64 h.bterm) ∧ w.cell? ⟨b, 4, none⟩ = some (.int .i64 h.conf.f) ∧ w.cell? ⟨b, 5, none⟩ = some (.int .i64 h.conf.w) ∧ w.cell? ⟨b, 6, none⟩ = some (.int .i64 h.conf.l) ∧ w.cell? ⟨b, 7, none⟩ = some (.int .i64 h.conf.x) ∧ w.cell? ⟨b, 8, none⟩ = some (.slice p.sa h.snap.length p.sc) ∧ w.cell? ⟨b, 9, none⟩ = some (.slice p.la h.log.length p.lc) := cells10 x
theorem frozen_e {w : World} {b : Nat} {x : E} (h : w.heap[b]? = some x.obj) : ∀ j, w.frozen? ⟨b, j, none⟩ = false := fun j => frozen_of h j
theorem frozen_h {w : World} {b : Nat} {h : H} {p : Hp} (x : w.heap[b]? = some (h.obj p)) : ∀ j, w.frozen? ⟨b, j, none⟩ = false := fun j => frozen_of x j
/-- the cells of an entry of a list -/
structure E.Cells (w : World) (b o : Nat) (x : E) : Prop where
  c0 : w.cell? ⟨b, o, none⟩ = some (.int .i64 x.term)
  c1 : w.cell? ⟨b, o + 1, none⟩ = some (.int .i64 x.kind)
  c2 : w.cell? ⟨b, o + 2, none⟩ = some (.int .i64 x.call.client)
  c3 : w.cell? ⟨b, o + 3, none⟩ = some (.int .i64 x.call.seq)
  c4 : w.cell? ⟨b, o + 4, none⟩ = some (.int .i64 x.call.cmd.kind)
  c5 : w.cell? ⟨b, o + 5, none⟩ = some (.string x.call.cmd.key)
  c6 : w.cell? ⟨b, o + 6, none⟩ = some (.int .i64 x.call.cmd.old.kind)
  c7 : w.cell? ⟨b, o + 7, none⟩ = some (.float .f64 x.call.cmd.old.num)
  c8 : w.cell? ⟨b, o + 8, none⟩ = some (.string x.call.cmd.old.text)
  c9 : w.cell? ⟨b, o + 9, none⟩ = some (.int .i64 x.call.cmd.val.kind)
  c10 : w.cell? ⟨b, o + 10, none⟩ = some (.float .f64 x.call.cmd.val.num)
  c11 : w.cell? ⟨b, o + 11, none⟩ = some (.string x.call.cmd.val.text)
  c12 : w.cell? ⟨b, o + 12, none⟩ = some (.int .i64 x.conf.f)
  c13 : w.cell? ⟨b, o + 13, none⟩ = some (.int .i64 x.conf.w)
  c14 : w.cell? ⟨b, o + 14, none⟩ = some (.int .i64 x.conf.l)
  c15 : w.cell? ⟨b, o + 15, none⟩ = some (.int .i64 x.conf.x)
theorem cells_of {w : World} {b o : Nat} {x : E} (h : At w b o x) : E.Cells w b o x :=
  ⟨h 0 _ rfl, h 1 _ rfl, h 2 _ rfl, h 3 _ rfl, h 4 _ rfl, h 5 _ rfl, h 6 _ rfl, h 7 _ rfl, h 8 _ rfl, h 9 _ rfl, h 10 _ rfl, h 11 _ rfl, h 12 _ rfl, h 13 _ rfl, h 14 _ rfl, h 15 _ rfl⟩
theorem EntAt.cells {w : World} {a : Option Addr} {cap : Nat} {L : List E} (h : EntAt w a cap L) (h0 : 0 < L.length) : ∃ b off, a = some ⟨b, off, none⟩ ∧ ∀ i, i < L.length → E.Cells w b (off + i * 16) (L.getD i E.zero) := by
  obtain ⟨b, off, ha, hc⟩ := h.at_ h0
  refine ⟨b, off, ha, fun i hi => ?_⟩
  have : L.getD i E.zero = L[i] := by simp [hi]
  rw [this]
  exact cells_of (hc i hi)
theorem cells16e {w : World} {b : Nat} {x : E} (h : w.heap[b]? = some x.obj) :
    w.cell? ⟨b, 0, none⟩ = some (.int .i64 x.term) ∧ w.cell? ⟨b, 1, none⟩ = some (.int .i64 x.kind) ∧ w.cell? ⟨b, 2, none⟩ = some (.int .i64 x.call.client) ∧ w.cell? ⟨b, 3, none⟩ = some (.int .i64 x.call.seq) ∧ w.cell? ⟨b, 4, none⟩ = some (.int .i64 x.call.cmd.kind) ∧ w.cell? ⟨b, 5, none⟩ = some (.string x.call.cmd.key) ∧ w.cell? ⟨b, 6, none⟩ = some (.int .i64 x.call.cmd.old.kind) ∧ w.cell? ⟨b, 7, none⟩ = some (.float .f64 x.call.cmd.old.num) ∧ w.cell? ⟨b, 8, none⟩ = some (.string x.call.cmd.old.text) ∧ w.cell? ⟨b, 9, none⟩ = some (.int .i64 x.call.cmd.val.kind) ∧ w.cell? ⟨b, 10, none⟩ = some (.float .f64 x.call.cmd.val.num) ∧ w.cell? ⟨b, 11, none⟩ = some (.string x.call.cmd.val.text) ∧ w.cell? ⟨b, 12, none⟩ = some (.int .i64 x.conf.f) ∧ w.cell? ⟨b, 13, none⟩ = some (.int .i64 x.conf.w) ∧ w.cell? ⟨b, 14, none⟩ = some (.int .i64 x.conf.l) ∧ w.cell? ⟨b, 15, none⟩ = some (.int .i64 x.conf.x) := cells16 h
theorem zero_agg : E.zero.agg = .agg #[.int .i64 0, .int .i64 0, .int .i64 0, .int .i64 0, .int .i64 0, .string ⟨#[]⟩, .int .i64 0, .float .f64 0, .string ⟨#[]⟩, .int .i64 0, .float .f64 0, .string ⟨#[]⟩, .int .i64 0, .int .i64 0, .int .i64 0, .int .i64 0] := rfl
theorem zero_obj : E.zero.obj = .cells #[.int .i64 0, .int .i64 0, .int .i64 0, .int .i64 0, .int .i64 0, .string ⟨#[]⟩, .int .i64 0, .float .f64 0, .string ⟨#[]⟩, .int .i64 0, .float .f64 0, .string ⟨#[]⟩, .int .i64 0, .int .i64 0, .int .i64 0, .int .i64 0] 40 := rfl
theorem infoEnt : (Try.prog.info? 40).map (fun i => (i.zero, i.size, i.bytes)) = some (some E.zero.agg, 16, 152) := by kernel_rfl
end Go.Proofs.Ytaifjkilmdnfbaa.Lg
