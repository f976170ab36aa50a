import Derived.Test.YtjdebdfbjcpjgaaMergeWr11
import Derived.Deep.RegionHeld3
import Derived.Test.YtjdebdfbjcpjgaaWireR8
import Derived.Test.YtjdebdfbjcpjgaaMergeWr20
import Derived.Deep.RegionLaw
section
/- A region that draws its order, walked by hand: loads out of blocks of the call's own are taken first, allocs and stores of whole structs are steps with worlds of their own. For any program. -/
namespace Go.Proofs.Ytjdebdfbjcpjgaa.Bh
open Go Go.RowKit
theorem want_all {o : Oper} {y : Nat → Option Bool} (h : o.guard = none) : Region.wanted o y = true := by simp [Region.wanted, h]
/-- a load of a whole struct out of the block i -/
theorem yif_load_bx {P : Program} {ops : Array Oper} {S : World → Prop} {o : Oper} {a : Go.Act} {w0 : World} {l : List Obj} (i : Nat) (hS : ∀ w, S w → Bx w0 l w) {ty : TypeId} {d : TypeDesc} (hu : P.underlying ty = some d) {t : TypeId} {cs : Array Value} (hl : l[i]? = some (.cells cs t))
    {x : Operand} (hgd : o.guard = none) (ho : o.op = .load ty x) (hx : a.eval x = .pointer (some ⟨w0.heap.size + i, 0, none⟩))
    (hd : (match d with | .struct _ | .array _ _ => true | _ => false) = true) (hi : (P.info? ty).map (·.size) = some cs.size) : YieldsIf P ops S o (.agg cs) a :=
  .inl ⟨want_all hgd, fun w hw => by
    unfold execOp
    simp only [ho, hx, Instr.loadAt, Instr.sureAddr, Sem.run_bind, Sem.run_pure, Result.andThen_ok, run_loadVar_row w _ t ty cs (0, 0) d ((hS w hw).box i _ hl) hu hd hi]⟩
/-- a whole struct stored into the block i -/
theorem step_store_bx {P : Program} {y0 : Nat → Option Bool} {o : Oper} {a : Go.Act} {w0 w : World} {l : List Obj} {K : Go.Act → World → Prop} {Q : Exit → Go.Act → World → Prop} {E : Prop} (n i : Nat) (HB : Bx w0 l w) {t : TypeId} {old : Array Value} (hl : l[i]? = some (.cells old t))
    {ty : TypeId} {x y : Operand} {cells : Array Value} (hgd : o.guard = none) (ho : o.op = .store ty x y)
    (hx : a.eval x = .pointer (some ⟨w0.heap.size + i, 0, none⟩)) (hy : a.eval y = .agg cells) (hn : old.size = n) (hi : (P.info? ty).map (·.size) = some n) (hc : cells.size = n) (h1 : cells.toList.all (·.oneCell') = true)
    (h : ∀ w', Bx w0 (l.set i (.cells cells t)) w' → Else (w0.heap.size + i) w w' → K (a.put o.dst undef) w') : if Region.wanted o y0 = true then Oper.wp P o a w K Q else E := by
  rw [if_pos (want_all hgd)]
  exact wp_store_row ty x y ho _ cells hx hy t old (HB.box i _ hl) (hi.trans (by rw [hc])) (by rw [hn, hc]) (by rw [← h1, Array.all_toList]) (h _ (HB.row i rfl hl cells) (Else.row _ _ _))
/-- a new block -/
theorem step_alloc_bx {P : Program} {y0 : Nat → Option Bool} {o : Oper} {a : Go.Act} {w : World} {K : Go.Act → World → Prop} {Q : Exit → Go.Act → World → Prop} {E : Prop} (hgd : o.guard = none) (ob : Obj)
    (hrun : (execOp a.eval o).run P w = .ok (.value (.pointer (some ⟨w.heap.size, 0, none⟩))) (w.alloc ob))
    (h : ∀ w', Bx w [ob] w' → K (a.put o.dst (.pointer (some ⟨w.heap.size, 0, none⟩))) w') : if Region.wanted o y0 = true then Oper.wp P o a w K Q else E := by
  rw [if_pos (want_all hgd)]
  unfold Oper.wp
  rw [hrun, Oper.upon_value]
  exact h _ (Bx.one w ob)
theorem Bx.els {w0 w w' : World} {l : List Obj} {g : Nat} (h : Bx w0 l w) (x : Else g w w') (hg : w0.heap.size + l.length ≤ g) : Bx w0 l w' :=
  ⟨Below.trans h.beh (⟨x.os, x.tape, x.output, Nat.le_of_eq x.size.symm, fun k hk => x.block k (by omega)⟩ : Below w0.heap.size w w'), fun i o ho => by
    have hlt : i < l.length := (List.getElem?_eq_some_iff.1 ho).1
    rw [x.block _ (by omega)]
    exact h.box i o ho⟩
end Go.Proofs.Ytjdebdfbjcpjgaa.Bh
end
section
/- More for a region walked by hand: loads out of one block, of a call's first block alone. For any program. -/
namespace Go.Proofs.Ytjdebdfbjcpjgaa.Bh
open Go Go.RowKit
/-- a load of a whole struct out of a block -/
theorem yif_load_at {P : Program} {ops : Array Oper} {S : World → Prop} {o : Oper} {a : Go.Act} {g : Nat} {t : TypeId} {cs : Array Value} (hS : ∀ w, S w → w.heap[g]? = some (.cells cs t)) {ty : TypeId} {d : TypeDesc} (hu : P.underlying ty = some d)
    {x : Operand} (hgd : o.guard = none) (ho : o.op = .load ty x) (hx : a.eval x = .pointer (some ⟨g, 0, none⟩))
    (hd : (match d with | .struct _ | .array _ _ => true | _ => false) = true) (hi : (P.info? ty).map (·.size) = some cs.size) : YieldsIf P ops S o (.agg cs) a :=
  .inl ⟨want_all hgd, fun w hw => by
    unfold execOp
    simp only [ho, hx, Instr.loadAt, Instr.sureAddr, Sem.run_bind, Sem.run_pure, Result.andThen_ok, run_loadVar_row w _ t ty cs (0, 0) d (hS w hw) hu hd hi]⟩
/-- the first block of a call's own -/
theorem Bx.head {w W : World} {o : Obj} {l : List Obj} (h : Bx w (o :: l) W) : Bx w [o] W := ⟨h.beh, fun i x hx => by
  match i, hx with
  | 0, hx => exact h.box 0 x hx⟩
/-- one cell of a block stored -/
theorem step_store1_bk {P : Program} {y0 : Nat → Option Bool} {o : Oper} {a : Go.Act} {w0 w : World} {l : List Obj} {K : Go.Act → World → Prop} {Q : Exit → Go.Act → World → Prop} {E : Prop} (i j : Nat) (HB : Bx w0 l w) {t : TypeId} {old : Array Value} (hl : l[i]? = some (.cells old t)) (hj : decide (j < old.size) = true)
    {ty : TypeId} {x y : Operand} {v : Value} (hgd : o.guard = none) (ho : o.op = .store ty x y)
    (hx : a.eval x = .pointer (some ⟨w0.heap.size + i, j, none⟩)) (hy : a.eval y = v) (hone : v.oneCell' = true) (hi : (P.info? ty).map (·.size) = some 1)
    (h : ∀ w', Bx w0 (l.set i (.cells (old.setIfInBounds j v) t)) w' → Else (w0.heap.size + i) w w' → K (a.put o.dst undef) w') : if Region.wanted o y0 = true then Oper.wp P o a w K Q else E := by
  rw [if_pos (want_all hgd)]
  have hc : v.cells = #[v] := by cases v <;> first | rfl | cases hone
  have hb := HB.box i _ hl
  have hjj := of_decide_eq_true hj
  have e : (storeVar ty ⟨w0.heap.size + i, j, none⟩ v).run P w = .ok () (w.setCell ⟨w0.heap.size + i, j, none⟩ v) := by
    have h2 : storeVar ty ⟨w0.heap.size + i, j, none⟩ v = storeVar ty ⟨w0.heap.size + i, j, none⟩ (.agg #[v]) := by
      unfold storeVar
      rw [hc]
      rfl
    rw [h2, run_storeVar_mid w (w0.heap.size + i) j ty #[v] (fun k hk => by
      obtain rfl : k = 0 := by simp at hk; omega
      refine ⟨?_, frozen_of hb _⟩
      rw [cell_of_row w _ _ _ _ _ hb]
      simp [hjj]) (by simpa using hi) (by simp [hone])]
    rfl
  unfold Oper.wp execOp
  simp only [ho, hx, hy, Instr.storeAt, Instr.sureAddr, Sem.run_bind, Sem.run_pure, Result.andThen_ok, e]
  exact h _ (HB.set1 i j v hl) (Else.set _ _ _ _)
end Go.Proofs.Ytjdebdfbjcpjgaa.Bh
end
section
/- The landed reader of package wire: message. -/
namespace Go.Proofs.Ytjdebdfbjcpjgaa.Wr
open Go Go.RowKit Vl Kv Ss Cn Mem Lg Nm
attribute [local go_sem] Nm.run_bits Nm.run_frombits run_store_float
variable {w w' : World} {rb br bs : Nat} {l : List Nat}
/-- a message's parts are a call's own, in blocks of N -/
structure FlOwn (N : Nat → Prop) (W : World) (x : Mr) : Prop where
  ents : ∃ eb, Li.OwnL 32 W eb x.2.ea x.2.ec x.1.ents ∧ (x.2.ea ≠ none → N eb)
  snap : OwnB 5 W x.2.sb x.2.sa x.2.sc x.1.snap
  snew : x.2.sa ≠ none → N x.2.sb
theorem FlOwn.kept {N S : Nat → Prop} {W W' : World} {x : Mr} (h : FlOwn N W x) (hk : Kept S W W') (hS : ∀ k, N k → ¬ S k) : FlOwn N W' x := by
  obtain ⟨eb, h1, h2⟩ := h.ents
  exact ⟨⟨eb, OwnC.kept h1 hk (fun ha => hS _ (h2 ha)), h2⟩, h.snap.kept hk (fun ha => hS _ (h.snew ha)), h.snew⟩
theorem FlOwn.mono {N M : Nat → Prop} {W : World} {x : Mr} (h : FlOwn N W x) (hM : ∀ k, N k → M k) : FlOwn M W x := by
  obtain ⟨eb, h1, h2⟩ := h.ents
  exact ⟨⟨eb, h1, fun ha => hM _ (h2 ha)⟩, h.snap, fun ha => hM _ (h.snew ha)⟩
theorem FlOwn.flat {N : Nat → Prop} {W : World} {x : Mr} (h : FlOwn N W x) : FlAt W x := by
  obtain ⟨eb, h1, h2⟩ := h.ents
  exact ⟨Li.OwnL.list h1, h.snap.src⟩
/-- other places of the inner ones: the parts are the same -/
theorem FlOwn.with {N : Nat → Prop} {W : World} {f : Fl} {p : Mp} (h : FlOwn N W (f, p)) (ia : Option Addr) (n ic : Nat) : FlOwn N W (f, { p with ia := ia, n := n, ic := ic }) := ⟨h.ents, h.snap, h.snew⟩
/-- a message that a call has made, with its inner ones -/
structure OwnM (N : Nat → Prop) (W : World) (x : Mr) (LM : List Mr) : Prop where
  self : FlOwn N W x
  all : ∀ y ∈ LM, FlOwn N W y
  zero : ∀ y ∈ LM, y.2.n = 0
  len : LM.length = x.2.n
  list : ∃ b, Li.OwnL 61 W b x.2.ia x.2.ic LM ∧ (x.2.ia ≠ none → N b)
theorem OwnM.kept {N S : Nat → Prop} {W W' : World} {x : Mr} {LM : List Mr} (h : OwnM N W x LM) (hk : Kept S W W') (hS : ∀ k, N k → ¬ S k) : OwnM N W' x LM := by
  obtain ⟨b, h1, h2⟩ := h.list
  exact ⟨h.self.kept hk hS, fun y hy => (h.all y hy).kept hk hS, h.zero, h.len, ⟨b, OwnC.kept h1 hk (fun ha => hS _ (h2 ha)), h2⟩⟩
theorem OwnM.mono {N M : Nat → Prop} {W : World} {x : Mr} {LM : List Mr} (h : OwnM N W x LM) (hM : ∀ k, N k → M k) : OwnM M W x LM := by
  obtain ⟨b, h1, h2⟩ := h.list
  exact ⟨h.self.mono hM, fun y hy => (h.all y hy).mono hM, h.zero, h.len, ⟨b, h1, fun ha => hM _ (h2 ha)⟩⟩
/-- what message leaves -/
def Mgot (most : Int) (rb br bs : Nat) (l : List Nat) (w : World) (x : Ending) (w' : World) : Prop :=
  Kept (Only br) w w' ∧ match (cHead.seq (cLi cInner most)).rd l with
    | some ((f, L), r) => (∃ (p : Mp) (LM : List Mr), x = .returned (Mr.val (f, p)) ∧ LM.map Prod.fst = L ∧ OwnM (fun k => w.heap.size ≤ k) w' (f, p) LM) ∧ Rs w' rb br bs r
    | none => x = .panicked thr
theorem Mgot.some {most : Int} {f : Fl} {L : List Fl} {r : List Nat} {x : Ending} (hx : Mgot most rb br bs l w x w') (hd : (cHead.seq (cLi cInner most)).rd l = some ((f, L), r)) : (∃ (p : Mp) (LM : List Mr), x = .returned (Mr.val (f, p)) ∧ LM.map Prod.fst = L ∧ OwnM (fun k => w.heap.size ≤ k) w' (f, p) LM) ∧ Rs w' rb br bs r ∧ Kept (Only br) w w' := by
  unfold Mgot at hx; rw [hd] at hx; exact ⟨hx.2.1, hx.2.2, hx.1⟩
theorem Mgot.none {most : Int} {x : Ending} (hx : Mgot most rb br bs l w x w') (hd : (cHead.seq (cLi cInner most)).rd l = none) : x = .panicked thr ∧ Kept (Only br) w w' := by
  unfold Mgot at hx; rw [hd] at hx; exact ⟨hx.2, hx.1⟩
theorem Mgot.no {most : Int} (hd : (cHead.seq (cLi cInner most)).rd l = Option.none) (hk : Kept (Only br) w w') : Mgot most rb br bs l w (.panicked thr) w' := by
  unfold Mgot; rw [hd]; exact ⟨hk, rfl⟩
/-- what an inner message leaves -/
def Igot (rb br bs : Nat) (l : List Nat) (w : World) (x : Ending) (w' : World) : Prop :=
  Kept (Only br) w w' ∧ match cInner.rd l with
    | some (f, r) => (∃ p : Mp, x = .returned (Mr.val (f, p)) ∧ p.n = 0 ∧ FlOwn (fun k => w.heap.size ≤ k) w' (f, p)) ∧ Rs w' rb br bs r
    | none => x = .panicked thr
theorem Igot.some {f : Fl} {r : List Nat} {x : Ending} (hx : Igot rb br bs l w x w') (hd : cInner.rd l = some (f, r)) : (∃ p : Mp, x = .returned (Mr.val (f, p)) ∧ p.n = 0 ∧ FlOwn (fun k => w.heap.size ≤ k) w' (f, p)) ∧ Rs w' rb br bs r ∧ Kept (Only br) w w' := by
  unfold Igot at hx; rw [hd] at hx; exact ⟨hx.2.1, hx.2.2, hx.1⟩
theorem Igot.none {x : Ending} (hx : Igot rb br bs l w x w') (hd : cInner.rd l = none) : x = .panicked thr ∧ Kept (Only br) w w' := by
  unfold Igot at hx; rw [hd] at hx; exact ⟨hx.2, hx.1⟩
/-- blocks behind g, of the world W, but not the block of a slice -/
def Nb (g : Nat) (W : World) (a : Option Addr) (b : Nat) : Nat → Prop := fun k => g < k ∧ k < W.heap.size ∧ ¬ Of a b k
/-- a message that is being read, its head read -/
structure Rm (w : World) (rb br bs : Nat) (q0 : List Nat) (gr : Nat) (R : Obj) (gx : Nat) (f : Fl) (p : Mp) (q : List Nat) (LM : List Mr) (b : Nat) (a : Option Addr) (cap : Nat) (W : World) : Prop where
  fr : Fr2 w rb br bs q gr R gx (Mr.obj (f, { p with ia := a, n := LM.length, ic := cap })) W
  got : (cInner.rep LM.length).rd q0 = some (LM.map Prod.fst, q)
  own : Li.OwnL 61 W b a cap LM
  hi : gx < b
  self : FlOwn (Nb gx W a b) W (f, p)
  all : ∀ y ∈ LM, FlOwn (Nb gx W a b) W y
  zero : ∀ y ∈ LM, y.2.n = 0
theorem Rm.start {w W : World} {rb br bs gr gx : Nat} {q0 : List Nat} {R : Obj} {f : Fl} {p : Mp} (h : Fr2 w rb br bs q0 gr R gx (Mr.obj (f, { p with ia := none, n := 0, ic := 0 })) W) (hT : Pc gx W p.sb p.sa p.sc f.snap) (hE : ∃ be, Pe gx W be p.ea p.ec f.ents) :
    Rm w rb br bs q0 gr R gx f p q0 [] (gx + 1) none 0 W := by
  obtain ⟨be, hE⟩ := hE
  exact ⟨h, rep_zero q0, OwnC.nil _ _ _ _, Nat.lt_succ_self _, ⟨⟨be, hE.own, fun ha => ⟨hE.hi, OwnC.lt hE.own ha, fun e => e.1 rfl⟩⟩, hT.own, fun ha => ⟨hT.hi, hT.own.lt ha, fun e => e.1 rfl⟩⟩, (fun y hy => by cases hy), (fun y hy => by cases hy)⟩
theorem FlOwn.bound {N : Nat → Prop} {W : World} {x : Mr} (h : FlOwn N W x) : FlOwn (fun k => N k ∧ k < W.heap.size) W x := by
  obtain ⟨eb, h1, h2⟩ := h.ents
  exact ⟨⟨eb, h1, fun ha => ⟨h2 ha, OwnC.lt h1 ha⟩⟩, h.snap, fun ha => ⟨h.snew ha, h.snap.lt ha⟩⟩
theorem Fr2.kp {w W W' : World} {rb br bs gr gx : Nat} {r : List Nat} {R X : Obj} {S : Nat → Prop} (h : Fr2 w rb br bs r gr R gx X W) (hk : Kept S W W') (hS : ∀ k, S k → w.heap.size ≤ k ∧ k ≠ gr ∧ k ≠ gx) : Fr2 w rb br bs r gr R gx X W' :=
  { rs := ⟨hk.heap h.rs.box (fun e => by have := (hS _ e).1; have := h.lrb; omega), h.rs.rd.kept hk (fun e => by have := (hS _ e).1; have := h.lbr; omega) (fun hr e => by have := (hS _ e).1; have := h.lbs hr; omega), h.rs.ne, h.rs.len, h.rs.nes⟩,
    kept := h.kept.trans' hk (fun k e => .inr (hS k e).1), lrb := h.lrb, lbr := h.lbr, lbs := h.lbs, box := hk.heap h.box (fun e => (hS _ e).2.1 rfl), lo := h.lo, xbox := hk.heap h.xbox (fun e => (hS _ e).2.2 rfl), xlo := h.xlo, ne := h.ne }
theorem Rm.step {w W wd w1 W2 w3 w4 : World} {rb br bs gr gx b b' cap cap' : Nat} {a a' : Option Addr} {q0 q q2 : List Nat} {R : Obj} {f y : Fl} {p py : Mp} {LM : List Mr} (h : Rm w rb br bs q0 gr R gx f p q LM b a cap W) (hgr : gr < gx) (hd0 : Beh W wd)
    (hs : Rs w1 rb br bs q2) (hk : Kept (Only br) wd w1) (hle : q2.length ≤ q.length) (hrd : cInner.rd q = some (y, q2)) (hy : FlOwn (fun k => wd.heap.size ≤ k) w1 (y, py)) (hz : py.n = 0) (hb2 : Beh w1 W2)
    (h2 : OwnC 61 16 w3 b' a' cap' (LM.length + 1) (Li.flat LM ++ Li.flat [((y, py) : Mr)])) (h3 : Kept (Of a b) W2 w3) (h4 : (b' = b ∧ (a' = none ∨ a ≠ none)) ∨ W2.heap.size ≤ b')
    (hx : w4.heap[gx]? = some (Mr.obj (f, { p with ia := a', n := LM.length + 1, ic := cap' }))) (he : Bh.Else gx w3 w4) :
    Rm w rb br bs q0 gr R gx f p q2 (LM ++ [(y, py)]) b' a' cap' w4 := by
  have z1 := hd0.size
  have z2 := hk.size
  have z3 := hb2.size
  have z4 := h3.size
  have z5 := he.size
  have hbr := h.fr.lbr
  have hxlo := h.fr.xlo
  have hgx : gx < W.heap.size := heap_lt h.fr.xbox
  have hhi := h.hi
  have hk1 : Kept (Only br) W w1 := (kept_beh hd0).ofNone.trans hk
  have hk3 : Kept (Of a b) w1 w3 := (kept_beh hb2).ofNone.trans h3
  have hbl : ∀ k, Of a b k → k = b ∧ b < W.heap.size := fun k e => ⟨e.2, OwnC.lt h.own e.1⟩
  have f1 := h.fr.callx hs hk1 hle
  have f3 := f1.kp hk3 (fun k e => by have := (hbl k e).1; exact ⟨by omega, by omega, by omega⟩)
  have hb' : gx < b' := by
    rcases h4 with ⟨rfl, _⟩ | h4
    · exact hhi
    · omega
  have old : ∀ x : Mr, FlOwn (Nb gx W a b) W x → FlOwn (Nb gx w4 a' b') w4 x := fun x hx => by
    have x1 := hx.kept hk1 (fun k e e2 => by have := e.1; have e2 : k = br := e2; omega)
    have x3 := x1.kept hk3 (fun k e e2 => e.2.2 e2)
    have x4 := x3.kept (else_kept he) (fun k e e2 => by have := e.1; have e2 : k = gx := e2; omega)
    refine x4.mono fun k e => ⟨e.1, by have := e.2.1; omega, fun e2 => ?_⟩
    rcases h4 with ⟨hbb, h5⟩ | h4
    · exact e.2.2 ⟨h5.resolve_left e2.1, by rw [e2.2, hbb]⟩
    · have := e2.2; have := e.2.1; omega
  have new : FlOwn (Nb gx w4 a' b') w4 (y, py) := by
    have x1 := hy.bound
    have x3 := x1.kept hk3 (fun k e e2 => by have := hbl k e2; have := e.1; omega)
    have x4 := x3.kept (else_kept he) (fun k e e2 => by have := e.1; have e2 : k = gx := e2; omega)
    refine x4.mono fun k e => ⟨by have := e.1; omega, by have := e.2; omega, fun e2 => ?_⟩
    rcases h4 with ⟨hbb, h5⟩ | h4
    · have := hbl k ⟨h5.resolve_left e2.1, by rw [e2.2, hbb]⟩
      have := e.1
      omega
    · have := e2.2; have := e.2; omega
  refine ⟨?_, ?_, ?_, hb', old _ h.self, fun z hz => ?_, fun z hz2 => ?_⟩
  · have := f3.setX hx he
    rw [List.length_append]
    exact this
  · rw [List.length_append, List.map_append]
    exact rep_snoc h.got hrd
  · show OwnC _ 16 w4 b' a' cap' (LM ++ [(y, py)]).length (Li.flat (LM ++ [(y, py)]))
    rw [List.length_append, Li.flat_append]
    exact OwnC.kept h2 (else_kept he) (fun _ e => by have e : b' = gx := e; omega)
  · rcases List.mem_append.1 hz with hz | hz
    · exact old _ (h.all z hz)
    · rw [List.mem_singleton] at hz; subst hz; exact new
  · rcases List.mem_append.1 hz2 with hz2 | hz2
    · exact h.zero z hz2
    · rw [List.mem_singleton] at hz2; subst hz2; exact hz
/-- one cell stored into block g, in a region that draws -/
theorem step_store_g1 {P : Program} {y0 : Nat → Option Bool} {o : Oper} {a : Go.Act} {w : World} {K : Go.Act → World → Prop} {Q : Exit → Go.Act → World → Prop} {E : Prop} {g off : Nat} {t : TypeId} {old : Array Value} (hg : w.heap[g]? = some (.cells old t))
    {ty : TypeId} {x y : Operand} {v : Value} {new : Array Value} (hgd : o.guard = none) (ho : o.op = .store ty x y)
    (hx : a.eval x = .pointer (some ⟨g, off, none⟩)) (hy : a.eval y = v) (hs : decide (off < old.size) = true) (hone : v.oneCell' = true) (hi : (P.info? ty).map (·.size) = some 1) (hnew : old.setIfInBounds off v = new)
    (h : ∀ w', w'.heap[g]? = some (.cells new t) → Bh.Else g w w' → K (a.put o.dst undef) w') : if Region.wanted o y0 = true then Oper.wp P o a w K Q else E := by
  rw [if_pos (Bh.want_all hgd)]
  subst hnew
  have hs := of_decide_eq_true hs
  have hc : v.cells = #[v] := by cases v <;> first | rfl | cases hone
  have e : (storeVar ty ⟨g, off, none⟩ v).run P w = .ok () (w.setCell ⟨g, off, none⟩ v) := by
    have h2 : storeVar ty ⟨g, off, none⟩ v = storeVar ty ⟨g, off, none⟩ (.agg #[v]) := by
      unfold storeVar
      rw [hc]
      rfl
    rw [h2, run_storeVar_mid w g off ty #[v] (fun k hk => by
      obtain rfl : k = 0 := by simp at hk; omega
      refine ⟨?_, Bh.frozen_of hg _⟩
      simp [World.cell?, hg, hs]) (by simpa using hi) (by simp [hone])]
    rfl
  unfold Oper.wp execOp
  simp only [ho, hx, hy, Instr.storeAt, Instr.sureAddr, Sem.run_bind, Sem.run_pure, Result.andThen_ok, e]
  exact h _ (Bh.heap_set v hg) (Bh.Else.set _ _ _ _)
theorem Bh.cell15 {w : World} {b : Nat} {x0 x1 x2 x3 x4 x5 x6 x7 x8 x9 y0 y1 y2 y3 y4 y5 : Value} {t : TypeId} (h : w.heap[b]? = some (.cells #[x0, x1, x2, x3, x4, x5, x6, x7, x8, x9, y0, y1, y2, y3, y4, y5] t)) : w.cell? ⟨b, 15, none⟩ = some y5 := by simp [World.cell?, h]
/-- a new block, in a region that draws -/
theorem step_alloc_b {P : Program} {y0 : Nat → Option Bool} {o : Oper} {a : Go.Act} {w : World} {v : Value} {K : Go.Act → World → Prop} {Q : Exit → Go.Act → World → Prop} {E : Prop} (hgd : o.guard = none) (ob : Obj)
    (hrun : (execOp a.eval o).run P w = .ok (.value v) (w.alloc ob))
    (h : ∀ w', Beh w w' → w'.heap[w.heap.size]? = some ob → K (a.put o.dst v) w') : if Region.wanted o y0 = true then Oper.wp P o a w K Q else E := by
  rw [if_pos (Bh.want_all hgd)]
  unfold Oper.wp
  rw [hrun, Oper.upon_value]
  exact h _ (below_alloc _ _) (alloc_here _ rfl)
theorem step_append_y {P : Program} {w : World} {y0 : Nat → Option Bool} {o : Oper} {a : Act} {K : Act → World → Prop} {Q : Exit → Act → World → Prop} {E : Prop} (hgd : o.guard = none) (s x : Operand) (t : TypeId)
    (ho : o.op = .call { callee := .builtin .append, args := #[s, x], argTypes := #[t, t] })
    (e : TypeId) (k : Nat) (i : TypeInfo) (z : Value) (by_ : Nat) (ht : P.underlying t = some (.slice e)) (hi : P.info? e = some i) (hz : i.zero = some z) (hsize : i.size = k) (hby : i.bytes = by_) (hzs : z.cells.size = k)
    (b : Nat) (ao : Option Addr) (cap n : Nat) (cs : List Value) (hs : a.eval s = .slice ao n cap) (own : OwnC e k w b ao cap n cs)
    (a2 : Option Addr) (cap2 m : Nat) (ds : List Value) (hx : a.eval x = .slice a2 m cap2) (hsh : SrcC k w a2 cap2 m ds) (h1c : ∀ u ∈ ds, u.oneCell' = true) (hle : (n + m) * by_ ≤ 70368744177664) (hle2 : n + m ≤ 70368744177664)
    (h : ∀ b' a' cap' w', OwnC e k w' b' a' cap' (n + m) (cs ++ ds) → Kept (Of ao b) w w' → ((b' = b ∧ (a' = none ∨ ao ≠ none)) ∨ w.heap.size ≤ b') → (a' = none ↔ ao = none ∧ m = 0) → K (a.put o.dst (.slice a' (n + m) cap')) w') :
    if Region.wanted o y0 = true then Oper.wp P o a w K Q else E := by
  rw [if_pos (Bh.want_all hgd)]
  exact wp_append_cells s x t ho e k i z by_ ht hi hz hsize hby hzs b ao cap n cs hs own a2 cap2 m ds hx hsh h1c hle hle2 h
end Go.Proofs.Ytjdebdfbjcpjgaa.Wr
end
