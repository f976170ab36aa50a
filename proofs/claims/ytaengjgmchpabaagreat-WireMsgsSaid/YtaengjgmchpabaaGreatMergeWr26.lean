import Derived.Test.YtaengjgmchpabaaGreatWireSg
import Derived.Test.YtaengjgmchpabaaGreatMergeWr25
import Derived.Deep.RegionLaw
import Derived.Test.YtaengjgmchpabaaGreatMergeWr7
import Derived.Test.YtaengjgmchpabaaGreatMergeWr13
section
/- The landed reader of package wire: message. -/
namespace Go.Proofs.YtaengjgmchpabaaGreat.Wr
open Go Go.RowKit Vl Kv Ss Cn Mem Lg Nm
attribute [local go_sem] Nm.run_bits Nm.run_frombits run_store_float
variable {w w' : World} {rb br bs : Nat} {l : List Nat}
/-- a message's parts are a call's own, in blocks of N -/
structure FlOwn (N : Nat → Prop) (W : World) (x : Mr) : Prop where
  ents : ∃ eb, Li.OwnL 70 W eb x.2.ea x.2.ec x.1.ents ∧ (x.2.ea ≠ none → N eb)
  snap : OwnB 5 W x.2.sb x.2.sa x.2.sc x.1.snap
  snew : x.2.sa ≠ none → N x.2.sb
theorem FlOwn.kept {N S : Nat → Prop} {W W' : World} {x : Mr} (h : FlOwn N W x) (hk : Kept S W W') (hS : ∀ k, N k → ¬ S k) : FlOwn N W' x := by
  obtain ⟨eb, h1, h2⟩ := h.ents
  exact ⟨⟨eb, OwnC.kept h1 hk (fun ha => hS _ (h2 ha)), h2⟩, h.snap.kept hk (fun ha => hS _ (h.snew ha)), h.snew⟩
theorem FlOwn.mono {N M : Nat → Prop} {W : World} {x : Mr} (h : FlOwn N W x) (hM : ∀ k, N k → M k) : FlOwn M W x := by
  obtain ⟨eb, h1, h2⟩ := h.ents
  exact ⟨⟨eb, h1, fun ha => hM _ (h2 ha)⟩, h.snap, fun ha => hM _ (h.snew ha)⟩
theorem FlOwn.flat {N : Nat → Prop} {W : World} {x : Mr} (h : FlOwn N W x) : FlAt W x := by
  obtain ⟨eb, h1, h2⟩ := h.ents
  exact ⟨Li.OwnL.list h1, h.snap.src⟩
/-- other places of the inner ones: the parts are the same -/
theorem FlOwn.with {N : Nat → Prop} {W : World} {f : Fl} {p : Mp} (h : FlOwn N W (f, p)) (ia : Option Addr) (n ic : Nat) : FlOwn N W (f, { p with ia := ia, n := n, ic := ic }) := ⟨h.ents, h.snap, h.snew⟩
/-- a message that a call has made, with its inner ones -/
structure OwnM (N : Nat → Prop) (W : World) (x : Mr) (LM : List Mr) : Prop where
  self : FlOwn N W x
  all : ∀ y ∈ LM, FlOwn N W y
  zero : ∀ y ∈ LM, y.2.n = 0
  len : LM.length = x.2.n
  list : ∃ b, Li.OwnL 28 W b x.2.ia x.2.ic LM ∧ (x.2.ia ≠ none → N b)
theorem OwnM.kept {N S : Nat → Prop} {W W' : World} {x : Mr} {LM : List Mr} (h : OwnM N W x LM) (hk : Kept S W W') (hS : ∀ k, N k → ¬ S k) : OwnM N W' x LM := by
  obtain ⟨b, h1, h2⟩ := h.list
  exact ⟨h.self.kept hk hS, fun y hy => (h.all y hy).kept hk hS, h.zero, h.len, ⟨b, OwnC.kept h1 hk (fun ha => hS _ (h2 ha)), h2⟩⟩
theorem OwnM.mono {N M : Nat → Prop} {W : World} {x : Mr} {LM : List Mr} (h : OwnM N W x LM) (hM : ∀ k, N k → M k) : OwnM M W x LM := by
  obtain ⟨b, h1, h2⟩ := h.list
  exact ⟨h.self.mono hM, fun y hy => (h.all y hy).mono hM, h.zero, h.len, ⟨b, h1, fun ha => hM _ (h2 ha)⟩⟩
/-- what message leaves -/
def Mgot (most : Int) (rb br bs : Nat) (l : List Nat) (w : World) (x : Ending) (w' : World) : Prop :=
  Kept (Only br) w w' ∧ match (cHead.seq (cLi cInner most)).rd l with
    | some ((f, L), r) => (∃ (p : Mp) (LM : List Mr), x = .returned (Mr.val (f, p)) ∧ LM.map Prod.fst = L ∧ OwnM (fun k => w.heap.size ≤ k) w' (f, p) LM) ∧ Rs w' rb br bs r
    | none => x = .panicked thr
theorem Mgot.some {most : Int} {f : Fl} {L : List Fl} {r : List Nat} {x : Ending} (hx : Mgot most rb br bs l w x w') (hd : (cHead.seq (cLi cInner most)).rd l = some ((f, L), r)) : (∃ (p : Mp) (LM : List Mr), x = .returned (Mr.val (f, p)) ∧ LM.map Prod.fst = L ∧ OwnM (fun k => w.heap.size ≤ k) w' (f, p) LM) ∧ Rs w' rb br bs r ∧ Kept (Only br) w w' := by
  unfold Mgot at hx; rw [hd] at hx; exact ⟨hx.2.1, hx.2.2, hx.1⟩
theorem Mgot.none {most : Int} {x : Ending} (hx : Mgot most rb br bs l w x w') (hd : (cHead.seq (cLi cInner most)).rd l = none) : x = .panicked thr ∧ Kept (Only br) w w' := by
  unfold Mgot at hx; rw [hd] at hx; exact ⟨hx.2, hx.1⟩
theorem Mgot.no {most : Int} (hd : (cHead.seq (cLi cInner most)).rd l = Option.none) (hk : Kept (Only br) w w') : Mgot most rb br bs l w (.panicked thr) w' := by
  unfold Mgot; rw [hd]; exact ⟨hk, rfl⟩
/-- what an inner message leaves -/
def Igot (rb br bs : Nat) (l : List Nat) (w : World) (x : Ending) (w' : World) : Prop :=
  Kept (Only br) w w' ∧ match cInner.rd l with
    | some (f, r) => (∃ p : Mp, x = .returned (Mr.val (f, p)) ∧ p.n = 0 ∧ FlOwn (fun k => w.heap.size ≤ k) w' (f, p)) ∧ Rs w' rb br bs r
    | none => x = .panicked thr
theorem Igot.some {f : Fl} {r : List Nat} {x : Ending} (hx : Igot rb br bs l w x w') (hd : cInner.rd l = some (f, r)) : (∃ p : Mp, x = .returned (Mr.val (f, p)) ∧ p.n = 0 ∧ FlOwn (fun k => w.heap.size ≤ k) w' (f, p)) ∧ Rs w' rb br bs r ∧ Kept (Only br) w w' := by
  unfold Igot at hx; rw [hd] at hx; exact ⟨hx.2.1, hx.2.2, hx.1⟩
theorem Igot.none {x : Ending} (hx : Igot rb br bs l w x w') (hd : cInner.rd l = none) : x = .panicked thr ∧ Kept (Only br) w w' := by
  unfold Igot at hx; rw [hd] at hx; exact ⟨hx.2, hx.1⟩
/-- blocks behind g, of the world W, but not the block of a slice -/
def Nb (g : Nat) (W : World) (a : Option Addr) (b : Nat) : Nat → Prop := fun k => g < k ∧ k < W.heap.size ∧ ¬ Of a b k
/-- a message that is being read, its head read -/
structure Rm (w : World) (rb br bs : Nat) (q0 : List Nat) (gr : Nat) (R : Obj) (gx : Nat) (f : Fl) (p : Mp) (q : List Nat) (LM : List Mr) (b : Nat) (a : Option Addr) (cap : Nat) (W : World) : Prop where
  fr : Fr2 w rb br bs q gr R gx (Mr.obj (f, { p with ia := a, n := LM.length, ic := cap })) W
  got : (cInner.rep LM.length).rd q0 = some (LM.map Prod.fst, q)
  own : Li.OwnL 28 W b a cap LM
  hi : gx < b
  self : FlOwn (Nb gx W a b) W (f, p)
  all : ∀ y ∈ LM, FlOwn (Nb gx W a b) W y
  zero : ∀ y ∈ LM, y.2.n = 0
theorem Rm.start {w W : World} {rb br bs gr gx : Nat} {q0 : List Nat} {R : Obj} {f : Fl} {p : Mp} (h : Fr2 w rb br bs q0 gr R gx (Mr.obj (f, { p with ia := none, n := 0, ic := 0 })) W) (hT : Pc gx W p.sb p.sa p.sc f.snap) (hE : ∃ be, Pe gx W be p.ea p.ec f.ents) :
    Rm w rb br bs q0 gr R gx f p q0 [] (gx + 1) none 0 W := by
  obtain ⟨be, hE⟩ := hE
  exact ⟨h, rep_zero q0, OwnC.nil _ _ _ _, Nat.lt_succ_self _, ⟨⟨be, hE.own, fun ha => ⟨hE.hi, OwnC.lt hE.own ha, fun e => e.1 rfl⟩⟩, hT.own, fun ha => ⟨hT.hi, hT.own.lt ha, fun e => e.1 rfl⟩⟩, (fun y hy => by cases hy), (fun y hy => by cases hy)⟩
theorem FlOwn.bound {N : Nat → Prop} {W : World} {x : Mr} (h : FlOwn N W x) : FlOwn (fun k => N k ∧ k < W.heap.size) W x := by
  obtain ⟨eb, h1, h2⟩ := h.ents
  exact ⟨⟨eb, h1, fun ha => ⟨h2 ha, OwnC.lt h1 ha⟩⟩, h.snap, fun ha => ⟨h.snew ha, h.snap.lt ha⟩⟩
theorem Fr2.kp {w W W' : World} {rb br bs gr gx : Nat} {r : List Nat} {R X : Obj} {S : Nat → Prop} (h : Fr2 w rb br bs r gr R gx X W) (hk : Kept S W W') (hS : ∀ k, S k → w.heap.size ≤ k ∧ k ≠ gr ∧ k ≠ gx) : Fr2 w rb br bs r gr R gx X W' :=
  { rs := ⟨hk.heap h.rs.box (fun e => by have := (hS _ e).1; have := h.lrb; omega), h.rs.rd.kept hk (fun e => by have := (hS _ e).1; have := h.lbr; omega) (fun hr e => by have := (hS _ e).1; have := h.lbs hr; omega), h.rs.ne, h.rs.len, h.rs.nes⟩,
    kept := h.kept.trans' hk (fun k e => .inr (hS k e).1), lrb := h.lrb, lbr := h.lbr, lbs := h.lbs, box := hk.heap h.box (fun e => (hS _ e).2.1 rfl), lo := h.lo, xbox := hk.heap h.xbox (fun e => (hS _ e).2.2 rfl), xlo := h.xlo, ne := h.ne }
theorem Rm.step {w W wd w1 W2 w3 w4 : World} {rb br bs gr gx b b' cap cap' : Nat} {a a' : Option Addr} {q0 q q2 : List Nat} {R : Obj} {f y : Fl} {p py : Mp} {LM : List Mr} (h : Rm w rb br bs q0 gr R gx f p q LM b a cap W) (hgr : gr < gx) (hd0 : Beh W wd)
    (hs : Rs w1 rb br bs q2) (hk : Kept (Only br) wd w1) (hle : q2.length ≤ q.length) (hrd : cInner.rd q = some (y, q2)) (hy : FlOwn (fun k => wd.heap.size ≤ k) w1 (y, py)) (hz : py.n = 0) (hb2 : Beh w1 W2)
    (h2 : OwnC 28 16 w3 b' a' cap' (LM.length + 1) (Li.flat LM ++ Li.flat [((y, py) : Mr)])) (h3 : Kept (Of a b) W2 w3) (h4 : (b' = b ∧ (a' = none ∨ a ≠ none)) ∨ W2.heap.size ≤ b')
    (hx : w4.heap[gx]? = some (Mr.obj (f, { p with ia := a', n := LM.length + 1, ic := cap' }))) (he : Bh.Else gx w3 w4) :
    Rm w rb br bs q0 gr R gx f p q2 (LM ++ [(y, py)]) b' a' cap' w4 := by
  have z1 := hd0.size
  have z2 := hk.size
  have z3 := hb2.size
  have z4 := h3.size
  have z5 := he.size
  have hbr := h.fr.lbr
  have hxlo := h.fr.xlo
  have hgx : gx < W.heap.size := heap_lt h.fr.xbox
  have hhi := h.hi
  have hk1 : Kept (Only br) W w1 := (kept_beh hd0).ofNone.trans hk
  have hk3 : Kept (Of a b) w1 w3 := (kept_beh hb2).ofNone.trans h3
  have hbl : ∀ k, Of a b k → k = b ∧ b < W.heap.size := fun k e => ⟨e.2, OwnC.lt h.own e.1⟩
  have f1 := h.fr.callx hs hk1 hle
  have f3 := f1.kp hk3 (fun k e => by have := (hbl k e).1; exact ⟨by omega, by omega, by omega⟩)
  have hb' : gx < b' := by
    rcases h4 with ⟨rfl, _⟩ | h4
    · exact hhi
    · omega
  have old : ∀ x : Mr, FlOwn (Nb gx W a b) W x → FlOwn (Nb gx w4 a' b') w4 x := fun x hx => by
    have x1 := hx.kept hk1 (fun k e e2 => by have := e.1; have e2 : k = br := e2; omega)
    have x3 := x1.kept hk3 (fun k e e2 => e.2.2 e2)
    have x4 := x3.kept (else_kept he) (fun k e e2 => by have := e.1; have e2 : k = gx := e2; omega)
    refine x4.mono fun k e => ⟨e.1, by have := e.2.1; omega, fun e2 => ?_⟩
    rcases h4 with ⟨hbb, h5⟩ | h4
    · exact e.2.2 ⟨h5.resolve_left e2.1, by rw [e2.2, hbb]⟩
    · have := e2.2; have := e.2.1; omega
  have new : FlOwn (Nb gx w4 a' b') w4 (y, py) := by
    have x1 := hy.bound
    have x3 := x1.kept hk3 (fun k e e2 => by have := hbl k e2; have := e.1; omega)
    have x4 := x3.kept (else_kept he) (fun k e e2 => by have := e.1; have e2 : k = gx := e2; omega)
    refine x4.mono fun k e => ⟨by have := e.1; omega, by have := e.2; omega, fun e2 => ?_⟩
    rcases h4 with ⟨hbb, h5⟩ | h4
    · have := hbl k ⟨h5.resolve_left e2.1, by rw [e2.2, hbb]⟩
      have := e.1
      omega
    · have := e2.2; have := e.2; omega
  refine ⟨?_, ?_, ?_, hb', old _ h.self, fun z hz => ?_, fun z hz2 => ?_⟩
  · have := f3.setX hx he
    rw [List.length_append]
    exact this
  · rw [List.length_append, List.map_append]
    exact rep_snoc h.got hrd
  · show OwnC _ 16 w4 b' a' cap' (LM ++ [(y, py)]).length (Li.flat (LM ++ [(y, py)]))
    rw [List.length_append, Li.flat_append]
    exact OwnC.kept h2 (else_kept he) (fun _ e => by have e : b' = gx := e; omega)
  · rcases List.mem_append.1 hz with hz | hz
    · exact old _ (h.all z hz)
    · rw [List.mem_singleton] at hz; subst hz; exact new
  · rcases List.mem_append.1 hz2 with hz2 | hz2
    · exact h.zero z hz2
    · rw [List.mem_singleton] at hz2; subst hz2; exact hz
theorem Bh.cell15 {w : World} {b : Nat} {x0 x1 x2 x3 x4 x5 x6 x7 x8 x9 y0 y1 y2 y3 y4 y5 : Value} {t : TypeId} (h : w.heap[b]? = some (.cells #[x0, x1, x2, x3, x4, x5, x6, x7, x8, x9, y0, y1, y2, y3, y4, y5] t)) : w.cell? ⟨b, 15, none⟩ = some y5 := by simp [World.cell?, h]
/-- a new block, in a region that draws -/
theorem step_alloc_b {P : Program} {y0 : Nat → Option Bool} {o : Oper} {a : Go.Act} {w : World} {v : Value} {K : Go.Act → World → Prop} {Q : Exit → Go.Act → World → Prop} {E : Prop} (hgd : o.guard = none) (ob : Obj)
    (hrun : (execOp a.eval o).run P w = .ok (.value v) (w.alloc ob))
    (h : ∀ w', Beh w w' → w'.heap[w.heap.size]? = some ob → K (a.put o.dst v) w') : if Region.wanted o y0 = true then Oper.wp P o a w K Q else E := by
  rw [if_pos (Bh.want_all hgd)]
  unfold Oper.wp
  rw [hrun, Oper.upon_value]
  exact h _ (below_alloc _ _) (alloc_here _ rfl)
theorem step_append_y {P : Program} {w : World} {y0 : Nat → Option Bool} {o : Oper} {a : Act} {K : Act → World → Prop} {Q : Exit → Act → World → Prop} {E : Prop} (hgd : o.guard = none) (s x : Operand) (t : TypeId)
    (ho : o.op = .call { callee := .builtin .append, args := #[s, x], argTypes := #[t, t] })
    (e : TypeId) (k : Nat) (i : TypeInfo) (z : Value) (by_ : Nat) (ht : P.underlying t = some (.slice e)) (hi : P.info? e = some i) (hz : i.zero = some z) (hsize : i.size = k) (hby : i.bytes = by_) (hzs : z.cells.size = k)
    (b : Nat) (ao : Option Addr) (cap n : Nat) (cs : List Value) (hs : a.eval s = .slice ao n cap) (own : OwnC e k w b ao cap n cs)
    (a2 : Option Addr) (cap2 m : Nat) (ds : List Value) (hx : a.eval x = .slice a2 m cap2) (hsh : SrcC k w a2 cap2 m ds) (h1c : ∀ u ∈ ds, u.oneCell' = true) (hle : (n + m) * by_ ≤ 70368744177664) (hle2 : n + m ≤ 70368744177664)
    (h : ∀ b' a' cap' w', OwnC e k w' b' a' cap' (n + m) (cs ++ ds) → Kept (Of ao b) w w' → ((b' = b ∧ (a' = none ∨ ao ≠ none)) ∨ w.heap.size ≤ b') → (a' = none ↔ ao = none ∧ m = 0) → K (a.put o.dst (.slice a' (n + m) cap')) w') :
    if Region.wanted o y0 = true then Oper.wp P o a w K Q else E := by
  rw [if_pos (Bh.want_all hgd)]
  exact wp_append_cells s x t ho e k i z by_ ht hi hz hsize hby hzs b ao cap n cs hs own a2 cap2 m ds hx hsh h1c hle hle2 h
end Go.Proofs.YtaengjgmchpabaaGreat.Wr
end
section
/- The reference's readers: a message, but for its inner ones. -/
namespace Go.Proofs.YtaengjgmchpabaaGreat.Wr
open Go Go.RowKit Vl Kv Ss Cn Mem Lg Nm
attribute [local go_sem] Nm.run_bits Nm.run_frombits run_store_float
/-- what is told of a message's head -/
def Hdt (br b : Nat) (a : Option Addr) (cap : Nat) (F l : List Nat) (e : Int) (w : World) (x : Ending) (w' : World) : Prop :=
  ∃ (f : Fl) (ea : Option Addr) (ec sb : Nat) (sa : Option Addr) (sc : Nat) (r : List Nat) (e' : Int), x = .returned (Mr.val (f, ⟨ea, ec, sb, sa, sc, none, 0, 0⟩)) ∧ FlOwn (fun k => w.heap.size ≤ k) w' (f, ⟨ea, ec, sb, sa, sc, none, 0, 0⟩) ∧ RR w' br b a cap F r e' ∧ Kept (Only br) w w' ∧ Rb cHead l e f r e'
theorem head_rb {l r1 r2 r3 r4 r5 r6 r7 r8 r9 r10 r11 r12 : List Nat} {e e1 e2 e3 e4 e5 e6 e7 e8 e9 e10 e11 e12 n1 n2 n3 n4 n5 n6 n7 n8 : Int} {m : Bool} {L : List E} {c : C} {t : List Nat}
    (h1 : Rb cInt l e n1 r1 e1) (h2 : Rb cInt r1 e1 n2 r2 e2) (h3 : Rb cInt r2 e2 n3 r3 e3) (h4 : Rb cInt r3 e3 n4 r4 e4) (h5 : Rb cInt r4 e4 n5 r5 e5) (h6 : Rb cInt r5 e5 n6 r6 e6) (h7 : Rb cInt r6 e6 n7 r7 e7) (h8 : Rb cInt r7 e7 n8 r8 e8)
    (h9 : Rb cMark r8 e8 m r9 e9) (h10 : Rb (cLi cEnt 8) r9 e9 L r10 e10) (h11 : Rb cConf r10 e10 c r11 e11) (h12 : Rb cText r11 e11 t r12 e12) : Rb cHead l e ⟨n1, n2, n3, n4, n5, n6, n7, n8, m, L, c, t⟩ r12 e12 :=
  Rb.as (f := fun x : Int × Int × Int × Int × Int × Int × Int × Int × Bool × List E × C × List Nat => (⟨x.1, x.2.1, x.2.2.1, x.2.2.2.1, x.2.2.2.2.1, x.2.2.2.2.2.1, x.2.2.2.2.2.2.1, x.2.2.2.2.2.2.2.1, x.2.2.2.2.2.2.2.2.1, x.2.2.2.2.2.2.2.2.2.1, x.2.2.2.2.2.2.2.2.2.2.1, x.2.2.2.2.2.2.2.2.2.2.2⟩ : Fl)) (h1.seq (h2.seq (h3.seq (h4.seq (h5.seq (h6.seq (h7.seq (h8.seq (h9.seq (h10.seq (h11.seq h12)))))))))))
set_option maxHeartbeats 6400000 in
set_option maxRecDepth 100000 in
theorem Head_rt {w : World} {br b : Nat} {a : Option Addr} {cap : Nat} {F l : List Nat} {e : Int} (h : RR w br b a cap F l e) (hF : F.length ≤ 100000) :
    Calls Tryz.prog 26 #[.pointer (some ⟨br, 0, none⟩)] w (Hdt br b a cap F l e w) := by
  have HF := Lib.hid (Rv1.start h Mr.zero.obj)
  have hwz : w.heap.size < (w.alloc Mr.zero.obj).heap.size := by rw [size_alloc]; omega
  clear h
  go_enter Tryz.func26, Tryz.ntmps26
  go_wp2_with fail
  refine (Int_rt HF.out.rr hF).mono ?_
  rintro x w1 ⟨n1, r1, e1, rfl, h1, k1, b1⟩
  have HF := Lib.hid (HF.out.call h1 k1)
  have HR1 := Lib.hid b1
  clear h1 k1 b1
  go_wp2_with fail
  refine (Int_rt HF.out.rr hF).mono ?_
  rintro x w2 ⟨n2, r2, e2, rfl, h1, k1, b1⟩
  have HF := Lib.hid (HF.out.call h1 k1)
  have HR2 := Lib.hid b1
  clear h1 k1 b1
  go_wp2_with fail
  refine (Int_rt HF.out.rr hF).mono ?_
  rintro x w3 ⟨n3, r3, e3, rfl, h1, k1, b1⟩
  have HF := Lib.hid (HF.out.call h1 k1)
  have HR3 := Lib.hid b1
  clear h1 k1 b1
  go_wp2_with fail
  refine (Int_rt HF.out.rr hF).mono ?_
  rintro x w4 ⟨n4, r4, e4, rfl, h1, k1, b1⟩
  have HF := Lib.hid (HF.out.call h1 k1)
  have HR4 := Lib.hid b1
  clear h1 k1 b1
  go_wp2_with fail
  refine (Int_rt HF.out.rr hF).mono ?_
  rintro x w5 ⟨n5, r5, e5, rfl, h1, k1, b1⟩
  have HF := Lib.hid (HF.out.call h1 k1)
  have HR5 := Lib.hid b1
  clear h1 k1 b1
  go_wp2_with fail
  refine (Int_rt HF.out.rr hF).mono ?_
  rintro x w6 ⟨n6, r6, e6, rfl, h1, k1, b1⟩
  have HF := Lib.hid (HF.out.call h1 k1)
  have HR6 := Lib.hid b1
  clear h1 k1 b1
  go_wp2_with fail
  refine (Int_rt HF.out.rr hF).mono ?_
  rintro x w7 ⟨n7, r7, e7, rfl, h1, k1, b1⟩
  have HF := Lib.hid (HF.out.call h1 k1)
  have HR7 := Lib.hid b1
  clear h1 k1 b1
  go_wp2_with fail
  refine (Int_rt HF.out.rr hF).mono ?_
  rintro x w8 ⟨n8, r8, e8, rfl, h1, k1, b1⟩
  have HF := Lib.hid (HF.out.call h1 k1)
  have HR8 := Lib.hid b1
  clear h1 k1 b1
  have HX := Lib.hid (HF.out.more Mr.zero.obj)
  clear HF
  go_wp2_with (first | (apply store_g 16 HX.out.xbox; rfl; rfl; rfl; rfl; rfl; kernel_rfl; rfl; rfl; intro wz hz he; have HX := Lib.hid (HX.out.setX hz he); clear hz he))
  refine (Mark_rt HX.out.rr hF).mono ?_
  rintro x w9 ⟨n9, r9, e9, rfl, h1, k1, b1⟩
  have HX := Lib.hid (HX.out.callx h1 k1)
  have HR9 := Lib.hid b1
  clear h1 k1 b1
  go_wp2_with (first | (apply store_g1 HX.out.xbox; rfl; rfl; rfl; rfl; rfl; rfl; kernel_rfl; rfl; intro wz hz he; (try simp only [List.setIfInBounds_toArray, List.set_cons_succ, List.set_cons_zero] at hz); have HX := Lib.hid (HX.out.setX hz he); clear hz he))
  refine (List_rt HX.out.rr hF 8 (by decide)).mono ?_
  rintro x w10 ⟨n10, r10, e10, gb, ga, gc, rfl, ho, hlo, h1, k1, b1⟩
  have HGE : Hid (gb ≠ br ∧ gb ≠ w8.heap.size ∧ gb ≠ w.heap.size ∧ w.heap.size ≤ gb) := by have i1 := HX.out.rr.lt1; have i2 := heap_lt HX.out.xbox; have i3 := heap_lt HX.out.box; exact ⟨by omega, by omega, by omega, by omega⟩
  have HX := Lib.hid (HX.out.callx h1 k1)
  have HLX := Lib.hid ho
  have HR10 := Lib.hid b1
  clear h1 k1 b1 ho hlo
  go_wp2_with (first | (apply store_g1 HX.out.xbox; rfl; rfl; rfl; rfl; rfl; rfl; kernel_rfl; rfl; intro wz hz he; (try simp only [List.setIfInBounds_toArray, List.set_cons_succ, List.set_cons_zero] at hz); have HX := Lib.hid (HX.out.setX hz he); (have HLX := Lib.hid (OwnC.kept HLX.out (else_kept he) (fun _ e => HGE.out.2.1 e))); clear hz he))
  refine (Conf_rt HX.out.rr hF).mono ?_
  rintro x w11 ⟨n11, r11, e11, rfl, h1, k1, b1⟩
  have HX := Lib.hid (HX.out.callx h1 k1)
  have HLX := Lib.hid (OwnC.kept HLX.out k1 (fun _ e => HGE.out.1 e))
  have HR11 := Lib.hid b1
  clear h1 k1 b1
  go_wp2_with (first | (apply store_gm HX.out.xbox; rfl; rfl; rfl; rfl; rfl; kernel_rfl; rfl; rfl; intro wz hz he; (try simp only [splice, List.setIfInBounds_toArray, List.set_cons_succ, List.set_cons_zero, Nat.reduceAdd] at hz); have HX := Lib.hid (HX.out.setX hz he); (have HLX := Lib.hid (OwnC.kept HLX.out (else_kept he) (fun _ e => HGE.out.2.1 e))); clear hz he))
  have HT := Lib.hid (refText_any HX.out.rr hF)
  unfold RTextTold at HT
  have HR12 := Lib.hid (textOut_rb (l := r11) (e := e11))
  generalize Pk.textOut r11 e11 = o at *
  obtain ⟨n12, r12, e12⟩ := o
  dsimp only at HT HR12
  refine HT.out.mono ?_
  rintro x w12 ⟨bt, at_, ct, rfl, ho, hlo, h1, k1⟩
  have HNE : Hid (bt ≠ br ∧ bt ≠ w8.heap.size ∧ bt ≠ w.heap.size ∧ w.heap.size ≤ bt) := by have i1 := HX.out.rr.lt1; have i2 := heap_lt HX.out.xbox; have i3 := heap_lt HX.out.box; exact ⟨by omega, by omega, by omega, by omega⟩
  have HX := Lib.hid (HX.out.callx h1 k1)
  have HLX := Lib.hid (OwnC.kept HLX.out k1 (fun _ e => HGE.out.1 e))
  have HTX := Lib.hid ho
  clear h1 k1 ho hlo HT
  go_wp2_with (first | (apply store_g1 HX.out.xbox; rfl; rfl; rfl; rfl; rfl; rfl; kernel_rfl; rfl; intro wz hz he; (try simp only [List.setIfInBounds_toArray, List.set_cons_succ, List.set_cons_zero] at hz); have HX := Lib.hid (HX.out.setX hz he); (have HLX := Lib.hid (OwnC.kept HLX.out (else_kept he) (fun _ e => HGE.out.2.1 e))); (have HTX := Lib.hid (HTX.out.kept (else_kept he) (fun _ e => HNE.out.2.1 e))); clear hz he) | (apply load_g HX.out.xbox Tryz.underlying28; rfl; rfl; rfl; rfl; kernel_rfl) | (apply store_g 16 HX.out.box; rfl; rfl; rfl; rfl; rfl; kernel_rfl; rfl; rfl; intro wz hz he; have HX := Lib.hid (HX.out.setR hz he); (have HLX := Lib.hid (OwnC.kept HLX.out (else_kept he) (fun _ e => HGE.out.2.2.1 e))); (have HTX := Lib.hid (HTX.out.kept (else_kept he) (fun _ e => HNE.out.2.2.1 e))); clear hz he))
  (try simp only [Exit.inBlock, Exit.then])
  refine bodyPost_ret (v := Mr.val (⟨n1, n2, n3, n4, n5, n6, n7, n8, n9, n10, n11, n12⟩, ⟨ga, gc, bt, at_, ct, none, 0, 0⟩)) (Bh.results_cell_row1 rfl _ _ _ _ _ _ _ rfl HX.out.box Tryz.underlying28 rfl (by kernel_rfl)) rfl ?_
  exact ⟨_, _, _, _, _, _, _, _, rfl, ⟨⟨gb, HLX.out, fun _ => HGE.out.2.2.2⟩, HTX.out, fun _ => HNE.out.2.2.2⟩, HX.out.rr, HX.out.kept, head_rb HR1.out HR2.out HR3.out HR4.out HR5.out HR6.out HR7.out HR8.out HR9.out HR10.out HR11.out HR12.out⟩
end Go.Proofs.YtaengjgmchpabaaGreat.Wr
end
section
/- The Reader's Mark. -/
namespace Go.Proofs.YtaengjgmchpabaaGreat.Pk
open Go Go.RowKit Mem
/-- what Mark answers -/
def MarkPost (br bs : Nat) (l : List Nat) (e : Int) (w : World) (x : Ending) (w' : World) : Prop :=
  match rdMark l with
  | some (n, r) => x = .returned (.bool n) ∧ RAt w' br bs r e ∧ Kept (Only br) w w'
  | none => Fell br bs (keep e 3) (.bool false) w x w'
theorem markPost_none {br bs : Nat} {l : List Nat} {e : Int} {w : World} {x : Ending} {w' : World} (h : rdMark l = none) (hp : Fell br bs (keep e 3) (.bool false) w x w') : MarkPost br bs l e w x w' := by
  unfold MarkPost; rw [h]; exact hp
theorem markPost_some {br bs : Nat} {l r : List Nat} {z : Bool} {e : Int} {w : World} {x : Ending} {w' : World} (h : rdMark l = some (z, r)) (hx : x = .returned (.bool z)) (hr : RAt w' br bs r e) (hk : Kept (Only br) w w') : MarkPost br bs l e w x w' := by
  unfold MarkPost; rw [h]; exact ⟨hx, hr, hk⟩
attribute [local go_sem] eq_nil
set_option maxHeartbeats 1000000 in
theorem RMark_any (br bs : Nat) (l : List Nat) (e : Int) (w : World) (h : RAt w br bs l e) :
    Calls Tryz.prog 75 #[.pointer (some ⟨br, 0, none⟩)] w (MarkPost br bs l e w) := by
  cases l with
  | nil =>
    have HR := Lib.hid h
    clear h
    go_enter Tryz.func75, Tryz.ntmps75
    go_wp2_with (first | (go_at_call 87; refine (take_no br bs [] e 1 _ HR.out (.inr (by decide))).mono ?_; rintro x w' ⟨rfl, h1, h2⟩))
    go_ret
    exact markPost_none rfl ⟨rfl, h1, h2⟩
  | cons y r =>
    have hy : y < 256 := by obtain ⟨_, _, _, _, h8, _⟩ := h; exact h8 y (List.mem_cons_self ..)
    have HR := Lib.hid h
    clear h
    by_cases hy1 : 1 < y
    · go_enter Tryz.func75, Tryz.ntmps75
      go_wp2_with fail
      refine (take_ok br bs (y :: r) e 1 _ HR.out (by simp)).mono ?_
      rintro x w1 ⟨a, cap, rfl, hs, hr, hk, hn⟩
      obtain ⟨off, rfl, hc⟩ := first_cell hs hn
      have HR1 := Lib.hid hr
      clear hr hs hn
      go_wp2_with fail
      refine (fail_any br bs r e _ _ HR1.out).mono ?_
      rintro x w' ⟨rfl, h1, h2⟩
      have hc2 : w'.cell? ⟨bs, off, none⟩ = some (.int .u8 y) := by
        rw [h2.cell (p := ⟨bs, off, none⟩) (World.block_lt_of_cell? w1 _ hc) (not_self HR1.out.ne)]; exact hc
      have hyn : ((y : Int) == 1) = false := beq_eq_false_iff_ne.2 (by omega)
      go_wp2
      go_ret
      exact markPost_none (by simp [rdMark, hy1]) ⟨rfl, h1, hk.trans h2⟩
    · have hyl : decide (1 < (y : Int)) = false := by simp; omega
      go_enter Tryz.func75, Tryz.ntmps75
      go_wp2_with fail
      refine (take_ok br bs (y :: r) e 1 _ HR.out (by simp)).mono ?_
      rintro x w1 ⟨a, cap, rfl, hs, hr, hk, hn⟩
      obtain ⟨off, rfl, hc⟩ := first_cell hs hn
      have HR1 := Lib.hid hr
      clear hr hs hn
      obtain ⟨q, hq⟩ : ∃ q, ((y : Int) == 1) = q := ⟨_, rfl⟩
      go_wp2
      go_ret
      exact markPost_some (z := q) (by rw [← hq, beq_one]; simp [rdMark, hy1]) rfl HR1.out hk

end Go.Proofs.YtaengjgmchpabaaGreat.Pk
end
section
/- Cut out of WireR2 so that every seat fills it. -/
namespace Go.Proofs.YtaengjgmchpabaaGreat.Wr
open Go Go.RowKit Vl Kv Ss Cn Mem Lg Nm
attribute [local go_sem] Nm.run_bits Nm.run_frombits run_store_float
variable {α β : Type} {w w' : World} {rb br bs : Nat} {l : List Nat}
set_option maxHeartbeats 800000 in
set_option maxRecDepth 100000 in
theorem mark_any (h : Rs w rb br bs l) : Calls Tryz.prog 52 #[.pointer (some ⟨rb, 0, none⟩)] w (Rgot cMark.rd (fun n => .bool n) rb br bs l w) := by
  have c0 := Bh.cells1 h.box
  have HC := Lib.hid (Pk.RMark_any br bs l 0 w h.rd)
  unfold Pk.MarkPost at HC
  cases hd : Pk.rdMark l with
  | none =>
    rw [hd] at HC
    have HH := Lib.hid h
    clear h
    go_enter Tryz.func52, Tryz.ntmps52
    go_wp2_with fail
    refine HC.out.mono ?_
    rintro e w1 ⟨rfl, hr, hk⟩
    have HB := Lib.hid (hk.heap HH.out.box (fun e => HH.out.ne e))
    have HE := Lib.hid hr
    have HK := Lib.hid hk
    clear hr hk HC c0
    have c0 := Bh.cells1 HB.out
    go_wp2_with (first | (go_at_call 74; refine (good_no HB.out HE.out (by decide)).mono ?_; rintro e w' ⟨rfl, rfl⟩))
    exact ⟨rfl, Rgot.no hd HK.out⟩
  | some p =>
    obtain ⟨n, r⟩ := p
    rw [hd] at HC
    have HH := Lib.hid h
    have hle := rd_le cMark h.b8 hd
    clear h
    go_enter Tryz.func52, Tryz.ntmps52
    go_wp2_with fail
    refine HC.out.mono ?_
    rintro e w1 ⟨rfl, hr, hk⟩
    have HS := Lib.hid (HH.out.next hr hk hle)
    have HK := Lib.hid hk
    clear hr hk HC c0
    go_wp2_with (first | (go_at_call 74; refine (good_yes HS.out).mono ?_; rintro e w' ⟨rfl, rfl⟩))
    go_ret
    exact Rgot.yes hd rfl HS.out HK.out
end Go.Proofs.YtaengjgmchpabaaGreat.Wr
end
