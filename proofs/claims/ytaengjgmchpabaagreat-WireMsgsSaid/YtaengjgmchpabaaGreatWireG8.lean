import Derived.Test.YtaengjgmchpabaaGreatMergeWr26
import Derived.Test.YtaengjgmchpabaaGreatWireR10
/- The reference's readers: a message of all bytes. -/
namespace Go.Proofs.YtaengjgmchpabaaGreat.Wr
open Go Go.RowKit Vl Kv Ss Cn Mem Lg Nm
attribute [local go_sem] Nm.run_bits Nm.run_frombits run_store_float
theorem inner_rb {l r r' : List Nat} {e1 e2 m : Int} {f : Fl} (h : Rb cHead l 0 f r e1) (h2 : Rb cInt r e1 m r' e2) :
    (m = 0 → Rb cInner l 0 f r' e2) ∧ (m ≠ 0 → Rb cInner l 0 f [] (Pk.keep e2 3)) := by
  have key : ∀ {q : List Nat} {e3 : Int}, Rb cNone r e1 () q e3 → Rb cInner l 0 f q e3 := fun hn => Rb.as (f := fun x : Fl × Unit => x.1) (h.seq hn)
  constructor
  · intro hm
    subst hm
    exact key (Rb.emb (A := cInt.sel (fun n => if n = 0 then Cod.one () else Cod.non)) (f := fun _ => ()) (a := ((0 : Int), ())) (Rb.sel h2 (by rw [if_pos rfl]; exact Rb.one () rfl rfl)))
  · intro hm
    refine key (.inr ⟨keep_ne (by decide), fun h0 => ?_⟩)
    rcases h2 with ⟨_, _, hd⟩ | ⟨_, hd⟩
    · exact emb_no (A := cInt.sel (fun n => if n = 0 then Cod.one () else Cod.non)) (sel_no2 hd (by rw [if_neg hm]; rfl))
    · exact emb_no (A := cInt.sel (fun n => if n = 0 then Cod.one () else Cod.non)) (sel_no1 (hd h0))
/-- blocks behind g0, of the world W, not gx, and not the block of a slice -/
def Nz (g0 gx : Nat) (W : World) (a : Option Addr) (b : Nat) : Nat → Prop := fun k => g0 < k ∧ k ≠ gx ∧ k < W.heap.size ∧ ¬ Of a b k
/-- a message's parts and its inner ones, while these are being read -/
structure Im (g0 gx : Nat) (f : Fl) (p : Mp) (LM : List Mr) (b : Nat) (a : Option Addr) (cap : Nat) (W : World) : Prop where
  own : Li.OwnL 28 W b a cap LM
  hi : gx < b
  self : FlOwn (Nz g0 gx W a b) W (f, p)
  all : ∀ y ∈ LM, FlOwn (Nz g0 gx W a b) W y
  zero : ∀ y ∈ LM, y.2.n = 0
theorem Im.call {g0 gx br : Nat} {f : Fl} {p : Mp} {LM : List Mr} {b : Nat} {a : Option Addr} {cap : Nat} {W W' : World} (h : Im g0 gx f p LM b a cap W) (hk : Kept (Only br) W W') (hbr : br ≤ g0) (hg : g0 < gx) : Im g0 gx f p LM b a cap W' := by
  have hz := hk.size
  have hhi := h.hi
  have old : ∀ x : Mr, FlOwn (Nz g0 gx W a b) W x → FlOwn (Nz g0 gx W' a b) W' x := fun x hx =>
    (hx.kept hk (fun k e e2 => by have := e.1; have e2 : k = br := e2; omega)).mono fun k e => ⟨e.1, e.2.1, by have := e.2.2.1; omega, e.2.2.2⟩
  exact ⟨OwnC.kept h.own hk (fun _ e => by have e : b = br := e; omega), h.hi, old _ h.self, fun y hy => old _ (h.all y hy), h.zero⟩
theorem Im.push {g0 gx br : Nat} {f y : Fl} {p py : Mp} {LM : List Mr} {b b' cap cap' : Nat} {a a' : Option Addr} {W wd w1 W2 w3 w4 : World} (h : Im g0 gx f p LM b a cap W) (hbr : br ≤ g0) (hg : g0 < gx) (hgx : gx < W.heap.size) (hd0 : Beh W wd) (hk : Kept (Only br) wd w1)
    (hy : FlOwn (fun k => wd.heap.size ≤ k) w1 (y, py)) (hz : py.n = 0) (hb2 : Beh w1 W2)
    (h2 : OwnC 28 16 w3 b' a' cap' (LM.length + 1) (Li.flat LM ++ Li.flat [((y, py) : Mr)])) (h3 : Kept (Of a b) W2 w3) (h4 : (b' = b ∧ (a' = none ∨ a ≠ none)) ∨ W2.heap.size ≤ b') (he : Bh.Else gx w3 w4) :
    Im g0 gx f p (LM ++ [(y, py)]) b' a' cap' w4 := by
  have z1 := hd0.size
  have z2 := hk.size
  have z3 := hb2.size
  have z4 := h3.size
  have z5 := he.size
  have hhi := h.hi
  have hk1 : Kept (Only br) W w1 := (kept_beh hd0).ofNone.trans hk
  have hk3 : Kept (Of a b) w1 w3 := (kept_beh hb2).ofNone.trans h3
  have hbl : ∀ k, Of a b k → k = b ∧ b < W.heap.size := fun k e => ⟨e.2, OwnC.lt h.own e.1⟩
  have hb' : gx < b' := by
    rcases h4 with ⟨rfl, _⟩ | h4
    · exact hhi
    · omega
  have old : ∀ x : Mr, FlOwn (Nz g0 gx W a b) W x → FlOwn (Nz g0 gx w4 a' b') w4 x := fun x hx => by
    have x1 := hx.kept hk1 (fun k e e2 => by have := e.1; have e2 : k = br := e2; omega)
    have x3 := x1.kept hk3 (fun k e e2 => e.2.2.2 e2)
    have x4 := x3.kept (else_kept he) (fun k e e2 => by have := e.2.1; have e2 : k = gx := e2; omega)
    refine x4.mono fun k e => ⟨e.1, e.2.1, by have := e.2.2.1; omega, fun e2 => ?_⟩
    rcases h4 with ⟨hbb, h5⟩ | h4
    · exact e.2.2.2 ⟨h5.resolve_left e2.1, by rw [e2.2, hbb]⟩
    · have := e2.2; have := e.2.2.1; omega
  have new : FlOwn (Nz g0 gx w4 a' b') w4 (y, py) := by
    have x1 := hy.bound
    have x3 := x1.kept hk3 (fun k e e2 => by have := hbl k e2; have := e.1; omega)
    have x4 := x3.kept (else_kept he) (fun k e e2 => by have := e.1; have e2 : k = gx := e2; omega)
    refine x4.mono fun k e => ⟨by have := e.1; omega, by have := e.1; omega, by have := e.2; omega, fun e2 => ?_⟩
    rcases h4 with ⟨hbb, h5⟩ | h4
    · have := hbl k ⟨h5.resolve_left e2.1, by rw [e2.2, hbb]⟩
      have := e.1
      omega
    · have := e2.2; have := e.2; omega
  refine ⟨?_, hb', old _ h.self, fun z hz => ?_, fun z hz2 => ?_⟩
  · show OwnC _ 16 w4 b' a' cap' (LM ++ [(y, py)]).length (Li.flat (LM ++ [(y, py)]))
    rw [List.length_append, Li.flat_append]
    exact OwnC.kept h2 (else_kept he) (fun _ e => by have e : b' = gx := e; omega)
  · rcases List.mem_append.1 hz with hz | hz
    · exact old _ (h.all z hz)
    · rw [List.mem_singleton] at hz; subst hz; exact new
  · rcases List.mem_append.1 hz2 with hz2 | hz2
    · exact h.zero z hz2
    · rw [List.mem_singleton] at hz2; subst hz2; exact hz
/-- a message that is being read, its head read -/
structure Rz (w : World) (br b : Nat) (a : Option Addr) (cap : Nat) (F : List Nat) (n : Int) (q0 : List Nat) (gr : Nat) (R : Obj) (gx : Nat) (f : Fl) (p : Mp) (k : Nat) (r : List Nat) (e' : Int) (LM : List Mr) (gb : Nat) (ga : Option Addr) (gc : Nat) (W : World) : Prop where
  ro : Ro2 w br b a cap F r e' gr R gx (Mr.obj (f, { p with ia := ga, n := LM.length, ic := gc })) W
  im : Im br gx f p LM gb ga gc W
  ord : gr < br ∧ br < gx
  got : e' = 0 → (cInner.rep k).rd q0 = some (LM.map Prod.fst, r)
  hdr : e' = 0 → ∃ l1, cHead.rd F = some (f, l1) ∧ rdUp 16 l1 = some (n, q0)
  bad : e' ≠ 0 → (cHead.seq (cLi cInner 16)).rd F = none
theorem Rz.few {w W : World} {br b : Nat} {a : Option Addr} {cap : Nat} {F : List Nat} {n : Int} {q0 : List Nat} {gr : Nat} {R : Obj} {gx : Nat} {f : Fl} {p : Mp} {r : List Nat} {LM : List Mr} {gb : Nat} {ga : Option Addr} {gc : Nat} (h : Rz w br b a cap F n q0 gr R gx f p LM.length r 0 LM gb ga gc W) (hlt : (LM.length : Int) < n) : (LM.length : Int) ≤ 16 := by
  obtain ⟨l1, _, h2⟩ := h.hdr rfl
  have := (rdUp_int h2).2.2
  omega
theorem Rz.ne {w W : World} {br b : Nat} {a : Option Addr} {cap : Nat} {F : List Nat} {n : Int} {q0 : List Nat} {gr : Nat} {R : Obj} {gx : Nat} {f : Fl} {p : Mp} {k : Nat} {r : List Nat} {e' : Int} {LM : List Mr} {gb : Nat} {ga : Option Addr} {gc : Nat} (h : Rz w br b a cap F n q0 gr R gx f p k r e' LM gb ga gc W) : gx ≠ br := by have := h.ord; omega
/-- the end -/
theorem Rz.end_ {w W : World} {br b : Nat} {a : Option Addr} {cap : Nat} {F : List Nat} {n : Int} {q0 : List Nat} {gr : Nat} {R : Obj} {gx : Nat} {f : Fl} {p : Mp} {k : Nat} {r : List Nat} {e' : Int} {LM : List Mr} {gb : Nat} {ga : Option Addr} {gc : Nat} (h : Rz w br b a cap F n q0 gr R gx f p k r e' LM gb ga gc W) (hk : e' = 0 → k = n.toNat) : Rb cMsg F 0 ⟨f, LM.map Prod.fst⟩ r e' := by
  refine Rb.as (A := cHead.seq (cList cInner (fun n => decide (n ≤ 16)))) (f := fun x : Fl × List Fl => (⟨x.1, x.2⟩ : Me)) (a := (f, LM.map Prod.fst)) ?_
  by_cases h0 : e' = 0
  · obtain ⟨l1, h1, h2⟩ := h.hdr h0
    exact .inl ⟨rfl, h0, seq_yes h1 (cLi_yes (A := cInner) h2 (by rw [← hk h0]; exact h.got h0))⟩
  · exact .inr ⟨h0, fun _ => h.bad h0⟩
/-- an inner message's head read, and put behind the others -/
structure Ry (w : World) (br b : Nat) (a : Option Addr) (cap : Nat) (F : List Nat) (n : Int) (q0 : List Nat) (gr : Nat) (R : Obj) (gx : Nat) (f : Fl) (p : Mp) (k : Nat) (r : List Nat) (LM : List Mr) (y : Fl) (py : Mp) (r2 : List Nat) (e2 : Int) (gb : Nat) (ga : Option Addr) (gc : Nat) (W : World) : Prop where
  ro : Ro2 w br b a cap F r2 e2 gr R gx (Mr.obj (f, { p with ia := ga, n := LM.length + 1, ic := gc })) W
  im : Im br gx f p (LM ++ [(y, py)]) gb ga gc W
  ord : gr < br ∧ br < gx
  lt : (k : Int) < n
  got : (cInner.rep k).rd q0 = some (LM.map Prod.fst, r)
  hdr : ∃ l1, cHead.rd F = some (f, l1) ∧ rdUp 16 l1 = some (n, q0)
  rb : Rb cHead r 0 y r2 e2
section
variable {w W : World} {br b : Nat} {a : Option Addr} {cap : Nat} {F : List Nat} {n : Int} {q0 : List Nat} {gr : Nat} {R : Obj} {gx : Nat} {f : Fl} {p : Mp} {k : Nat} {r : List Nat} {LM : List Mr} {gb : Nat} {ga : Option Addr} {gc : Nat}
theorem Ro2.kp {l : List Nat} {e : Int} {X : Obj} {W' : World} {S : Nat → Prop} (h : Ro2 w br b a cap F l e gr R gx X W) (hk : Kept S W W') (hS : ∀ k, S k → w.heap.size ≤ k ∧ k ≠ gr ∧ k ≠ gx ∧ k ≠ br) : Ro2 w br b a cap F l e gr R gx X W' :=
  { rr := h.rr.kept hk (fun e => (hS _ e).2.2.2 rfl) (fun hr e => by have := (hS _ e).1; have := h.lb hr; omega), beh := h.beh.trans (hk.below h.beh.size (fun k e => by have := (hS _ e).1; omega)), lbr := h.lbr, lb := h.lb, box := hk.heap h.box (fun e => (hS _ e).2.1 rfl), lo := h.lo, ner := h.ner, xbox := hk.heap h.xbox (fun e => (hS _ e).2.2.1 rfl), xlo := h.xlo, xner := h.xner, ne := h.ne }
theorem Rz.step {wd w1 W2 w3 w4 : World} {b' cap' : Nat} {a' : Option Addr} {y : Fl} {ea2 : Option Addr} {ec2 sb2 : Nat} {sa2 : Option Addr} {sc2 : Nat} {r2 : List Nat} {e2 : Int} (h : Rz w br b a cap F n q0 gr R gx f p k r 0 LM gb ga gc W) (hlt : (k : Int) < n) (hd0 : Beh W wd) (hr : RR w1 br b a cap F r2 e2) (hk : Kept (Only br) wd w1)
    (hy : FlOwn (fun k => wd.heap.size ≤ k) w1 (y, ⟨ea2, ec2, sb2, sa2, sc2, none, 0, 0⟩)) (hb : Rb cHead r 0 y r2 e2) (hb2 : Beh w1 W2)
    (h2 : OwnC 28 16 w3 b' a' cap' (LM.length + 1) (Li.flat LM ++ Li.flat [((y, ⟨ea2, ec2, sb2, sa2, sc2, none, 0, 0⟩) : Mr)])) (h3 : Kept (Of ga gb) W2 w3) (h4 : (b' = gb ∧ (a' = none ∨ ga ≠ none)) ∨ W2.heap.size ≤ b')
    (hx : w4.heap[gx]? = some (Mr.obj (f, { p with ia := a', n := LM.length + 1, ic := cap' }))) (he : Bh.Else gx w3 w4) :
    Ry w br b a cap F n q0 gr R gx f p k r LM y ⟨ea2, ec2, sb2, sa2, sc2, none, 0, 0⟩ r2 e2 b' a' cap' w4 := by
  have ho := h.ord
  have hlo := h.ro.lo
  have hhi := h.im.hi
  have hgx := heap_lt h.ro.xbox
  have hk1 : Kept (Only br) W w1 := (kept_beh hd0).ofNone.trans hk
  have hk3 : Kept (Of ga gb) w1 w3 := (kept_beh hb2).ofNone.trans h3
  have f1 := h.ro.callx hr hk1
  have f3 := f1.kp hk3 (fun k e => by have e2 : k = gb := e.2; exact ⟨by omega, by omega, by omega, by omega⟩)
  exact ⟨f3.setX hx he, h.im.push (Nat.le_refl _) ho.2 hgx hd0 hk hy rfl hb2 h2 h3 h4 he, ho, hlt, h.got rfl, h.hdr rfl, hb⟩
theorem Ry.rest {y : Fl} {py : Mp} {r2 r3 : List Nat} {e2 e3 : Int} {W' : World} (h : Ry w br b a cap F n q0 gr R gx f p k r LM y py r2 e2 gb ga gc W) (hr : RR W' br b a cap F r3 e3) (hk : Kept (Only br) W W') (hb : Rb cInner r 0 y r3 e3) :
    Rz w br b a cap F n q0 gr R gx f p (k + 1) r3 e3 (LM ++ [(y, py)]) gb ga gc W' := by
  have hro := h.ro.callx hr hk
  have e1 : (LM ++ [(y, py)]).length = LM.length + 1 := by simp
  refine ⟨by rw [e1]; exact hro, h.im.call hk (Nat.le_refl _) h.ord.2, h.ord, fun he => ?_, fun _ => h.hdr, fun he => ?_⟩
  · rcases hb with ⟨_, _, hd⟩ | ⟨h1, _⟩
    · rw [List.map_append]; exact rep_snoc h.got hd
    · exact absurd he h1
  · rcases hb with ⟨_, h1, _⟩ | ⟨_, hd⟩
    · exact absurd h1 he
    · obtain ⟨l1, h1, h2⟩ := h.hdr
      exact seq_no2 h1 (cLi_no2 (A := cInner) h2 (rep_stop h.got (hd rfl) (by have := h.lt; omega)))
theorem Ry.yes {y : Fl} {py : Mp} {r2 r3 : List Nat} {e2 e3 m : Int} {W' : World} (h : Ry w br b a cap F n q0 gr R gx f p k r LM y py r2 e2 gb ga gc W) (hm : m = 0) (hr : RR W' br b a cap F r3 e3) (hk : Kept (Only br) W W') (hb : Rb cInt r2 e2 m r3 e3) :
    Rz w br b a cap F n q0 gr R gx f p (k + 1) r3 e3 (LM ++ [(y, py)]) gb ga gc W' := h.rest hr hk ((inner_rb h.rb hb).1 hm)
theorem Ry.no {y : Fl} {py : Mp} {r2 r3 : List Nat} {e2 e3 m : Int} {W' : World} (h : Ry w br b a cap F n q0 gr R gx f p k r LM y py r2 e2 gb ga gc W) (hm : m ≠ 0) (hk : Kept (Only br) W W') (hb : Rb cInt r2 e2 m r3 e3) :
    ∀ W2, RR W2 br b a cap F [] (Pk.keep e3 3) → Kept (Only br) W' W2 → Rz w br b a cap F n q0 gr R gx f p (k + 1) [] (Pk.keep e3 3) (LM ++ [(y, py)]) gb ga gc W2 := fun _ hr hk2 => h.rest hr (hk.trans hk2) ((inner_rb h.rb hb).2 hm)
end
/-- what is told of all bytes -/
def AldM (F : List Nat) (w : World) (x : Ending) (w' : World) : Prop :=
  Below w.heap.size w w' ∧ match cMsg.all F with
    | some y => ∃ (p : Mp) (LM : List Mr), x = .returned (.tuple #[Mr.val (y.head, p), .bool true]) ∧ LM.map Prod.fst = y.inner ∧ OwnM (fun k => w.heap.size ≤ k) w' (y.head, p) LM
    | none => x = .returned (.tuple #[Mr.zero.val, .bool false])
theorem Im.ownM {W : World} {g0 gx : Nat} {f : Fl} {p : Mp} {LM : List Mr} {b : Nat} {a : Option Addr} {cap : Nat} (h : Im g0 gx f p LM b a cap W) (h1 : g0 < gx) : OwnM (fun k => g0 < k) W (f, { p with ia := a, n := LM.length, ic := cap }) LM :=
  ⟨(h.self.with a LM.length cap).mono (fun k e => e.1), fun y hy => (h.all y hy).mono (fun k e => e.1), h.zero, rfl, b, h.own, fun _ => by have := h.hi; omega⟩
/-- the head read, and how many inner ones there are -/
theorem Rz.start {w W : World} {br b : Nat} {a : Option Addr} {cap : Nat} {F l1 q0 : List Nat} {n e1 e2 : Int} {gr gx : Nat} {R : Obj} {f : Fl} {ea : Option Addr} {ec sb : Nat} {sa : Option Addr} {sc : Nat} (hX : Ro2 w br b a cap F q0 e2 gr R gx (Mr.obj (f, ⟨ea, ec, sb, sa, sc, none, 0, 0⟩)) W) (hy : FlOwn (fun k => br < k ∧ k < gx) W (f, ⟨ea, ec, sb, sa, sc, none, 0, 0⟩))
    (ho : gr < br ∧ br < gx) (hh : Rb cHead F 0 f l1 e1) (hb : Rb cInt l1 e1 n q0 e2) (g0 : 0 ≤ n) (g1 : n ≤ 16) : Rz w br b a cap F n q0 gr R gx f ⟨ea, ec, sb, sa, sc, none, 0, 0⟩ 0 q0 e2 [] (gx + 1) none 0 W := by
  have hg := heap_lt hX.xbox
  refine ⟨hX, ⟨OwnC.nil _ _ _ _, Nat.lt_succ_self _, hy.mono (fun k e => ⟨e.1, by omega, by omega, fun e2 => e2.1 rfl⟩), (fun y hy => by cases hy), (fun y hy => by cases hy)⟩, ho, fun _ => rep_zero _, fun he => ?_, fun he => ?_⟩
  · rcases hb with ⟨h1, _, hd⟩ | ⟨h1, _⟩
    · rcases hh with ⟨_, _, h2⟩ | ⟨h2, _⟩
      · exact ⟨l1, h2, rdUp_yes hd g0 g1⟩
      · exact absurd h1 h2
    · exact absurd he h1
  · rcases hh with ⟨_, h1, h2⟩ | ⟨_, h2⟩
    · rcases hb with ⟨_, h3, _⟩ | ⟨_, h3⟩
      · exact absurd h3 he
      · exact seq_no2 h2 (cLi_no1 (rdUp_no (h3 h1)))
    · exact seq_no1 (h2 rfl)
theorem Rz.far {w W : World} {br b : Nat} {a : Option Addr} {cap : Nat} {F l1 q0 : List Nat} {n e1 e2 : Int} {gr gx : Nat} {R : Obj} {f : Fl} {ea : Option Addr} {ec sb : Nat} {sa : Option Addr} {sc : Nat} (hX : Ro2 w br b a cap F q0 e2 gr R gx (Mr.obj (f, ⟨ea, ec, sb, sa, sc, none, 0, 0⟩)) W) (hy : FlOwn (fun k => br < k ∧ k < gx) W (f, ⟨ea, ec, sb, sa, sc, none, 0, 0⟩))
    (ho : gr < br ∧ br < gx) (hh : Rb cHead F 0 f l1 e1) (hb : Rb cInt l1 e1 n q0 e2) (hn : ¬ (0 ≤ n ∧ n ≤ 16)) : ∀ W', RR W' br b a cap F [] (Pk.keep e2 3) → Kept (Only br) W W' → Rz w br b a cap F n q0 gr R gx f ⟨ea, ec, sb, sa, sc, none, 0, 0⟩ 0 [] (Pk.keep e2 3) [] (gx + 1) none 0 W' := fun W' hr hk => by
  have hg := heap_lt hX.xbox
  have hz := hk.size
  refine ⟨hX.callx hr hk, ⟨OwnC.nil _ _ _ _, Nat.lt_succ_self _, (hy.kept hk (fun k e e2 => by have := e.1; have e2 : k = br := e2; omega)).mono (fun k e => ⟨e.1, by omega, by omega, fun e2 => e2.1 rfl⟩), (fun y hy => by cases hy), (fun y hy => by cases hy)⟩, ho, fun he => absurd he (keep_ne (by decide)), fun he => absurd he (keep_ne (by decide)), fun _ => ?_⟩
  rcases hh with ⟨_, h1, h2⟩ | ⟨_, h2⟩
  · rcases hb with ⟨_, h3, hd⟩ | ⟨_, h3⟩
    · exact seq_no2 h2 (cLi_no1 (rdUp_far hd hn))
    · exact seq_no2 h2 (cLi_no1 (rdUp_no (h3 h1)))
  · exact seq_no1 (h2 rfl)
set_option maxHeartbeats 12800000 in
set_option maxRecDepth 100000 in
theorem RefReadMsg {w : World} {b : Nat} {a : Option Addr} {cap : Nat} {F : List Nat} (h : Mem.Src w b a cap F) (h8 : B8 F) (hF : F.length ≤ 100000) :
    Calls Tryz.prog 11 #[.slice a F.length cap] w (AldM F w) := by
  obtain ⟨N, hn⟩ : ∃ N, N = F.length := ⟨_, rfl⟩
  rw [← hn]
  have HX := Lib.hid (Ro1.start h h8 Mr.zero.obj N hn)
  have HN := Lib.hid hn
  obtain ⟨br, hbr⟩ : ∃ br, br = w.heap.size + 1 := ⟨_, rfl⟩
  have hwb : w.heap.size < br := by omega
  rw [← hbr] at HX
  have HBR := Lib.hid hbr
  clear h h8 hn
  go_enter Tryz.func11, Tryz.ntmps11
  go_wp2_with fail
  rw [← HBR.out]
  refine (Head_rt HX.out.rr hF).mono ?_
  rintro x w2 ⟨f, ea, ec, sb, sa, sc, l1, e1, rfl, hy, h1, k1, hb⟩
  have HH := Lib.hid hb
  have HY := Lib.hid (show FlOwn (fun k => br < k ∧ k < w2.heap.size) w2 _ from hy.bound.mono (fun k e => by have := e.1; simp only [size_alloc] at this; exact ⟨by omega, e.2⟩))
  have HOR := Lib.hid (show w.heap.size < br ∧ br < w2.heap.size from ⟨hwb, Nat.lt_of_lt_of_le HX.out.rr.lt1 k1.size⟩)
  have HX := Lib.hid ((HX.out.call h1 k1).more (Mr.obj (f, ⟨ea, ec, sb, sa, sc, none, 0, 0⟩)))
  have HY := Lib.hid (HY.out.kept ((Kept.refl Mem.None w2).alloc (Mr.obj (f, ⟨ea, ec, sb, sa, sc, none, 0, 0⟩))) (fun _ _ h => h))
  clear h1 k1 hb hy hwb hbr
  go_wp2_with fail
  refine (Int_rt HX.out.rr hF).mono ?_
  rintro x w4 ⟨n, q0, e2, rfl, h1, k1, b1⟩
  have HX := Lib.hid (HX.out.callx h1 k1)
  have HY := Lib.hid (HY.out.kept k1 (fun k e e2 => by have := e.1; have e2 : k = br := e2; omega))
  have HNO := Lib.hid (refNone_any2 h1 3 (by decide))
  have HFAR := Lib.hid (fun hn => Rz.far HX.out HY.out HOR.out HH.out b1 hn)
  have HNEAR := Lib.hid (fun g0 g1 => Rz.start HX.out HY.out HOR.out HH.out b1 g0 g1)
  clear h1 k1 b1 HX HY HH HOR
  generalize w2.heap.size = gx at *
  rcases (by omega : n < 0 ∨ (0 ≤ n ∧ 16 < n) ∨ (0 ≤ n ∧ n ≤ 16)) with g | g | g
  case' inl =>
    have d1 : decide (n < 0) = true := decide_eq_true g
    go_wp2_with (go_at_call 28; refine Calls.mono HNO.out ?_; rintro x w5 ⟨rfl, hr, hk⟩)
    have HZ := Lib.hid (HFAR.out (fun h => by omega) w5 hr hk)
    clear hr hk
  case' inr.inl =>
    have d1 : decide (n < 0) = false := decide_eq_false (by omega)
    have d2 : decide (16 < n) = true := decide_eq_true g.2
    go_wp2_with (go_at_call 28; refine Calls.mono HNO.out ?_; rintro x w5 ⟨rfl, hr, hk⟩)
    have HZ := Lib.hid (HFAR.out (fun h => by omega) w5 hr hk)
    clear hr hk
  case' inr.inr =>
    have d1 : decide (n < 0) = false := decide_eq_false (by omega)
    have d2 : decide (16 < n) = false := decide_eq_false (by omega)
    have HZ := Lib.hid (HNEAR.out g.1 g.2)
    go_wp2_with fail
  all_goals
    clear HFAR HNEAR HNO g
    generalize (⟨ea, ec, sb, sa, sc, none, 0, 0⟩ : Mp) = p at *
    go_loopw [7] (fun i wr => ∃ (k : Nat) (r : List Nat) (e' : Int) (LM : List Mr) (gb : Nat) (ga : Option Addr) (gc : Nat), k ≤ n.toNat ∧ LM.length = k ∧ i = .int .i64 k ∧ Hid (Rz w br b a cap F n q0 w.heap.size Mr.zero.obj gx f p k r e' LM gb ga gc wr)) (fun i _ => n.toNat - (intOf i).toNat)
    case atStart => exact ⟨0, _, _, [], _, none, 0, Nat.zero_le _, rfl, rfl, HZ.out⟩
    case round =>
      clear HZ
      obtain ⟨k, r, e', LM, gb, ga, gc, hk, hL, rfl, HQ⟩ := hrel
      by_cases hlt : (k : Int) < n
      · have d3 : decide ((k : Int) < n) = true := decide_eq_true hlt
        by_cases he : e' = 0
        · subst he
          subst hL
          obtain ⟨at_, _, hB, _⟩ := HQ.out.ro.rr
          obtain ⟨c0, c1, c2, _⟩ := cells3 hB
          clear hB
          go_wp2_with fail
          clear c0 c1 c2
          have hgl : (LM.length : Int) ≤ 16 := HQ.out.few hlt
          refine wp_region_held_drew (S := fun _ => True) (by kernel_rfl) trivial (fun hS => ?_)
          have hdr : Beh wr wr.drew := (Beh.start _).drew
          have hS0 : wr.drew.heap[gx]? = some (.cells #[.int .i64 f.kind, .int .i64 f.from_, .int .i64 f.to, .int .i64 f.term, .int .i64 f.index, .int .i64 f.logt, .int .i64 f.commit, .int .i64 f.round, .bool f.yes, .slice p.ea f.ents.length p.ec, .int .i64 f.conf.f, .int .i64 f.conf.w, .int .i64 f.conf.l, .int .i64 f.conf.x, .slice p.sa f.snap.length p.sc, .slice ga LM.length gc] 28) := HQ.out.ro.xbox
          have HC2 := Lib.hid (Head_rt (HQ.out.ro.rr.kept (kept_beh hdr) (fun h => h) (fun _ h => h)) hF)
          generalize World.drew wr = wd at HC2 hS0 hdr ⊢
          (try simp only [Act.put, List.getElem_toArray, List.getElem_cons_succ, List.getElem_cons_zero, List.setIfInBounds_toArray, List.set_cons_zero, List.set_cons_succ])
          refine wpAnyH_take (i := 0) (v := ?_) rfl (by kernel_rfl) (by kernel_rfl) (by kernel_rfl) (fun _ _ _ h => h) (Or.inl ⟨by rfl, ?_⟩) hS ?_
          rotate_left
          · intro W hW; go_simp; try with_reducible rfl
          (try simp only [Act.put, List.getElem_toArray, List.getElem_cons_zero, List.setIfInBounds_toArray, List.set_cons_zero, List.set_cons_succ])
          refine wpAnyH_take (i := 2) (v := ?_) rfl (by kernel_rfl) (by kernel_rfl) (by kernel_rfl) (fun _ _ _ h => h) (Or.inl ⟨by rfl, ?_⟩) hS ?_
          rotate_left
          · intro W hW; go_simp; try with_reducible rfl
          (try simp only [Act.put, List.getElem_toArray, List.getElem_cons_succ, List.getElem_cons_zero, List.setIfInBounds_toArray, List.set_cons_zero, List.set_cons_succ])
          refine wpAnyH_ready (rs := [1, 3]) (by kernel_rfl) (by simp) ?_
          refine AllReadyH.cons rfl (fun K hK => ?_) (AllReadyH.cons rfl (fun K hK => ?_) (AllReadyH.nil))
          all_goals (try simp only [List.getElem_toArray, List.getElem_cons_succ, List.getElem_cons_zero])
          · have x15 := Bh.cell15 hS0
            go_simp
            refine hK.out _ _ (trivial) (fun hS => ?_)
            clear hK K
            (try simp only [Act.put, List.getElem_toArray, List.getElem_cons_succ, List.getElem_cons_zero, List.setIfInBounds_toArray, List.set_cons_zero, List.set_cons_succ])
            clear x15
            refine wpAnyH_ready (rs := [3]) (by kernel_rfl) (by simp) ?_
            refine AllReadyH.cons rfl (fun K hK => ?_) (AllReadyH.nil)
            all_goals (try simp only [List.getElem_toArray, List.getElem_cons_succ, List.getElem_cons_zero])
            go_simp
            go_at_call 26
            refine HC2.out.mono ?_
            rintro e w1 ⟨f2, ea2, ec2, sb2, sa2, sc2, r2, e2, rfl, hy, hr, hk, hb⟩
            have hS1 : w1.heap[gx]? = some (.cells #[.int .i64 f.kind, .int .i64 f.from_, .int .i64 f.to, .int .i64 f.term, .int .i64 f.index, .int .i64 f.logt, .int .i64 f.commit, .int .i64 f.round, .bool f.yes, .slice p.ea f.ents.length p.ec, .int .i64 f.conf.f, .int .i64 f.conf.w, .int .i64 f.conf.l, .int .i64 f.conf.x, .slice p.sa f.snap.length p.sc, .slice ga LM.length gc] 28) := keptO hk hS0 HQ.out.ne
            refine hK.out _ _ (trivial) (fun hS => ?_)
            clear hK K
            (try simp only [Act.put, List.getElem_toArray, List.getElem_cons_succ, List.getElem_cons_zero, List.setIfInBounds_toArray, List.set_cons_zero, List.set_cons_succ])
            refine wpAnyH_ready (rs := [4]) (by kernel_rfl) (by simp) ?_
            refine AllReadyH.cons rfl (fun K hK => ?_) (AllReadyH.nil)
            all_goals (try simp only [List.getElem_toArray, List.getElem_cons_succ, List.getElem_cons_zero])
            refine step_alloc_b (v := .slice (some ⟨w1.heap.size, 0, none⟩) 1 1) rfl (Mr.obj (f2, ⟨ea2, ec2, sb2, sa2, sc2, none, 0, 0⟩)) (by go_simp; rfl) ?_
            intro w2 hb2 hnew2
            have hS2 : w2.heap[gx]? = some (.cells #[.int .i64 f.kind, .int .i64 f.from_, .int .i64 f.to, .int .i64 f.term, .int .i64 f.index, .int .i64 f.logt, .int .i64 f.commit, .int .i64 f.round, .bool f.yes, .slice p.ea f.ents.length p.ec, .int .i64 f.conf.f, .int .i64 f.conf.w, .int .i64 f.conf.l, .int .i64 f.conf.x, .slice p.sa f.snap.length p.sc, .slice ga LM.length gc] 28) := hb2.box hS1
            refine hK.out _ _ (trivial) (fun hS => ?_)
            clear hK K
            (try simp only [Act.put, List.setIfInBounds_toArray, List.set_cons_zero, List.set_cons_succ])
            refine wpAnyH_ready (rs := [5]) (by kernel_rfl) (by simp) ?_
            refine AllReadyH.cons rfl (fun K hK => ?_) (AllReadyH.nil)
            all_goals (try simp only [List.getElem_toArray, List.getElem_cons_succ, List.getElem_cons_zero])
            refine step_append_y rfl (.tmp 36) (.tmp 39) 26 rfl 28 16 _ _ 176 Tryz.underlying26 rfl rfl rfl rfl rfl gb ga gc LM.length (Li.flat LM) (by simp [Act.eval]) (OwnC.kept (OwnC.kept HQ.out.im.own ((kept_beh hdr).ofNone.trans hk) (fun _ e => by have e : gb = br := e; have := HQ.out.im.hi; have := HQ.out.ord; omega)) (kept_beh hb2) (fun _ h => h)) _ 1 1 _ (by simp [Act.eval]) (Li.ListAt.src (Li.lit_list (L := [((f2, ⟨ea2, ec2, sb2, sa2, sc2, none, 0, 0⟩) : Mr)]) hnew2 rfl (by simp))) Li.flat_one (by omega) (by omega) ?_
            intro b' a' cap' w3 h2 h3 h4 h5
            have hS3 : w3.heap[gx]? = some (.cells #[.int .i64 f.kind, .int .i64 f.from_, .int .i64 f.to, .int .i64 f.term, .int .i64 f.index, .int .i64 f.logt, .int .i64 f.commit, .int .i64 f.round, .bool f.yes, .slice p.ea f.ents.length p.ec, .int .i64 f.conf.f, .int .i64 f.conf.w, .int .i64 f.conf.l, .int .i64 f.conf.x, .slice p.sa f.snap.length p.sc, .slice ga LM.length gc] 28) := h3.heap hS2 (fun e => by have := e.2; have := HQ.out.im.hi; omega)
            refine hK.out _ _ (trivial) (fun hS => ?_)
            clear hK K
            (try simp only [Act.put, List.setIfInBounds_toArray, List.set_cons_zero, List.set_cons_succ])
            refine wpAnyH_take (i := 6) (v := ?_) rfl (by kernel_rfl) (by kernel_rfl) (by kernel_rfl) (fun _ _ _ h => h) (Or.inl ⟨by rfl, ?_⟩) hS ?_
            rotate_left
            · intro W hW; go_simp; try with_reducible rfl
            (try simp only [Act.put, List.getElem_toArray, List.getElem_cons_succ, List.getElem_cons_zero, List.setIfInBounds_toArray, List.set_cons_zero, List.set_cons_succ])
            refine wpAnyH_ready (rs := [7]) (by kernel_rfl) (by simp) ?_
            refine AllReadyH.cons rfl (fun K hK => ?_) (AllReadyH.nil)
            all_goals (try simp only [List.getElem_toArray, List.getElem_cons_succ, List.getElem_cons_zero])
            (apply step_store_g1 hS3; rfl; rfl; rfl; rfl; rfl; rfl; kernel_rfl; rfl)
            intro w4 hx4 he4
            have HP := Lib.hid (HQ.out.step hlt hdr hr hk hy hb hb2 h2 h3 h4 hx4 he4)
            refine hK.out _ _ (trivial) (fun hS => ?_)
            clear hK K
            (try simp only [Act.put])
            refine wpAnyH_done (by kernel_rfl) ?_ _
            clear hS hx4 he4 h2 h3 h4 h5 hS3 hS2 hS1 hS0 hnew2 hb2 hr hk hy hb hdr
            go_wp2_with fail
            refine (Int_rt HP.out.ro.rr hF).mono ?_
            rintro x w5 ⟨m, r3, e3, rfl, h1, k1, b1⟩
            by_cases hm : m = 0
            · have HN := Lib.hid (HP.out.yes hm h1 k1 b1)
              have d5 : (m != 0) = false := by simpa using hm
              clear h1 k1 b1 HP hm
              go_wp2_with fail
              go_roundw
              case rel => exact ⟨LM.length + 1, _, _, _, b', a', cap', by omega, by simp, by go_num, HN.out⟩
              case measure => simp [intOf]; omega
            · have HNO := Lib.hid (refNone_any2 h1 3 (by decide))
              have HN := Lib.hid (HP.out.no hm k1 b1)
              have d5 : (m != 0) = true := by simpa using hm
              clear h1 k1 b1 HP hm
              go_wp2_with (go_at_call 28; refine Calls.mono HNO.out ?_; rintro x w6 ⟨rfl, hr, hk⟩)
              have HN := Lib.hid (HN.out w6 hr hk)
              clear hr hk HNO
              go_roundw
              case rel => exact ⟨LM.length + 1, _, _, _, b', a', cap', by omega, by simp, by go_num, HN.out⟩
              case measure => simp [intOf]; omega
          · go_simp
            go_at_call 26
            refine HC2.out.mono ?_
            rintro e w1 ⟨f2, ea2, ec2, sb2, sa2, sc2, r2, e2, rfl, hy, hr, hk, hb⟩
            have hS1 : w1.heap[gx]? = some (.cells #[.int .i64 f.kind, .int .i64 f.from_, .int .i64 f.to, .int .i64 f.term, .int .i64 f.index, .int .i64 f.logt, .int .i64 f.commit, .int .i64 f.round, .bool f.yes, .slice p.ea f.ents.length p.ec, .int .i64 f.conf.f, .int .i64 f.conf.w, .int .i64 f.conf.l, .int .i64 f.conf.x, .slice p.sa f.snap.length p.sc, .slice ga LM.length gc] 28) := keptO hk hS0 HQ.out.ne
            refine hK.out _ _ (trivial) (fun hS => ?_)
            clear hK K
            (try simp only [Act.put, List.getElem_toArray, List.getElem_cons_succ, List.getElem_cons_zero, List.setIfInBounds_toArray, List.set_cons_zero, List.set_cons_succ])
            refine wpAnyH_ready (rs := [1, 4]) (by kernel_rfl) (by simp) ?_
            refine AllReadyH.cons rfl (fun K hK => ?_) (AllReadyH.cons rfl (fun K hK => ?_) (AllReadyH.nil))
            all_goals (try simp only [List.getElem_toArray, List.getElem_cons_succ, List.getElem_cons_zero])
            · have x15 := Bh.cell15 hS1
              go_simp
              refine hK.out _ _ (trivial) (fun hS => ?_)
              clear hK K
              (try simp only [Act.put, List.getElem_toArray, List.getElem_cons_succ, List.getElem_cons_zero, List.setIfInBounds_toArray, List.set_cons_zero, List.set_cons_succ])
              clear x15
              refine wpAnyH_ready (rs := [4]) (by kernel_rfl) (by simp) ?_
              refine AllReadyH.cons rfl (fun K hK => ?_) (AllReadyH.nil)
              all_goals (try simp only [List.getElem_toArray, List.getElem_cons_succ, List.getElem_cons_zero])
              refine step_alloc_b (v := .slice (some ⟨w1.heap.size, 0, none⟩) 1 1) rfl (Mr.obj (f2, ⟨ea2, ec2, sb2, sa2, sc2, none, 0, 0⟩)) (by go_simp; rfl) ?_
              intro w2 hb2 hnew2
              have hS2 : w2.heap[gx]? = some (.cells #[.int .i64 f.kind, .int .i64 f.from_, .int .i64 f.to, .int .i64 f.term, .int .i64 f.index, .int .i64 f.logt, .int .i64 f.commit, .int .i64 f.round, .bool f.yes, .slice p.ea f.ents.length p.ec, .int .i64 f.conf.f, .int .i64 f.conf.w, .int .i64 f.conf.l, .int .i64 f.conf.x, .slice p.sa f.snap.length p.sc, .slice ga LM.length gc] 28) := hb2.box hS1
              refine hK.out _ _ (trivial) (fun hS => ?_)
              clear hK K
              (try simp only [Act.put, List.setIfInBounds_toArray, List.set_cons_zero, List.set_cons_succ])
              refine wpAnyH_ready (rs := [5]) (by kernel_rfl) (by simp) ?_
              refine AllReadyH.cons rfl (fun K hK => ?_) (AllReadyH.nil)
              all_goals (try simp only [List.getElem_toArray, List.getElem_cons_succ, List.getElem_cons_zero])
              refine step_append_y rfl (.tmp 36) (.tmp 39) 26 rfl 28 16 _ _ 176 Tryz.underlying26 rfl rfl rfl rfl rfl gb ga gc LM.length (Li.flat LM) (by simp [Act.eval]) (OwnC.kept (OwnC.kept HQ.out.im.own ((kept_beh hdr).ofNone.trans hk) (fun _ e => by have e : gb = br := e; have := HQ.out.im.hi; have := HQ.out.ord; omega)) (kept_beh hb2) (fun _ h => h)) _ 1 1 _ (by simp [Act.eval]) (Li.ListAt.src (Li.lit_list (L := [((f2, ⟨ea2, ec2, sb2, sa2, sc2, none, 0, 0⟩) : Mr)]) hnew2 rfl (by simp))) Li.flat_one (by omega) (by omega) ?_
              intro b' a' cap' w3 h2 h3 h4 h5
              have hS3 : w3.heap[gx]? = some (.cells #[.int .i64 f.kind, .int .i64 f.from_, .int .i64 f.to, .int .i64 f.term, .int .i64 f.index, .int .i64 f.logt, .int .i64 f.commit, .int .i64 f.round, .bool f.yes, .slice p.ea f.ents.length p.ec, .int .i64 f.conf.f, .int .i64 f.conf.w, .int .i64 f.conf.l, .int .i64 f.conf.x, .slice p.sa f.snap.length p.sc, .slice ga LM.length gc] 28) := h3.heap hS2 (fun e => by have := e.2; have := HQ.out.im.hi; omega)
              refine hK.out _ _ (trivial) (fun hS => ?_)
              clear hK K
              (try simp only [Act.put, List.setIfInBounds_toArray, List.set_cons_zero, List.set_cons_succ])
              refine wpAnyH_take (i := 6) (v := ?_) rfl (by kernel_rfl) (by kernel_rfl) (by kernel_rfl) (fun _ _ _ h => h) (Or.inl ⟨by rfl, ?_⟩) hS ?_
              rotate_left
              · intro W hW; go_simp; try with_reducible rfl
              (try simp only [Act.put, List.getElem_toArray, List.getElem_cons_succ, List.getElem_cons_zero, List.setIfInBounds_toArray, List.set_cons_zero, List.set_cons_succ])
              refine wpAnyH_ready (rs := [7]) (by kernel_rfl) (by simp) ?_
              refine AllReadyH.cons rfl (fun K hK => ?_) (AllReadyH.nil)
              all_goals (try simp only [List.getElem_toArray, List.getElem_cons_succ, List.getElem_cons_zero])
              (apply step_store_g1 hS3; rfl; rfl; rfl; rfl; rfl; rfl; kernel_rfl; rfl)
              intro w4 hx4 he4
              have HP := Lib.hid (HQ.out.step hlt hdr hr hk hy hb hb2 h2 h3 h4 hx4 he4)
              refine hK.out _ _ (trivial) (fun hS => ?_)
              clear hK K
              (try simp only [Act.put])
              refine wpAnyH_done (by kernel_rfl) ?_ _
              clear hS hx4 he4 h2 h3 h4 h5 hS3 hS2 hS1 hS0 hnew2 hb2 hr hk hy hb hdr
              go_wp2_with fail
              refine (Int_rt HP.out.ro.rr hF).mono ?_
              rintro x w5 ⟨m, r3, e3, rfl, h1, k1, b1⟩
              by_cases hm : m = 0
              · have HN := Lib.hid (HP.out.yes hm h1 k1 b1)
                have d5 : (m != 0) = false := by simpa using hm
                clear h1 k1 b1 HP hm
                go_wp2_with fail
                go_roundw
                case rel => exact ⟨LM.length + 1, _, _, _, b', a', cap', by omega, by simp, by go_num, HN.out⟩
                case measure => simp [intOf]; omega
              · have HNO := Lib.hid (refNone_any2 h1 3 (by decide))
                have HN := Lib.hid (HP.out.no hm k1 b1)
                have d5 : (m != 0) = true := by simpa using hm
                clear h1 k1 b1 HP hm
                go_wp2_with (go_at_call 28; refine Calls.mono HNO.out ?_; rintro x w6 ⟨rfl, hr, hk⟩)
                have HN := Lib.hid (HN.out w6 hr hk)
                clear hr hk HNO
                go_roundw
                case rel => exact ⟨LM.length + 1, _, _, _, b', a', cap', by omega, by simp, by go_num, HN.out⟩
                case measure => simp [intOf]; omega
            · refine step_alloc_b (v := .slice (some ⟨w1.heap.size, 0, none⟩) 1 1) rfl (Mr.obj (f2, ⟨ea2, ec2, sb2, sa2, sc2, none, 0, 0⟩)) (by go_simp; rfl) ?_
              intro w2 hb2 hnew2
              have hS2 : w2.heap[gx]? = some (.cells #[.int .i64 f.kind, .int .i64 f.from_, .int .i64 f.to, .int .i64 f.term, .int .i64 f.index, .int .i64 f.logt, .int .i64 f.commit, .int .i64 f.round, .bool f.yes, .slice p.ea f.ents.length p.ec, .int .i64 f.conf.f, .int .i64 f.conf.w, .int .i64 f.conf.l, .int .i64 f.conf.x, .slice p.sa f.snap.length p.sc, .slice ga LM.length gc] 28) := hb2.box hS1
              refine hK.out _ _ (trivial) (fun hS => ?_)
              clear hK K
              (try simp only [Act.put, List.setIfInBounds_toArray, List.set_cons_zero, List.set_cons_succ])
              refine wpAnyH_ready (rs := [1]) (by kernel_rfl) (by simp) ?_
              refine AllReadyH.cons rfl (fun K hK => ?_) (AllReadyH.nil)
              all_goals (try simp only [List.getElem_toArray, List.getElem_cons_succ, List.getElem_cons_zero])
              have x15 := Bh.cell15 hS2
              go_simp
              refine hK.out _ _ (trivial) (fun hS => ?_)
              clear hK K
              (try simp only [Act.put, List.getElem_toArray, List.getElem_cons_succ, List.getElem_cons_zero, List.setIfInBounds_toArray, List.set_cons_zero, List.set_cons_succ])
              clear x15
              refine wpAnyH_ready (rs := [5]) (by kernel_rfl) (by simp) ?_
              refine AllReadyH.cons rfl (fun K hK => ?_) (AllReadyH.nil)
              all_goals (try simp only [List.getElem_toArray, List.getElem_cons_succ, List.getElem_cons_zero])
              refine step_append_y rfl (.tmp 36) (.tmp 39) 26 rfl 28 16 _ _ 176 Tryz.underlying26 rfl rfl rfl rfl rfl gb ga gc LM.length (Li.flat LM) (by simp [Act.eval]) (OwnC.kept (OwnC.kept HQ.out.im.own ((kept_beh hdr).ofNone.trans hk) (fun _ e => by have e : gb = br := e; have := HQ.out.im.hi; have := HQ.out.ord; omega)) (kept_beh hb2) (fun _ h => h)) _ 1 1 _ (by simp [Act.eval]) (Li.ListAt.src (Li.lit_list (L := [((f2, ⟨ea2, ec2, sb2, sa2, sc2, none, 0, 0⟩) : Mr)]) hnew2 rfl (by simp))) Li.flat_one (by omega) (by omega) ?_
              intro b' a' cap' w3 h2 h3 h4 h5
              have hS3 : w3.heap[gx]? = some (.cells #[.int .i64 f.kind, .int .i64 f.from_, .int .i64 f.to, .int .i64 f.term, .int .i64 f.index, .int .i64 f.logt, .int .i64 f.commit, .int .i64 f.round, .bool f.yes, .slice p.ea f.ents.length p.ec, .int .i64 f.conf.f, .int .i64 f.conf.w, .int .i64 f.conf.l, .int .i64 f.conf.x, .slice p.sa f.snap.length p.sc, .slice ga LM.length gc] 28) := h3.heap hS2 (fun e => by have := e.2; have := HQ.out.im.hi; omega)
              refine hK.out _ _ (trivial) (fun hS => ?_)
              clear hK K
              (try simp only [Act.put, List.setIfInBounds_toArray, List.set_cons_zero, List.set_cons_succ])
              refine wpAnyH_take (i := 6) (v := ?_) rfl (by kernel_rfl) (by kernel_rfl) (by kernel_rfl) (fun _ _ _ h => h) (Or.inl ⟨by rfl, ?_⟩) hS ?_
              rotate_left
              · intro W hW; go_simp; try with_reducible rfl
              (try simp only [Act.put, List.getElem_toArray, List.getElem_cons_succ, List.getElem_cons_zero, List.setIfInBounds_toArray, List.set_cons_zero, List.set_cons_succ])
              refine wpAnyH_ready (rs := [7]) (by kernel_rfl) (by simp) ?_
              refine AllReadyH.cons rfl (fun K hK => ?_) (AllReadyH.nil)
              all_goals (try simp only [List.getElem_toArray, List.getElem_cons_succ, List.getElem_cons_zero])
              (apply step_store_g1 hS3; rfl; rfl; rfl; rfl; rfl; rfl; kernel_rfl; rfl)
              intro w4 hx4 he4
              have HP := Lib.hid (HQ.out.step hlt hdr hr hk hy hb hb2 h2 h3 h4 hx4 he4)
              refine hK.out _ _ (trivial) (fun hS => ?_)
              clear hK K
              (try simp only [Act.put])
              refine wpAnyH_done (by kernel_rfl) ?_ _
              clear hS hx4 he4 h2 h3 h4 h5 hS3 hS2 hS1 hS0 hnew2 hb2 hr hk hy hb hdr
              go_wp2_with fail
              refine (Int_rt HP.out.ro.rr hF).mono ?_
              rintro x w5 ⟨m, r3, e3, rfl, h1, k1, b1⟩
              by_cases hm : m = 0
              · have HN := Lib.hid (HP.out.yes hm h1 k1 b1)
                have d5 : (m != 0) = false := by simpa using hm
                clear h1 k1 b1 HP hm
                go_wp2_with fail
                go_roundw
                case rel => exact ⟨LM.length + 1, _, _, _, b', a', cap', by omega, by simp, by go_num, HN.out⟩
                case measure => simp [intOf]; omega
              · have HNO := Lib.hid (refNone_any2 h1 3 (by decide))
                have HN := Lib.hid (HP.out.no hm k1 b1)
                have d5 : (m != 0) = true := by simpa using hm
                clear h1 k1 b1 HP hm
                go_wp2_with (go_at_call 28; refine Calls.mono HNO.out ?_; rintro x w6 ⟨rfl, hr, hk⟩)
                have HN := Lib.hid (HN.out w6 hr hk)
                clear hr hk HNO
                go_roundw
                case rel => exact ⟨LM.length + 1, _, _, _, b', a', cap', by omega, by simp, by go_num, HN.out⟩
                case measure => simp [intOf]; omega
        · have d4 := int_nbeq he
          have HE := Lib.hid (HQ.out.end_ (fun h => absurd h he))
          obtain ⟨at_, _, hB, _⟩ := HQ.out.ro.rr
          obtain ⟨c0, c1, c2, _⟩ := cells3 hB
          clear hB he
          go_wp2_with fail
          have HA := Lib.hid (all_of cMsg HE.out)
          clear HE
          refine (Over_rt HQ.out.ro.rr a N cap).mono ?_
          rintro x w11 ⟨rfl, nd, hw3⟩
          have HX := Lib.hid (HQ.out.ro.callx (W' := w11) (hw3 ▸ HQ.out.ro.rr.kept ((Kept.refl Mem.None _).drewN nd) (fun h => h) (fun _ h => h)) (hw3 ▸ (Kept.refl (Only _) _).drewN nd))
          have HO := Lib.hid ((HQ.out.im.call (W' := w11) (hw3 ▸ (Kept.refl (Only br) _).drewN nd) (Nat.le_refl _) HQ.out.ord.2).ownM HQ.out.ord.2)
          clear hw3 HQ
          by_cases hq : e' = 0 ∧ r = [] ∧ N ≤ 16384
          · rw [decide_eq_true hq]
            have HAA : Hid (cMsg.all F = some ⟨f, LM.map Prod.fst⟩) := Lib.hid (by rw [HA.out, if_pos (by rw [← HN.out]; exact hq)])
            clear hq HA
            go_wp2_with (first | (apply load_g HX.out.xbox Tryz.underlying28; rfl; rfl; rfl; rfl; kernel_rfl) | (apply store_g 16 HX.out.box; rfl; rfl; rfl; rfl; rfl; kernel_rfl; rfl; rfl; intro wz hz he; have HX := Lib.hid (HX.out.setR hz he); (have HO := Lib.hid (HO.out.kept (else_kept he) (fun k e e2 => by have e2 : k = w.heap.size := e2; have := HBR.out; omega))); clear hz he))
            (try simp only [Exit.inBlock, Exit.then])
            refine bodyPost_ret (Bh.results_cell_row2 rfl _ _ _ _ _ _ _ rfl HX.out.box Tryz.underlying28 rfl (by kernel_rfl)) rfl ?_
            refine ⟨HX.out.beh, ?_⟩
            rw [HAA.out]
            exact ⟨_, LM, rfl, rfl, HO.out.mono (fun k e => by have := HBR.out; omega)⟩
          · rw [decide_eq_false hq]
            have HAA : Hid (cMsg.all F = none) := Lib.hid (by rw [HA.out, if_neg (by rw [← HN.out]; exact hq)])
            clear hq HA HO
            go_wp2_with (first | (apply store_g 16 HX.out.box; rfl; rfl; rfl; rfl; rfl; kernel_rfl; rfl; rfl; intro wz hz he; have HX := Lib.hid (HX.out.setR hz he); clear hz he))
            (try simp only [Exit.inBlock, Exit.then])
            refine bodyPost_ret (Bh.results_cell_row2 rfl _ _ _ _ _ _ _ rfl HX.out.box Tryz.underlying28 rfl (by kernel_rfl)) rfl ?_
            refine ⟨HX.out.beh, ?_⟩
            rw [HAA.out]
            rfl
      · have d3 : decide ((k : Int) < n) = false := decide_eq_false hlt
        have HE := Lib.hid (HQ.out.end_ (fun _ => by omega))
        go_wp2_with fail
        have HA := Lib.hid (all_of cMsg HE.out)
        clear HE
        refine (Over_rt HQ.out.ro.rr a N cap).mono ?_
        rintro x w11 ⟨rfl, nd, hw3⟩
        have HX := Lib.hid (HQ.out.ro.callx (W' := w11) (hw3 ▸ HQ.out.ro.rr.kept ((Kept.refl Mem.None _).drewN nd) (fun h => h) (fun _ h => h)) (hw3 ▸ (Kept.refl (Only _) _).drewN nd))
        have HO := Lib.hid ((HQ.out.im.call (W' := w11) (hw3 ▸ (Kept.refl (Only br) _).drewN nd) (Nat.le_refl _) HQ.out.ord.2).ownM HQ.out.ord.2)
        clear hw3 HQ
        by_cases hq : e' = 0 ∧ r = [] ∧ N ≤ 16384
        · rw [decide_eq_true hq]
          have HAA : Hid (cMsg.all F = some ⟨f, LM.map Prod.fst⟩) := Lib.hid (by rw [HA.out, if_pos (by rw [← HN.out]; exact hq)])
          clear hq HA
          go_wp2_with (first | (apply load_g HX.out.xbox Tryz.underlying28; rfl; rfl; rfl; rfl; kernel_rfl) | (apply store_g 16 HX.out.box; rfl; rfl; rfl; rfl; rfl; kernel_rfl; rfl; rfl; intro wz hz he; have HX := Lib.hid (HX.out.setR hz he); (have HO := Lib.hid (HO.out.kept (else_kept he) (fun k e e2 => by have e2 : k = w.heap.size := e2; have := HBR.out; omega))); clear hz he))
          (try simp only [Exit.inBlock, Exit.then])
          refine bodyPost_ret (Bh.results_cell_row2 rfl _ _ _ _ _ _ _ rfl HX.out.box Tryz.underlying28 rfl (by kernel_rfl)) rfl ?_
          refine ⟨HX.out.beh, ?_⟩
          rw [HAA.out]
          exact ⟨_, LM, rfl, rfl, HO.out.mono (fun k e => by have := HBR.out; omega)⟩
        · rw [decide_eq_false hq]
          have HAA : Hid (cMsg.all F = none) := Lib.hid (by rw [HA.out, if_neg (by rw [← HN.out]; exact hq)])
          clear hq HA HO
          go_wp2_with (first | (apply store_g 16 HX.out.box; rfl; rfl; rfl; rfl; rfl; kernel_rfl; rfl; rfl; intro wz hz he; have HX := Lib.hid (HX.out.setR hz he); clear hz he))
          (try simp only [Exit.inBlock, Exit.then])
          refine bodyPost_ret (Bh.results_cell_row2 rfl _ _ _ _ _ _ _ rfl HX.out.box Tryz.underlying28 rfl (by kernel_rfl)) rfl ?_
          refine ⟨HX.out.beh, ?_⟩
          rw [HAA.out]
          rfl
end Go.Proofs.YtaengjgmchpabaaGreat.Wr
