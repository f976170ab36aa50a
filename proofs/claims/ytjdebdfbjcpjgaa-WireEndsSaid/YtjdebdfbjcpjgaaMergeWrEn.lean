import Derived.Test.YtjdebdfbjcpjgaaWireCutP
import Derived.Test.YtjdebdfbjcpjgaaWireIn
import Derived.Test.YtjdebdfbjcpjgaaWireMsgL
import Derived.Test.YtjdebdfbjcpjgaaWireKM
import Derived.Laws.MakeOwn
import Derived.BigFrame
import Derived.Test.YtjdebdfbjcpjgaaWireTell
import Derived.Deep.DeepCutAuto
section
/- As many as may be, and one more: what is written of noughts. -/
namespace Go.Proofs.Ytjdebdfbjcpjgaa.Li
open Go Go.RowKit
/-- a block of noughts is a list of them -/
theorem made_flat {α : Type} [Row α] (z : α) (n : Nat) : madeCells (Row.cells z).toArray (n * Row.k α) = (flat (List.replicate n z)).toArray := by
  have hp := Row.pos (α := α)
  have hl := Row.len z
  apply Array.ext
  · rw [size_madeCells, List.size_toArray, flat_length, List.length_replicate]
  · intro i h1 h2
    rw [size_madeCells] at h1
    have hi : i / Row.k α < n := (Nat.div_lt_iff_lt_mul hp).2 h1
    have hm : i % Row.k α < Row.k α := Nat.mod_lt _ hp
    have hd : i / Row.k α * Row.k α + i % Row.k α = i := by rw [Nat.mul_comm]; exact Nat.div_add_mod _ _
    have hh := flat_at (List.replicate n z) (i / Row.k α) (i % Row.k α) (by rw [List.length_replicate]; exact hi) hm
    rw [hd, List.getElem_replicate] at hh
    have h3 : i < (flat (List.replicate n z)).length := by rw [List.size_toArray] at h2; exact h2
    rw [List.getElem?_eq_getElem h3] at hh
    have h4 : i % Row.k α < (Row.cells z).length := by rw [hl]; exact hm
    rw [List.getElem?_eq_getElem h4] at hh
    injection hh with hh
    show (madeCells (Row.cells z).toArray (n * Row.k α))[i] = (flat (List.replicate n z)).toArray[i]
    have e2 : (flat (List.replicate n z)).toArray[i] = (flat (List.replicate n z))[i] := by simp
    rw [e2, hh]
    unfold madeCells
    simp [hl, hm]
end Go.Proofs.Ytjdebdfbjcpjgaa.Li
namespace Go.Proofs.Ytjdebdfbjcpjgaa.Bh
open Go Go.RowKit
/-- load_bx, of an operation behind a guard that is met; behind it: rfl; exact Eq.refl true; rfl; rfl; rfl; kernel_rfl -/
theorem load_bxg {P : Program} {ops : Array Oper} {rest : List Oper} {o : Oper} {a : Go.Act} {w0 w : World} {l : List Obj} {Q : Exit → Go.Act → World → Prop} (i : Nat) (HB : Bx w0 l w) {ty : TypeId} {d : TypeDesc} (hu : P.underlying ty = some d) {t : TypeId} {cs : Array Value} (hl : l[i]? = some (.cells cs t))
    {x : Operand} (hw : Region.wanted o (yielded ops a.tmps) = true) (ho : o.op = .load ty x) (hx : a.eval x = .pointer (some ⟨w0.heap.size + i, 0, none⟩))
    (hd : (match d with | .struct _ | .array _ _ => true | _ => false) = true) (hi : (P.info? ty).map (·.size) = some cs.size)
    (h : wpList P ops Q rest (a.put o.dst (.agg cs)) w) : wpList P ops Q (o :: rest) a w :=
  BigFrame.wpList_want hw fun _ hK => wp_load_row ty x ho _ hx t cs (0, 0) d (HB.box i _ hl) hu hd hi (hK _ _ h)
end Go.Proofs.Ytjdebdfbjcpjgaa.Bh
namespace Go.Proofs.Ytjdebdfbjcpjgaa.Wr
open Go Go.RowKit Vl Kv Ss Cn Lg Li Nm Mem
theorem madeEnts (w : World) (n : Nat) : (w.alloc (.cells (madeCells E.zero.agg.cells (n * 16)) 32)).heap[w.heap.size]? = some (.cells (flat (List.replicate n E.zero)).toArray 32) := by
  rw [← made_flat E.zero n]
  exact alloc_here _ rfl
theorem madeMsgs (w : World) (n : Nat) : (w.alloc (.cells (madeCells Mr.zero.val.cells (n * 16)) 61)).heap[w.heap.size]? = some (.cells (flat (List.replicate n Mr.zero)).toArray 61) := by
  rw [← made_flat Mr.zero n]
  exact alloc_here _ rfl
theorem run_makeE (w : World) (n : Nat) (hn : n ≤ 100) : (Instr.makeSlice 35 (.int .i64 (n : Int)) (.int .i64 (n : Int))).run Try.prog w = .ok (.slice (some ⟨w.heap.size, 0, none⟩) n n) (w.alloc (.cells (madeCells E.zero.agg.cells (n * 16)) 32)) := by
  obtain ⟨i, h1, h2, h3, h4⟩ := info_parts infoEnt
  have := run_make (P := Try.prog) w 35 32 i _ Try.underlying35 h1 h2 .i64 .i64 (n : Int) (n : Int) (by omega) (by omega) (by rw [h4]; omega) (by omega)
  rw [h3] at this
  exact this
theorem run_makeM (w : World) (n : Nat) (hn : n ≤ 100) : (Instr.makeSlice 59 (.int .i64 (n : Int)) (.int .i64 (n : Int))).run Try.prog w = .ok (.slice (some ⟨w.heap.size, 0, none⟩) n n) (w.alloc (.cells (madeCells Mr.zero.val.cells (n * 16)) 61)) := by
  obtain ⟨i, h1, h2, h3, h4⟩ := info_parts infoMsg
  have := run_make (P := Try.prog) w 59 61 i _ Try.underlying59 h1 h2 .i64 .i64 (n : Int) (n : Int) (by omega) (by omega) (by rw [h4]; omega) (by omega)
  rw [h3] at this
  exact this
/-- the message, with so many entries that are nought -/
def endX (x : Mr) (g n : Nat) : Mr := ({ x.1 with ents := List.replicate n E.zero }, ⟨some ⟨g, 0, none⟩, n, x.2.sb, x.2.sa, x.2.sc, none, 0, 0⟩)
/-- a relay of so many messages that are nought -/
def relX (g k : Nat) : Mr := (⟨9, 0, 0, 0, 0, 0, 0, 0, false, [], C.zero, []⟩, ⟨none, 0, 0, none, 0, some ⟨g, 0, none⟩, k, k⟩)
theorem fitR_zero : FitR Fl.zero := ⟨z64, z64, z64, z64, z64, z64, z64, z64, (fun _ h => nomatch h), by decide, fitC_zero, B8.nil, by decide⟩
theorem fitMs_end {x : Mr} {g n : Nat} (r : RF x.1) (hs : x.1.snap.length ≤ 100) (hn : n ≤ 100) : FitMs (endX x g n) [] :=
  ⟨⟨r.kind, r.from_, r.to, r.term, r.index, r.logt, r.commit, r.round, fun y hy => by rw [(List.mem_replicate.1 hy).2]; exact fitE_zero, by show (List.replicate n E.zero).length ≤ 1000; rw [List.length_replicate]; omega, r.conf, r.b8, by show x.1.snap.length ≤ 100000; omega⟩, rfl, by decide, fun y hy => nomatch hy⟩
theorem fitMs_rel {g k : Nat} (hk : k ≤ 100) : FitMs (relX g k) (List.replicate k Mr.zero) :=
  ⟨⟨(by constructor <;> (show _ ≤ _; decide) : In64 9), z64, z64, z64, z64, z64, z64, z64, (fun _ h => nomatch h), (by show 0 ≤ 1000; omega), fitC_zero, B8.nil, (by show 0 ≤ 100000; omega)⟩, by rw [List.length_replicate]; rfl, by rw [List.length_replicate]; omega, fun y hy => by rw [(List.mem_replicate.1 hy).2]; exact ⟨fitR_zero, by decide⟩⟩
theorem okL_rep (n : Nat) : okL (List.replicate n E.zero) = true := by
  unfold okL
  rw [List.all_eq_true]
  intro y hy
  rw [(List.mem_replicate.1 hy).2]
  kernel_rfl
theorem okF_end (x : Mr) (g n : Nat) : okF (endX x g n).1 = decide ((n : Int) ≤ 8) := by
  show (decide (((List.replicate n E.zero).length : Int) ≤ 8) && okL (List.replicate n E.zero)) = _
  rw [okL_rep, List.length_replicate, Bool.and_true]
theorem okF_zero : okF Fl.zero = true := by kernel_rfl
theorem mayM_end (x : Mr) (g n : Nat) : mayM (endX x g n) [] ↔ (n : Int) ≤ 8 := by
  unfold mayM
  rw [okF_end, decide_eq_true_eq]
  exact ⟨fun h => h.1, fun h => ⟨h, (by decide : ((0 : Nat) : Int) ≤ 16), rfl⟩⟩
theorem mayM_rel (g k : Nat) : mayM (relX g k) (List.replicate k Mr.zero) ↔ (k : Int) ≤ 16 := by
  unfold mayM
  refine ⟨fun h => h.2.1, fun h => ⟨by kernel_rfl, h, ?_⟩⟩
  rw [List.all_eq_true]
  intro y hy
  rw [(List.mem_replicate.1 hy).2]
  kernel_rfl
theorem entz_len : (cEnt.enc E.zero).length = 2 := by kernel_rfl
theorem innz_len : (cInner.enc Fl.zero).length ≤ 20 := by
  have : (cInner.enc Fl.zero).length = 16 := by kernel_rfl
  omega
theorem head_len {f : Fl} (h : f.ents.length ≤ 8) : (cHead.enc f).length ≤ 160 + (f.ents.flatMap cEnt.enc).length + f.snap.length := by
  rw [cHead_enc h]
  unfold mHead mNums listB
  have hc : (cConf.enc f.conf).length ≤ 40 := by
    show (Pk.intB f.conf.f ++ (Pk.intB f.conf.w ++ (Pk.intB f.conf.l ++ Pk.intB f.conf.x))).length ≤ 40
    simp only [List.length_append]
    have := (Pk.intB_len f.conf.f).2; have := (Pk.intB_len f.conf.w).2; have := (Pk.intB_len f.conf.l).2; have := (Pk.intB_len f.conf.x).2
    omega
  have h1 := (Pk.intB_len f.kind).2; have h2 := (Pk.intB_len f.from_).2; have h3 := (Pk.intB_len f.to).2; have h4 := (Pk.intB_len f.term).2
  have h5 := (Pk.intB_len f.index).2; have h6 := (Pk.intB_len f.logt).2; have h7 := (Pk.intB_len f.commit).2; have h8 := (Pk.intB_len f.round).2
  have h9 := (Pk.intB_len (f.ents.length : Int)).2
  have ht := textB_len f.snap
  have hm : (Pk.markB f.yes).length = 1 := rfl
  simp only [List.length_append]
  omega
theorem msg_len {f : Fl} {L : List Fl} (hL : L.length ≤ 16) : (cMsg.enc ⟨f, L⟩).length ≤ (cHead.enc f).length + 10 + (L.flatMap cInner.enc).length := by
  have e : cMsg.enc ⟨f, L⟩ = cHead.enc f ++ (Pk.intB L.length ++ L.flatMap cInner.enc) := by
    show cHead.enc f ++ (cList cInner (fun n => decide (n ≤ 16))).enc L = _
    rw [cList_enc cInner (decide_eq_true (by omega))]
  rw [e]
  simp only [List.length_append]
  have := (Pk.intB_len (L.length : Int)).2
  omega
theorem end_len {x : Mr} {g n : Nat} (hs : x.1.snap.length ≤ 100) (hn : n ≤ 8) : (cMsg.enc (me (endX x g n) [])).length ≤ 16384 := by
  have h1 := msg_len (f := (endX x g n).1) (L := []) (by decide)
  have h2 := head_len (f := (endX x g n).1) (by show (List.replicate n E.zero).length ≤ 8; rw [List.length_replicate]; exact hn)
  have h3 : ((List.replicate n E.zero).flatMap cEnt.enc).length ≤ (List.replicate n E.zero).length * 2 := flat_len fun a ha => by rw [(List.mem_replicate.1 ha).2, entz_len]; exact Nat.le_refl _
  rw [List.length_replicate] at h3
  have h2 : (cHead.enc (endX x g n).1).length ≤ 160 + ((List.replicate n E.zero).flatMap cEnt.enc).length + x.1.snap.length := h2
  have h1 : (cMsg.enc (me (endX x g n) [])).length ≤ (cHead.enc (endX x g n).1).length + 10 + 0 := h1
  omega
theorem rel_len {g k : Nat} (hk : k ≤ 16) : (cMsg.enc (me (relX g k) (List.replicate k Mr.zero))).length ≤ 16384 := by
  have e : (List.replicate k Mr.zero).map Prod.fst = List.replicate k Fl.zero := by rw [List.map_replicate]; rfl
  have h1 := msg_len (f := (relX g k).1) (L := (List.replicate k Mr.zero).map Prod.fst) (by rw [List.length_map, List.length_replicate]; exact hk)
  rw [e] at h1
  have h2 := head_len (f := (relX g k).1) (Nat.zero_le 8)
  have h3 : ((List.replicate k Fl.zero).flatMap cInner.enc).length ≤ (List.replicate k Fl.zero).length * 20 := flat_len fun a ha => by rw [(List.mem_replicate.1 ha).2]; exact innz_len
  rw [List.length_replicate] at h3
  have h2 : (cHead.enc (relX g k).1).length ≤ 160 + 0 + 0 := h2
  show (cMsg.enc ⟨(relX g k).1, (List.replicate k Mr.zero).map Prod.fst⟩).length ≤ 16384
  rw [e]
  omega
theorem ok_end {x : Mr} {g n : Nat} (r : RF x.1) (hs : x.1.snap.length ≤ 100) (hn : n ≤ 8) : okM (endX x g n) [] :=
  (okM_iff (fitMs_end r hs (by omega))).2 ⟨(mayM_end x g n).2 (by omega), by show x.1.snap.length ≤ 16384; omega, fun y hy => nomatch hy⟩
theorem ok_rel {g k : Nat} (hk : k ≤ 16) : okM (relX g k) (List.replicate k Mr.zero) :=
  (okM_iff (fitMs_rel (by omega))).2 ⟨(mayM_rel g k).2 (by omega), by show 0 ≤ 16384; omega, fun y hy => by rw [(List.mem_replicate.1 hy).2]; show 0 ≤ 16384; omega⟩
/-- written -/
def WrM (l : List Nat) (w : World) (e : Ending) (w' : World) : Prop := ∃ b a cap, e = .returned (.tuple #[.slice a l.length cap, .int .i64 0]) ∧ OwnB 5 w' b a cap l ∧ Below w.heap.size w w'
/-- refused -/
def NoM (w : World) (e : Ending) (w' : World) : Prop := e = .returned (.tuple #[.slice none 0 0, .int .i64 3]) ∧ Below w.heap.size w w'
theorem Msg_yes {x : Mr} {L : List Mr} {w : World} (hp : MsgAt w x L) (hf : FitMs x L) (ho : okM x L) (hl : (cMsg.enc (me x L)).length ≤ 16384) : Calls Try.prog 27 #[x.val] w (WrM (cMsg.enc (me x L)) w) :=
  (Msg_told hp hf).mono fun e w' h => by
    obtain ⟨hb, h⟩ := h
    rcases h with ⟨_, _, b, a, cap, rfl, ho, _⟩ | ⟨hn, _⟩
    · exact ⟨b, a, cap, rfl, ho, hb⟩
    · exact absurd ⟨ho, hl⟩ hn
theorem Msg_no {x : Mr} {L : List Mr} {w : World} (hp : MsgAt w x L) (hf : FitMs x L) (hn : ¬ mayM x L) : Calls Try.prog 27 #[x.val] w (NoM w) :=
  (Msg_any hp hf).mono fun e w' h => by
    rw [mR_no hn] at h
    exact ⟨h.2, h.1⟩
theorem end_at {x : Mr} {g n : Nat} {w : World} (hx : FlAt w x) (hn : n ≤ 100) (h : w.heap[g]? = some (.cells (flat (List.replicate n E.zero)).toArray 32)) : MsgAt w (endX x g n) [] := by
  refine ⟨⟨?_, hx.snap⟩, rfl, ListAt.empty _, fun y hy => nomatch hy⟩
  have := Li.lit_list (L := List.replicate n E.zero) h rfl (by rw [List.length_replicate]; omega)
  rw [List.length_replicate] at this
  exact this
theorem rel_at {g k : Nat} {w : World} (hk : k ≤ 100) (h : w.heap[g]? = some (.cells (flat (List.replicate k Mr.zero)).toArray 61)) : MsgAt w (relX g k) (List.replicate k Mr.zero) := by
  refine ⟨⟨ListAt.empty _, (OwnB.nil 5 _ _).src⟩, by rw [List.length_replicate]; rfl, ?_, fun y hy => by rw [(List.mem_replicate.1 hy).2]; exact ⟨ListAt.empty _, (OwnB.nil 5 _ _).src⟩⟩
  have := Li.lit_list (L := List.replicate k Mr.zero) h rfl (by rw [List.length_replicate]; omega)
  rw [List.length_replicate] at this
  exact this
/-- a message in one that has one within -/
def inX (g : Nat) : Mr := (Fl.zero, ⟨none, 0, 0, none, 0, some ⟨g, 0, none⟩, 1, 1⟩)
theorem in_no {w : World} : Calls Try.prog 27 #[(inX (w.heap.size + 1)).val] ((w.alloc Mr.zero.obj).alloc (inX w.heap.size).obj) (NoM ((w.alloc Mr.zero.obj).alloc (inX w.heap.size).obj)) := by
  have hb := Bh.Bx.two w Mr.zero.obj (inX w.heap.size).obj
  refine Msg_no (L := [inX w.heap.size]) ⟨⟨ListAt.empty _, (OwnB.nil 5 _ _).src⟩, rfl, ?_, fun y hy => by rw [List.mem_singleton] at hy; subst hy; exact ⟨ListAt.empty _, (OwnB.nil 5 _ _).src⟩⟩ ⟨fitR_zero, rfl, (by show 1 ≤ 100000; omega), fun y hy => by rw [List.mem_singleton] at hy; subst hy; exact ⟨fitR_zero, by show 1 ≤ 100000; omega⟩⟩ (fun h => ?_)
  · exact Li.lit_list (L := [inX w.heap.size]) hb.b1 rfl (by show 1 ≤ _; omega)
  · have h2 := (okI_flat h.2.2 _ (List.mem_singleton.2 rfl)).2
    cases h2
theorem end_obj (x : Mr) (g n : Nat) : (endX x g n).obj = .cells #[.int .i64 x.1.kind, .int .i64 x.1.from_, .int .i64 x.1.to, .int .i64 x.1.term, .int .i64 x.1.index, .int .i64 x.1.logt, .int .i64 x.1.commit, .int .i64 x.1.round, .bool x.1.yes, .slice (some ⟨g, 0, none⟩) n n, .int .i64 x.1.conf.f, .int .i64 x.1.conf.w, .int .i64 x.1.conf.l, .int .i64 x.1.conf.x, .slice x.2.sa x.1.snap.length x.2.sc, .slice none 0 0] 61 := by
  show Obj.cells #[_, _, _, _, _, _, _, _, _, .slice (some ⟨g, 0, none⟩) (List.replicate n E.zero).length n, _, _, _, _, _, _] _ = _
  rw [List.length_replicate]
  rfl
theorem Rd_M2 {x : Mr} {L : List Mr} {w : World} {b cap : Nat} {a : Option Addr} (o : okM x L) (hl : (cMsg.enc (me x L)).length ≤ 16384) (ho : OwnB 5 w b a cap (cMsg.enc (me x L))) :
    Calls Try.prog 28 #[.slice a (cMsg.enc (me x L)).length cap] w fun e w' => ∃ p2 LM, e = .returned (.tuple #[Mr.val (x.1, p2), .int .i64 0]) ∧ MsgAt w' (x.1, p2) LM ∧ LM.map Prod.fst = L.map Prod.fst ∧ (∀ k, k < LM.length → (LM.getD k Mr.zero).2.n = (L.getD k Mr.zero).2.n) ∧ Below w.heap.size w w' :=
  (ReadMsg_any ho.src (cMsg_B _ o.1) (by omega)).mono fun e w' hx => by
    obtain ⟨h1, h2⟩ := hx
    rw [all_enc cMsg o.1 hl] at h2
    obtain ⟨p2, LM, h3, h4, h5⟩ := h2
    have h4 : LM.map Prod.fst = L.map Prod.fst := h4
    refine ⟨p2, LM, h3, h5.msg, h4, fun k hk => ?_, h1⟩
    have hl2 := fst_len h4
    rw [h5.zero _ (getD_in hk), o.2 _ (getD_in (k := k) (by omega))]
theorem fst_all2 {L M : List Mr} (h : L.map Prod.fst = M.map Prod.fst) : (∀ y ∈ L, y.1.snap.length ≤ 100000) = (∀ f ∈ M.map Prod.fst, f.snap.length ≤ 100000) := by
  rw [← h]
  exact propext ⟨fun hL f hf => by obtain ⟨y, hy, rfl⟩ := List.mem_map.1 hf; exact hL y hy, fun hL y hy => hL _ (List.mem_map_of_mem hy)⟩
/-- what is known of a message that is written just if b -/
structure Wm (b : Prop) (w : World) (y : Mr) (L : List Mr) : Prop where
  at_ : MsgAt w y L
  fit : FitMs y L
  yes : b → okM y L ∧ (cMsg.enc (me y L)).length ≤ 16384
  no : ¬ b → ¬ mayM y L
  snap : y.1.snap.length ≤ 100000
  snaps : ∀ z ∈ L, z.1.snap.length ≤ 100000
theorem Wm.on {b : Prop} {w w' : World} {y : Mr} {L : List Mr} (h : Wm b w y L) (hb : Below w.heap.size w w') : Wm b w' y L :=
  ⟨⟨h.at_.1.on hb, h.at_.2, h.at_.3.below hb, fun z hz => (h.at_.4 z hz).on hb⟩, h.fit, h.yes, h.no, h.snap, h.snaps⟩
theorem wm_end {x : Mr} {g n : Nat} {w : World} (hx : FlAt w x) (r : RF x.1) (hs : x.1.snap.length ≤ 100) (hn : n ≤ 9) (h : w.heap[g]? = some (.cells (flat (List.replicate n E.zero)).toArray 32)) : Wm (n ≤ 8) w (endX x g n) [] :=
  ⟨end_at hx (by omega) h, fitMs_end r hs (by omega), fun h => ⟨ok_end r hs h, end_len hs h⟩, fun h e => by have := (mayM_end x g n).1 e; omega, by show x.1.snap.length ≤ 100000; omega, fun z hz => nomatch hz⟩
theorem wm_rel {g k : Nat} {w : World} (hk : k ≤ 17) (h : w.heap[g]? = some (.cells (flat (List.replicate k Mr.zero)).toArray 61)) : Wm (k ≤ 16) w (relX g k) (List.replicate k Mr.zero) :=
  ⟨rel_at (by omega) h, fitMs_rel (by omega), fun h => ⟨ok_rel h, rel_len h⟩, fun h e => by have := (mayM_rel g k).1 e; omega, by show 0 ≤ 100000; omega, fun z hz => by rw [(List.mem_replicate.1 hz).2]; show 0 ≤ 100000; omega⟩
theorem Wm.write {b : Prop} {w : World} {y : Mr} {L : List Mr} (h : Wm b w y L) (hb : b) : Calls Try.prog 27 #[y.val] w (WrM (cMsg.enc (me y L)) w) := Msg_yes h.at_ h.fit (h.yes hb).1 (h.yes hb).2
theorem Wm.refuse {b : Prop} {w : World} {y : Mr} {L : List Mr} (h : Wm b w y L) (hb : ¬ b) : Calls Try.prog 27 #[y.val] w (NoM w) := Msg_no h.at_ h.fit (h.no hb)
end Go.Proofs.Ytjdebdfbjcpjgaa.Wr
end
section
/- The law WireEnds: one of its ways. -/
namespace Go.Proofs.Ytjdebdfbjcpjgaa.Wr
open Go Go.RowKit Vl Kv Ss Cn Lg Nm Mem
attribute [local go_sem] Nm.run_bits Nm.run_frombits run_store_float
set_option maxHeartbeats 12800000 in
set_option maxRecDepth 100000 in
theorem WireEnds_10 (x : Mr) (n k : Nat) (w : World) (hx : FlAt w x) (rx : RF x.1) (hn : n ≤ 9) (hk : k ≤ 17) (hs : x.1.snap.length ≤ 100) (hy : n ≤ 8) (hz : ¬ k ≤ 16) :
    Calls Try.prog 9 #[x.val, .int .i64 (n : Int), .int .i64 (k : Int)] w fun e w' => e = .returned (.bool true) ∧ Below w.heap.size w w' := by
  have HB := Lib.hid (Bh.Bx.one w x.obj)
  have HWK := fun w => Lib.hid (wakes_any w)
  (obtain ⟨c0, c1, c2, c3, c4, c5, c6, c7, c8, c9, c10, c11, c12, c13, c14, c15⟩ := cells16m (x := x) HB.out.b0)
  have d1 : decide ((n : Int) < 0) = false := decide_eq_false (by omega)
  have d2 : decide ((9 : Int) < (n : Int)) = false := decide_eq_false (by omega)
  have d3 : decide ((k : Int) < 0) = false := decide_eq_false (by omega)
  have d4 : decide ((17 : Int) < (k : Int)) = false := decide_eq_false (by omega)
  have d5 : decide ((100 : Int) < (x.1.snap.length : Int)) = false := decide_eq_false (by omega)
  have hmk := fun w => run_makeE w n (by omega)
  have hmk2 := fun w => run_makeM w k (by omega)
  have HXA := Lib.hid hx
  have HRX := Lib.hid rx
  have HS := Lib.hid hs
  clear hx rx hs
  go_enter Try.func9, Try.ntmps9
  go_upto_region 3 with fail
  go_cut [] (fun wx => ∃ y : Mr, Bh.Bx w [y.obj] wx ∧ Wm (n ≤ 8) wx y [])
  case first =>
    go_region
    go_wp2_with fail
    go_meet
    case rel =>
      refine ⟨endX x (w.heap.size + 1) n, ?_, ?_⟩
      · rw [end_obj]
        exact ((Bh.Bx.one w _).alloc _).drew
      · refine wm_end (HXA.out.on ?_) HRX.out HS.out hn ?_
        · exact ((Bh.Bx.one w _).alloc _).drew.beh
        · have h := madeEnts (w.alloc (endX x (w.heap.size + 1) n).obj) n
          rw [size_alloc, end_obj] at h
          exact h
  case rest =>
    obtain ⟨y, hb, hyy⟩ := hcut
    have HB := Lib.hid hb
    have HWY := Lib.hid hyy
    clear hb hyy hmk HXA HRX HS c0 c1 c2 c3 c4 c5 c6 c7 c8 c9 c10 c11 c12 c13 c14 c15
    go_upto_region 4 with fail
    go_cut [7] (fun s7 wx => ∃ (wz : World) (z : Mr) (LZ : List Mr), s7 = .pointer (some ⟨wz.heap.size, 0, none⟩) ∧ Bh.Bx wz [z.obj] wx ∧ Bh.Bx w [y.obj] wx ∧ Wm (n ≤ 8) wx y [] ∧ Wm (k ≤ 16) wx z LZ)
    case first =>
      go_wp2_with fail
      go_meet
      case rel =>
        have h1 := below_alloc2 wc (.cells (madeCells Mr.zero.val.cells (k * 16)) 61) (relX wc.heap.size k).obj
        refine ⟨wc.alloc (.cells (madeCells Mr.zero.val.cells (k * 16)) 61), relX wc.heap.size k, _, by rw [size_alloc], Bh.Bx.one _ _, HB.out.on h1, HWY.out.on h1, wm_rel hk ?_⟩
        exact Bh.alloc_old _ (madeMsgs wc k)
    case rest =>
      obtain ⟨wz, z, LZ, rfl, hz1, hb, hyy, hz2⟩ := hcut
      have HB := Lib.hid hb
      have HZ := Lib.hid hz1
      have HWY := Lib.hid hyy
      have HWZ := Lib.hid hz2
      clear hb hz1 hyy hz2 hmk2
      have f1 : decide ((n : Int) ≤ 8) = true := decide_eq_true (by omega)
      have f2 : decide ((k : Int) ≤ 16) = false := decide_eq_false (by omega)
      go_wp2_with (first | (apply Bh.load_bx 0 HB.out Try.underlying61; rfl; rfl; rfl; rfl; rfl; kernel_rfl) | (apply Bh.load_bx 0 HZ.out Try.underlying61; rfl; rfl; rfl; rfl; rfl; kernel_rfl))
      refine Calls.mono ((HWY.out.on (Beh.start _)).write hy) ?_
      rintro e w1 ⟨b1, a1, c1, rfl, ho, hb⟩
      have HB := Lib.hid (HB.out.on hb); have HZ := Lib.hid (HZ.out.on hb); have HWY := Lib.hid (HWY.out.on hb); have HWZ := Lib.hid (HWZ.out.on hb)
      have HOY := Lib.hid ho; clear ho
      clear hb
      obtain ⟨n1, hn1⟩ : ∃ n1 : Nat, n1 = (cMsg.enc (me y [])).length := ⟨_, rfl⟩; have HN1 := Lib.hid hn1; rw [← hn1]; clear hn1
      go_wp2_with (first | (apply Bh.load_bx 0 HB.out Try.underlying61; rfl; rfl; rfl; rfl; rfl; kernel_rfl) | (apply Bh.load_bx 0 HZ.out Try.underlying61; rfl; rfl; rfl; rfl; rfl; kernel_rfl))
      refine Calls.mono ((HWZ.out.on (Beh.start _)).refuse hz) ?_
      rintro e w2 ⟨rfl, hb⟩
      have HB := Lib.hid (HB.out.on hb); have HZ := Lib.hid (HZ.out.on hb); have HWY := Lib.hid (HWY.out.on hb); have HWZ := Lib.hid (HWZ.out.on hb)
      have HOY := Lib.hid (HOY.out.kept (kept_beh hb) (fun _ h => h.elim))
      clear hb
      go_upto_region 7 with fail
      go_cut [90] (fun s90 wx => s90 = .bool false ∧ w2 = wx)
      case first =>
        go_wp2_with fail
        go_meet
        case rel => exact ⟨rfl, rfl⟩
      case rest =>
        obtain ⟨rfl, rfl⟩ := hcut
        go_wp2_with (first | (apply Bh.load_bx 0 HB.out Try.underlying61; rfl; rfl; rfl; rfl; rfl; kernel_rfl) | (apply Bh.load_bx 0 HZ.out Try.underlying61; rfl; rfl; rfl; rfl; rfl; kernel_rfl))
        have HRX := Rd_M2 (w := w2) (HWY.out.yes hy).1 (HWY.out.yes hy).2 HOY.out
        rw [← HN1.out] at HRX
        refine Calls.mono HRX ?_
        rintro e r1 ⟨p2, LM, rfl, hm2, he2, hn2, hb⟩
        have HKX : Hid (∀ W, Kv.Beh r1 W → Calls Try.prog 29 #[Mr.val (y.1, p2), y.val] W fun e w' => e = .returned (.bool true) ∧ Below W.heap.size W w') := fun W h1 => keepMsg_self y.1 p2 y.2 LM [] W (hm2.on h1) ((HWY.out.on hb).on h1).at_ he2 hn2 HWY.out.snap (by rw [fst_all2 he2]; exact fun f hf => by obtain ⟨y, hy, rfl⟩ := List.mem_map.1 hf; exact HWY.out.snaps y hy)
        have HB := Lib.hid (HB.out.on hb); have HZ := Lib.hid (HZ.out.on hb); have HWY := Lib.hid (HWY.out.on hb); have HWZ := Lib.hid (HWZ.out.on hb)
        have HX := Lib.hid (Bh.Bx.one r1 Mr.zero.obj)
        clear HRX hm2 he2 hn2 hb
        go_upto_region 13 with (first | (apply Bh.store_bx 16 0 HX.out; rfl; rfl; rfl; rfl; rfl; rfl; kernel_rfl; rfl; rfl; intro wz hz1; have HX := Lib.hid hz1; (have HB := Lib.hid (HB.out.on hz1.beh)); (have HZ := Lib.hid (HZ.out.on hz1.beh)); (have HWY := Lib.hid (HWY.out.on hz1.beh)); (have HWZ := Lib.hid (HWZ.out.on hz1.beh)); clear hz1) | (go_at_call 29; refine Calls.mono (HKX.out _ HX.out.beh) ?_; rintro e wky ⟨rfl, hb⟩; (have HB := Lib.hid (HB.out.on hb)); (have HZ := Lib.hid (HZ.out.on hb)); (have HWY := Lib.hid (HWY.out.on hb)); (have HWZ := Lib.hid (HWZ.out.on hb)); clear hb) | (apply Bh.load_bxg 0 HX.out Try.underlying61; rfl; exact Eq.refl true; rfl; rfl; rfl; kernel_rfl) | (apply Bh.load_bxg 0 HB.out Try.underlying61; rfl; exact Eq.refl true; rfl; rfl; rfl; kernel_rfl) | (apply Bh.load_bxg 0 HZ.out Try.underlying61; rfl; exact Eq.refl true; rfl; rfl; rfl; kernel_rfl) | (apply Bh.load_bx 0 HB.out Try.underlying61; rfl; rfl; rfl; rfl; rfl; kernel_rfl) | (apply Bh.load_bx 0 HZ.out Try.underlying61; rfl; rfl; rfl; rfl; rfl; kernel_rfl))
        clear HX HKX
        go_cut [107] (fun s107 wx => s107 = .bool false ∧ wky = wx)
        case first =>
          go_wp2_with fail
          go_meet
          case rel => exact ⟨rfl, rfl⟩
        case rest =>
          obtain ⟨rfl, rfl⟩ := hcut
          have HNO := Lib.hid (in_no (w := wky))
          (try go_wp2_with fail)
          refine Calls.mono HNO.out ?_
          rintro e w9 ⟨rfl, hb⟩
          have HB := Lib.hid ((HB.out.on (below_alloc2 _ _ _)).on hb)
          clear hb HNO
          go_wp2_with (go_at_call 17; refine Calls.mono ((HWK _).out) ?_; rintro e w10 ⟨rfl, hb⟩; (have HB := Lib.hid (HB.out.on hb)); clear hb)
          go_ret
          exact ⟨rfl, HB.out.beh⟩
end Go.Proofs.Ytjdebdfbjcpjgaa.Wr
end
section
/- The law WireEnds: one of its ways. -/
namespace Go.Proofs.Ytjdebdfbjcpjgaa.Wr
open Go Go.RowKit Vl Kv Ss Cn Lg Nm Mem
attribute [local go_sem] Nm.run_bits Nm.run_frombits run_store_float
set_option maxHeartbeats 12800000 in
set_option maxRecDepth 100000 in
theorem WireEnds_01 (x : Mr) (n k : Nat) (w : World) (hx : FlAt w x) (rx : RF x.1) (hn : n ≤ 9) (hk : k ≤ 17) (hs : x.1.snap.length ≤ 100) (hy : ¬ n ≤ 8) (hz : k ≤ 16) :
    Calls Try.prog 9 #[x.val, .int .i64 (n : Int), .int .i64 (k : Int)] w fun e w' => e = .returned (.bool true) ∧ Below w.heap.size w w' := by
  have HB := Lib.hid (Bh.Bx.one w x.obj)
  have HWK := fun w => Lib.hid (wakes_any w)
  (obtain ⟨c0, c1, c2, c3, c4, c5, c6, c7, c8, c9, c10, c11, c12, c13, c14, c15⟩ := cells16m (x := x) HB.out.b0)
  have d1 : decide ((n : Int) < 0) = false := decide_eq_false (by omega)
  have d2 : decide ((9 : Int) < (n : Int)) = false := decide_eq_false (by omega)
  have d3 : decide ((k : Int) < 0) = false := decide_eq_false (by omega)
  have d4 : decide ((17 : Int) < (k : Int)) = false := decide_eq_false (by omega)
  have d5 : decide ((100 : Int) < (x.1.snap.length : Int)) = false := decide_eq_false (by omega)
  have hmk := fun w => run_makeE w n (by omega)
  have hmk2 := fun w => run_makeM w k (by omega)
  have HXA := Lib.hid hx
  have HRX := Lib.hid rx
  have HS := Lib.hid hs
  clear hx rx hs
  go_enter Try.func9, Try.ntmps9
  go_upto_region 3 with fail
  go_cut [] (fun wx => ∃ y : Mr, Bh.Bx w [y.obj] wx ∧ Wm (n ≤ 8) wx y [])
  case first =>
    go_region
    go_wp2_with fail
    go_meet
    case rel =>
      refine ⟨endX x (w.heap.size + 1) n, ?_, ?_⟩
      · rw [end_obj]
        exact ((Bh.Bx.one w _).alloc _).drew
      · refine wm_end (HXA.out.on ?_) HRX.out HS.out hn ?_
        · exact ((Bh.Bx.one w _).alloc _).drew.beh
        · have h := madeEnts (w.alloc (endX x (w.heap.size + 1) n).obj) n
          rw [size_alloc, end_obj] at h
          exact h
  case rest =>
    obtain ⟨y, hb, hyy⟩ := hcut
    have HB := Lib.hid hb
    have HWY := Lib.hid hyy
    clear hb hyy hmk HXA HRX HS c0 c1 c2 c3 c4 c5 c6 c7 c8 c9 c10 c11 c12 c13 c14 c15
    go_upto_region 4 with fail
    go_cut [7] (fun s7 wx => ∃ (wz : World) (z : Mr) (LZ : List Mr), s7 = .pointer (some ⟨wz.heap.size, 0, none⟩) ∧ Bh.Bx wz [z.obj] wx ∧ Bh.Bx w [y.obj] wx ∧ Wm (n ≤ 8) wx y [] ∧ Wm (k ≤ 16) wx z LZ)
    case first =>
      go_wp2_with fail
      go_meet
      case rel =>
        have h1 := below_alloc2 wc (.cells (madeCells Mr.zero.val.cells (k * 16)) 61) (relX wc.heap.size k).obj
        refine ⟨wc.alloc (.cells (madeCells Mr.zero.val.cells (k * 16)) 61), relX wc.heap.size k, _, by rw [size_alloc], Bh.Bx.one _ _, HB.out.on h1, HWY.out.on h1, wm_rel hk ?_⟩
        exact Bh.alloc_old _ (madeMsgs wc k)
    case rest =>
      obtain ⟨wz, z, LZ, rfl, hz1, hb, hyy, hz2⟩ := hcut
      have HB := Lib.hid hb
      have HZ := Lib.hid hz1
      have HWY := Lib.hid hyy
      have HWZ := Lib.hid hz2
      clear hb hz1 hyy hz2 hmk2
      have f1 : decide ((n : Int) ≤ 8) = false := decide_eq_false (by omega)
      have f2 : decide ((k : Int) ≤ 16) = true := decide_eq_true (by omega)
      go_wp2_with (first | (apply Bh.load_bx 0 HB.out Try.underlying61; rfl; rfl; rfl; rfl; rfl; kernel_rfl) | (apply Bh.load_bx 0 HZ.out Try.underlying61; rfl; rfl; rfl; rfl; rfl; kernel_rfl))
      refine Calls.mono ((HWY.out.on (Beh.start _)).refuse hy) ?_
      rintro e w1 ⟨rfl, hb⟩
      have HB := Lib.hid (HB.out.on hb); have HZ := Lib.hid (HZ.out.on hb); have HWY := Lib.hid (HWY.out.on hb); have HWZ := Lib.hid (HWZ.out.on hb)
      clear hb
      go_wp2_with (first | (apply Bh.load_bx 0 HB.out Try.underlying61; rfl; rfl; rfl; rfl; rfl; kernel_rfl) | (apply Bh.load_bx 0 HZ.out Try.underlying61; rfl; rfl; rfl; rfl; rfl; kernel_rfl))
      refine Calls.mono ((HWZ.out.on (Beh.start _)).write hz) ?_
      rintro e w2 ⟨b2, a2, c2, rfl, ho, hb⟩
      have HB := Lib.hid (HB.out.on hb); have HZ := Lib.hid (HZ.out.on hb); have HWY := Lib.hid (HWY.out.on hb); have HWZ := Lib.hid (HWZ.out.on hb)
      have HOZ := Lib.hid ho; clear ho
      clear hb
      obtain ⟨n2, hn2⟩ : ∃ n2 : Nat, n2 = (cMsg.enc (me z LZ)).length := ⟨_, rfl⟩; have HN2 := Lib.hid hn2; rw [← hn2]; clear hn2
      go_upto_region 7 with fail
      go_cut [90] (fun s90 wx => s90 = .bool false ∧ w2 = wx)
      case first =>
        go_wp2_with fail
        go_meet
        case rel => exact ⟨rfl, rfl⟩
      case rest =>
        obtain ⟨rfl, rfl⟩ := hcut
        go_wp2_with (first | (apply Bh.load_bx 0 HB.out Try.underlying61; rfl; rfl; rfl; rfl; rfl; kernel_rfl) | (apply Bh.load_bx 0 HZ.out Try.underlying61; rfl; rfl; rfl; rfl; rfl; kernel_rfl))
        have HRX := Rd_M2 (w := w2) (HWZ.out.yes hz).1 (HWZ.out.yes hz).2 HOZ.out
        rw [← HN2.out] at HRX
        refine Calls.mono HRX ?_
        rintro e r2 ⟨p2, LM, rfl, hm2, he2, hn2, hb⟩
        have HKX : Hid (∀ W, Kv.Beh r2 W → Calls Try.prog 29 #[Mr.val (z.1, p2), z.val] W fun e w' => e = .returned (.bool true) ∧ Below W.heap.size W w') := fun W h1 => keepMsg_self z.1 p2 z.2 LM LZ W (hm2.on h1) ((HWZ.out.on hb).on h1).at_ he2 hn2 HWZ.out.snap (by rw [fst_all2 he2]; exact fun f hf => by obtain ⟨y, hy, rfl⟩ := List.mem_map.1 hf; exact HWZ.out.snaps y hy)
        have HB := Lib.hid (HB.out.on hb); have HZ := Lib.hid (HZ.out.on hb); have HWY := Lib.hid (HWY.out.on hb); have HWZ := Lib.hid (HWZ.out.on hb)
        have HX := Lib.hid (Bh.Bx.one r2 Mr.zero.obj)
        clear HRX hm2 he2 hn2 hb
        go_wp2_with (first | (apply Bh.store_bx 16 0 HX.out; rfl; rfl; rfl; rfl; rfl; rfl; kernel_rfl; rfl; rfl; intro wz hz1; have HX := Lib.hid hz1; (have HB := Lib.hid (HB.out.on hz1.beh)); (have HZ := Lib.hid (HZ.out.on hz1.beh)); (have HWY := Lib.hid (HWY.out.on hz1.beh)); (have HWZ := Lib.hid (HWZ.out.on hz1.beh)); clear hz1) | (go_at_call 29; refine Calls.mono (HKX.out _ HX.out.beh) ?_; rintro e wkz ⟨rfl, hb⟩; (have HB := Lib.hid (HB.out.on hb)); (have HZ := Lib.hid (HZ.out.on hb)); (have HWY := Lib.hid (HWY.out.on hb)); (have HWZ := Lib.hid (HWZ.out.on hb)); clear hb) | (apply Bh.load_bxg 0 HX.out Try.underlying61; rfl; exact Eq.refl true; rfl; rfl; rfl; kernel_rfl) | (apply Bh.load_bxg 0 HB.out Try.underlying61; rfl; exact Eq.refl true; rfl; rfl; rfl; kernel_rfl) | (apply Bh.load_bxg 0 HZ.out Try.underlying61; rfl; exact Eq.refl true; rfl; rfl; rfl; kernel_rfl) | (apply Bh.load_bx 0 HB.out Try.underlying61; rfl; rfl; rfl; rfl; rfl; kernel_rfl) | (apply Bh.load_bx 0 HZ.out Try.underlying61; rfl; rfl; rfl; rfl; rfl; kernel_rfl))
        clear HX HKX
        have HNO := Lib.hid (in_no (w := wkz))
        (try go_wp2_with fail)
        refine Calls.mono HNO.out ?_
        rintro e w9 ⟨rfl, hb⟩
        have HB := Lib.hid ((HB.out.on (below_alloc2 _ _ _)).on hb)
        clear hb HNO
        go_wp2_with (go_at_call 17; refine Calls.mono ((HWK _).out) ?_; rintro e w10 ⟨rfl, hb⟩; (have HB := Lib.hid (HB.out.on hb)); clear hb)
        go_ret
        exact ⟨rfl, HB.out.beh⟩
end Go.Proofs.Ytjdebdfbjcpjgaa.Wr
end
section
/- The law WireEnds: one of its ways. -/
namespace Go.Proofs.Ytjdebdfbjcpjgaa.Wr
open Go Go.RowKit Vl Kv Ss Cn Lg Nm Mem
attribute [local go_sem] Nm.run_bits Nm.run_frombits run_store_float
set_option maxHeartbeats 12800000 in
set_option maxRecDepth 100000 in
theorem WireEnds_00 (x : Mr) (n k : Nat) (w : World) (hx : FlAt w x) (rx : RF x.1) (hn : n ≤ 9) (hk : k ≤ 17) (hs : x.1.snap.length ≤ 100) (hy : ¬ n ≤ 8) (hz : ¬ k ≤ 16) :
    Calls Try.prog 9 #[x.val, .int .i64 (n : Int), .int .i64 (k : Int)] w fun e w' => e = .returned (.bool true) ∧ Below w.heap.size w w' := by
  have HB := Lib.hid (Bh.Bx.one w x.obj)
  have HWK := fun w => Lib.hid (wakes_any w)
  (obtain ⟨c0, c1, c2, c3, c4, c5, c6, c7, c8, c9, c10, c11, c12, c13, c14, c15⟩ := cells16m (x := x) HB.out.b0)
  have d1 : decide ((n : Int) < 0) = false := decide_eq_false (by omega)
  have d2 : decide ((9 : Int) < (n : Int)) = false := decide_eq_false (by omega)
  have d3 : decide ((k : Int) < 0) = false := decide_eq_false (by omega)
  have d4 : decide ((17 : Int) < (k : Int)) = false := decide_eq_false (by omega)
  have d5 : decide ((100 : Int) < (x.1.snap.length : Int)) = false := decide_eq_false (by omega)
  have hmk := fun w => run_makeE w n (by omega)
  have hmk2 := fun w => run_makeM w k (by omega)
  have HXA := Lib.hid hx
  have HRX := Lib.hid rx
  have HS := Lib.hid hs
  clear hx rx hs
  go_enter Try.func9, Try.ntmps9
  go_upto_region 3 with fail
  go_cut [] (fun wx => ∃ y : Mr, Bh.Bx w [y.obj] wx ∧ Wm (n ≤ 8) wx y [])
  case first =>
    go_region
    go_wp2_with fail
    go_meet
    case rel =>
      refine ⟨endX x (w.heap.size + 1) n, ?_, ?_⟩
      · rw [end_obj]
        exact ((Bh.Bx.one w _).alloc _).drew
      · refine wm_end (HXA.out.on ?_) HRX.out HS.out hn ?_
        · exact ((Bh.Bx.one w _).alloc _).drew.beh
        · have h := madeEnts (w.alloc (endX x (w.heap.size + 1) n).obj) n
          rw [size_alloc, end_obj] at h
          exact h
  case rest =>
    obtain ⟨y, hb, hyy⟩ := hcut
    have HB := Lib.hid hb
    have HWY := Lib.hid hyy
    clear hb hyy hmk HXA HRX HS c0 c1 c2 c3 c4 c5 c6 c7 c8 c9 c10 c11 c12 c13 c14 c15
    go_upto_region 4 with fail
    go_cut [7] (fun s7 wx => ∃ (wz : World) (z : Mr) (LZ : List Mr), s7 = .pointer (some ⟨wz.heap.size, 0, none⟩) ∧ Bh.Bx wz [z.obj] wx ∧ Bh.Bx w [y.obj] wx ∧ Wm (n ≤ 8) wx y [] ∧ Wm (k ≤ 16) wx z LZ)
    case first =>
      go_wp2_with fail
      go_meet
      case rel =>
        have h1 := below_alloc2 wc (.cells (madeCells Mr.zero.val.cells (k * 16)) 61) (relX wc.heap.size k).obj
        refine ⟨wc.alloc (.cells (madeCells Mr.zero.val.cells (k * 16)) 61), relX wc.heap.size k, _, by rw [size_alloc], Bh.Bx.one _ _, HB.out.on h1, HWY.out.on h1, wm_rel hk ?_⟩
        exact Bh.alloc_old _ (madeMsgs wc k)
    case rest =>
      obtain ⟨wz, z, LZ, rfl, hz1, hb, hyy, hz2⟩ := hcut
      have HB := Lib.hid hb
      have HZ := Lib.hid hz1
      have HWY := Lib.hid hyy
      have HWZ := Lib.hid hz2
      clear hb hz1 hyy hz2 hmk2
      have f1 : decide ((n : Int) ≤ 8) = false := decide_eq_false (by omega)
      have f2 : decide ((k : Int) ≤ 16) = false := decide_eq_false (by omega)
      go_wp2_with (first | (apply Bh.load_bx 0 HB.out Try.underlying61; rfl; rfl; rfl; rfl; rfl; kernel_rfl) | (apply Bh.load_bx 0 HZ.out Try.underlying61; rfl; rfl; rfl; rfl; rfl; kernel_rfl))
      refine Calls.mono ((HWY.out.on (Beh.start _)).refuse hy) ?_
      rintro e w1 ⟨rfl, hb⟩
      have HB := Lib.hid (HB.out.on hb); have HZ := Lib.hid (HZ.out.on hb); have HWY := Lib.hid (HWY.out.on hb); have HWZ := Lib.hid (HWZ.out.on hb)
      clear hb
      go_wp2_with (first | (apply Bh.load_bx 0 HB.out Try.underlying61; rfl; rfl; rfl; rfl; rfl; kernel_rfl) | (apply Bh.load_bx 0 HZ.out Try.underlying61; rfl; rfl; rfl; rfl; rfl; kernel_rfl))
      refine Calls.mono ((HWZ.out.on (Beh.start _)).refuse hz) ?_
      rintro e w2 ⟨rfl, hb⟩
      have HB := Lib.hid (HB.out.on hb); have HZ := Lib.hid (HZ.out.on hb); have HWY := Lib.hid (HWY.out.on hb); have HWZ := Lib.hid (HWZ.out.on hb)
      clear hb
      go_upto_region 7 with fail
      go_cut [90] (fun s90 wx => s90 = .bool false ∧ w2 = wx)
      case first =>
        go_wp2_with fail
        go_meet
        case rel => exact ⟨rfl, rfl⟩
      case rest =>
        obtain ⟨rfl, rfl⟩ := hcut
        have HNO := Lib.hid (in_no (w := w2))
        (try go_wp2_with fail)
        refine Calls.mono HNO.out ?_
        rintro e w9 ⟨rfl, hb⟩
        have HB := Lib.hid ((HB.out.on (below_alloc2 _ _ _)).on hb)
        clear hb HNO
        go_wp2_with (go_at_call 17; refine Calls.mono ((HWK _).out) ?_; rintro e w10 ⟨rfl, hb⟩; (have HB := Lib.hid (HB.out.on hb)); clear hb)
        go_ret
        exact ⟨rfl, HB.out.beh⟩
end Go.Proofs.Ytjdebdfbjcpjgaa.Wr
end
