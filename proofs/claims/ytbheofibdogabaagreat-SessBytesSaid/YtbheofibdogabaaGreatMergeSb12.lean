import Derived.Test.YtbheofibdogabaaGreatMergeSb3
import Derived.Test.YtbheofibdogabaaGreatMergeSb11
import Derived.Test.YtbheofibdogabaaGreatMergeSb2
import Derived.WideShapes
import Derived.Lib.ConvBytes
import Derived.Laws.IdiomStrings
section
/- Sessions and machines in memory: read, appended to. No program's function. -/
namespace Go.Proofs.YtbheofibdogabaaGreat.Ss
open Go Go.RowKit Vl Kv Mem
def Se.cells (s : Se) : List Value := [.int .i64 s.client, .int .i64 s.seq, .int .i64 s.code, .int .i64 s.val.kind, .float .f64 s.val.num, .string s.val.text]
@[reducible] def Se.agg (s : Se) : Value := .agg #[.int .i64 s.client, .int .i64 s.seq, .int .i64 s.code, .int .i64 s.val.kind, .float .f64 s.val.num, .string s.val.text]
def Se.obj (s : Se) : Obj := .cells #[.int .i64 s.client, .int .i64 s.seq, .int .i64 s.code, .int .i64 s.val.kind, .float .f64 s.val.num, .string s.val.text] 54
def flatS (L : List Se) : List Value := L.flatMap Se.cells
theorem flatS_nil : flatS [] = [] := rfl
theorem flatS_append (L M : List Se) : flatS (L ++ M) = flatS L ++ flatS M := by unfold flatS; rw [List.flatMap_append]
theorem flatS_length (L : List Se) : (flatS L).length = L.length * 6 := by
  induction L with
  | nil => rfl
  | cons p r ih =>
    show (p.cells ++ flatS r).length = _
    rw [List.length_append, ih, List.length_cons]
    show 6 + _ = _
    omega
theorem flatS_at (L : List Se) : ∀ i j, i < L.length → j < 6 → (flatS L)[i * 6 + j]? = (L.getD i Se.zero).cells[j]? := by
  induction L with
  | nil => intro i j hi; simp at hi
  | cons p r ih =>
    intro i j hi hj
    show (p.cells ++ flatS r)[i * 6 + j]? = _
    have hl : p.cells.length = 6 := rfl
    cases i with
    | zero => rw [Nat.zero_mul, Nat.zero_add, List.getElem?_append_left (by omega)]; rfl
    | succ i =>
      rw [List.getElem?_append_right (by omega), hl, show (i + 1) * 6 + j - 6 = i * 6 + j by omega, ih i j (by simpa using hi) hj]
      rfl
theorem flatS_one {L : List Se} : ∀ u ∈ flatS L, u.oneCell' = true := by
  intro u hu
  obtain ⟨p, _, h⟩ := List.mem_flatMap.1 hu
  simp only [Se.cells, List.mem_cons, List.not_mem_nil, or_false] at h
  rcases h with rfl | rfl | rfl | rfl | rfl | rfl <;> rfl
/-- the cells of a pair at an address -/
def Se.at_ (w : World) (b o : Nat) (p : Se) : Prop :=
  w.cell? ⟨b, o, none⟩ = some (.int .i64 p.client) ∧ w.cell? ⟨b, o + 1, none⟩ = some (.int .i64 p.seq) ∧ w.cell? ⟨b, o + 2, none⟩ = some (.int .i64 p.code) ∧ w.cell? ⟨b, o + 3, none⟩ = some (.int .i64 p.val.kind) ∧ w.cell? ⟨b, o + 4, none⟩ = some (.float .f64 p.val.num) ∧ w.cell? ⟨b, o + 5, none⟩ = some (.string p.val.text)
structure SessAt (w : World) (a : Option Addr) (cap : Nat) (L : List Se) : Prop where
  len : L.length ≤ cap
  max : cap ≤ 9223372036854775807
  nil : a = none → cap = 0
  at_ : 0 < L.length → ∃ b off, a = some ⟨b, off, none⟩ ∧ ∀ i, i < L.length → (L.getD i Se.zero).at_ w b (off + i * 6)
theorem Se.at_.below {w w' : World} {p : Se} {b o : Nat} (h : p.at_ w b o) (hk : Below w.heap.size w w') : p.at_ w' b o := by
  have g : ∀ j v, w.cell? ⟨b, j, none⟩ = some v → w'.cell? ⟨b, j, none⟩ = some v := fun j v hc => (World.cell?_of_block (w := w) (hk.block b (World.block_lt_of_cell? w _ hc))).trans hc
  exact ⟨g _ _ h.1, g _ _ h.2.1, g _ _ h.2.2.1, g _ _ h.2.2.2.1, g _ _ h.2.2.2.2.1, g _ _ h.2.2.2.2.2⟩
theorem SessAt.below {w w' : World} {a : Option Addr} {cap : Nat} {L : List Se} (h : SessAt w a cap L) (hk : Below w.heap.size w w') : SessAt w' a cap L := by
  refine ⟨h.len, h.max, h.nil, fun h0 => ?_⟩
  obtain ⟨b, off, ha, hc⟩ := h.at_ h0
  exact ⟨b, off, ha, fun i hi => (hc i hi).below hk⟩
theorem SessAt.alloc {w : World} {a : Option Addr} {cap : Nat} {L : List Se} (h : SessAt w a cap L) (o : Obj) : SessAt (w.alloc o) a cap L := h.below (below_alloc _ _)
theorem SessAt.empty (w : World) : SessAt w none 0 [] := ⟨Nat.le_refl _, by omega, fun _ => rfl, fun h => by simp at h⟩
theorem SessAt.bare {w : World} {cap : Nat} {L : List Se} (h : SessAt w none cap L) : L = [] ∧ cap = 0 := by
  have := h.nil rfl
  have := h.len
  exact ⟨List.eq_nil_of_length_eq_zero (by omega), by omega⟩
theorem SessAt.src {w : World} {a : Option Addr} {cap : Nat} {L : List Se} (h : SessAt w a cap L) : SrcC 6 w a cap L.length (flatS L) := by
  refine ⟨flatS_length L, fun ha => ⟨by have := h.nil ha; have := h.len; omega, h.nil ha⟩, fun ad ha j u hu => ?_⟩
  obtain ⟨hj, _⟩ := List.getElem?_eq_some_iff.1 hu
  rw [flatS_length] at hj
  obtain ⟨b, off, ha2, hc⟩ := h.at_ (by omega)
  rw [ha] at ha2
  injection ha2 with ha2
  subst ha2
  have hadd : (⟨b, off, Option.none⟩ : Addr).add j = ⟨b, off + j, Option.none⟩ := by unfold Addr.add; split <;> simp_all
  rw [hadd]
  have hd : j = j / 6 * 6 + j % 6 := by omega
  have hi : j / 6 < L.length := by omega
  have h4 : j % 6 < 6 := Nat.mod_lt _ (by decide)
  have hcc := hc (j / 6) hi
  rw [hd, flatS_at L (j / 6) (j % 6) hi h4] at hu
  have e : off + j = off + j / 6 * 6 + j % 6 := by omega
  rw [e]
  generalize j % 6 = q at *
  generalize L.getD (j / 6) Se.zero = p at *
  match q, h4 with
  | 0, _ => simp [Se.cells] at hu; subst hu; exact hcc.1
  | 1, _ => simp [Se.cells] at hu; subst hu; exact hcc.2.1
  | 2, _ => simp [Se.cells] at hu; subst hu; exact hcc.2.2.1
  | 3, _ => simp [Se.cells] at hu; subst hu; exact hcc.2.2.2.1
  | 4, _ => simp [Se.cells] at hu; subst hu; exact hcc.2.2.2.2.1
  | 5, _ => simp [Se.cells] at hu; subst hu; exact hcc.2.2.2.2.2
/-- pairs that the call has made itself -/
@[reducible] def OwnS (e : TypeId) (w : World) (b : Nat) (a : Option Addr) (cap : Nat) (L : List Se) : Prop := OwnC e 6 w b a cap L.length (flatS L)
theorem OwnS.sess {e : TypeId} {w : World} {b : Nat} {a : Option Addr} {cap : Nat} {L : List Se} (h : OwnS e w b a cap L) : SessAt w a cap L := by
  have hl := flatS_length L
  refine ⟨?_, ?_, fun ha => ?_, fun h0 => ?_⟩
  · rcases h.2 with ⟨_, h1, h2⟩ | ⟨_, h1, _⟩ <;> omega
  · rcases h.2 with ⟨_, h1, h2⟩ | ⟨_, _, h1, _⟩
    · omega
    · unfold maxLen at h1; omega
  · rcases h.2 with ⟨_, h1, h2⟩ | ⟨h1, _⟩
    · exact h1
    · rw [h1] at ha; cases ha
  · have hf := (h.cell (j := 0) (by omega)).1
    refine ⟨b, 0, hf, fun i hi => ?_⟩
    have g : ∀ j, j < 6 → w.cell? ⟨b, 0 + i * 6 + j, Option.none⟩ = (L.getD i Se.zero).cells[j]? := fun j hj => by
      have hlt : i * 6 + j < (flatS L).length := by omega
      have := (h.cell hlt).2.1
      rw [Nat.zero_add, this, ← List.getElem?_eq_getElem hlt, flatS_at L i j hi hj]
    exact ⟨g 0 (by decide), g 1 (by decide), g 2 (by decide), g 3 (by decide), g 4 (by decide), g 5 (by decide)⟩
theorem getD_ltS {L : List Se} {i : Nat} (h : i < L.length) : L.getD i Se.zero = L[i] := by simp [h]
theorem getD_memS {L : List Se} {i : Nat} (h : i < L.length) : L.getD i Se.zero ∈ L := by rw [getD_ltS h]; exact List.getElem_mem h
/-- one pair more -/
theorem take_nextS {L : List Se} {i : Nat} (h : i < L.length) : L.take (i + 1) = L.take i ++ [L.getD i Se.zero] := by rw [List.take_succ_eq_append_getElem h, getD_ltS h]
/-- a part of pairs -/
theorem SessAt.take {w : World} {a : Option Addr} {cap : Nat} {L : List Se} (h : SessAt w a cap L) {n : Nat} (hn : n ≤ L.length) : SessAt w a cap (L.take n) := by
  refine ⟨by rw [List.length_take]; have := h.len; omega, h.max, h.nil, fun h0 => ?_⟩
  rw [List.length_take] at h0
  obtain ⟨b, off, ha, hc⟩ := h.at_ (by omega)
  refine ⟨b, off, ha, fun i hi => ?_⟩
  rw [List.length_take] at hi
  have := hc i (by omega)
  rw [getD_ltS (by omega)] at this
  rw [getD_ltS (by rw [List.length_take]; omega), List.getElem_take]
  exact this
theorem SessAt.drop {w : World} {ad : Addr} {cap : Nat} {L : List Se} (h : SessAt w (some ad) cap L) {n : Nat} (hn : n ≤ L.length) : SessAt w (some (ad.add (n * 6))) (cap - n) (L.drop n) := by
  refine ⟨by rw [List.length_drop]; have := h.len; omega, by have := h.max; omega, fun e => (by cases e), fun h0 => ?_⟩
  rw [List.length_drop] at h0
  obtain ⟨b, off, ha, hc⟩ := h.at_ (by omega)
  injection ha with ha
  subst ha
  refine ⟨b, off + n * 6, by rw [Go.WideShapes.add_plain], fun i hi => ?_⟩
  rw [List.length_drop] at hi
  have := hc (n + i) (by omega)
  rw [getD_ltS (by omega)] at this
  rw [getD_ltS (by rw [List.length_drop]; omega), List.getElem_drop]
  rw [show off + n * 6 + i * 6 = off + (n + i) * 6 by omega]
  exact this
/-! ### a machine: two slices by value -/
structure Ms where
  a : Option Addr
  cap : Nat
  a2 : Option Addr
  cap2 : Nat
@[reducible] def Ms.agg (s : Ms) (m : Ma) : Value := .agg #[.slice s.a m.pairs.length s.cap, .slice s.a2 m.sess.length s.cap2]
def Ms.obj (s : Ms) (m : Ma) : Obj := .cells #[.slice s.a m.pairs.length s.cap, .slice s.a2 m.sess.length s.cap2] 25
def Ms.zero : Ms := ⟨none, 0, none, 0⟩
structure MaAt (w : World) (s : Ms) (m : Ma) : Prop where
  pairs : PairsAt w s.a s.cap m.pairs
  sess : SessAt w s.a2 s.cap2 m.sess
theorem MaAt.on {w w' : World} {s : Ms} {m : Ma} (h : MaAt w s m) (hb : Beh w w') : MaAt w' s m := ⟨h.pairs.below hb, h.sess.below hb⟩
theorem MaAt.zero (w : World) : MaAt w Ms.zero Ma.zero := ⟨PairsAt.empty _, SessAt.empty _⟩
theorem cells6 {w : World} {b : Nat} {x0 x1 x2 x3 x4 x5 : Value} {t : TypeId} (h : w.heap[b]? = some (.cells #[x0, x1, x2, x3, x4, x5] t)) :
    w.cell? ⟨b, 0, none⟩ = some x0 ∧ w.cell? ⟨b, 1, none⟩ = some x1 ∧ w.cell? ⟨b, 2, none⟩ = some x2 ∧ w.cell? ⟨b, 3, none⟩ = some x3 ∧ w.cell? ⟨b, 4, none⟩ = some x4 ∧ w.cell? ⟨b, 5, none⟩ = some x5 := by
  refine ⟨?_, ?_, ?_, ?_, ?_, ?_⟩ <;> simp [World.cell?, h]
theorem cells2 {w : World} {b : Nat} {x0 x1 : Value} {t : TypeId} (h : w.heap[b]? = some (.cells #[x0, x1] t)) : w.cell? ⟨b, 0, none⟩ = some x0 ∧ w.cell? ⟨b, 1, none⟩ = some x1 := by
  refine ⟨?_, ?_⟩ <;> simp [World.cell?, h]
theorem cells10 {w : World} {b : Nat} {x0 x1 x2 x3 x4 x5 x6 x7 x8 x9 : Value} {t : TypeId} (h : w.heap[b]? = some (.cells #[x0, x1, x2, x3, x4, x5, x6, x7, x8, x9] t)) :
    w.cell? ⟨b, 0, none⟩ = some x0 ∧ w.cell? ⟨b, 1, none⟩ = some x1 ∧ w.cell? ⟨b, 2, none⟩ = some x2 ∧ w.cell? ⟨b, 3, none⟩ = some x3 ∧ w.cell? ⟨b, 4, none⟩ = some x4 ∧ w.cell? ⟨b, 5, none⟩ = some x5 ∧ w.cell? ⟨b, 6, none⟩ = some x6 ∧ w.cell? ⟨b, 7, none⟩ = some x7 ∧ w.cell? ⟨b, 8, none⟩ = some x8 ∧ w.cell? ⟨b, 9, none⟩ = some x9 := by
  refine ⟨?_, ?_, ?_, ?_, ?_, ?_, ?_, ?_, ?_, ?_⟩ <;> simp [World.cell?, h]
end Go.Proofs.YtbheofibdogabaaGreat.Ss
end
section
/- Texts as bytes, and back: the two conversions; a Writer and a Reader beside other blocks. -/
namespace Go.Proofs.YtbheofibdogabaaGreat.Ss
open Go Go.RowKit Vl Kv Mem

theorem strOfNums_lb (l : List Nat) : strOfNums (l.map Int.ofNat) = lb l := by
  unfold strOfNums lb
  rw [List.map_map]
  congr 2
theorem run_lb (w : World) (b : Nat) (a : Option Addr) (cap n : Nat) (l : List Nat) (hn : n = l.length) (h : OwnB 5 w b a cap l) :
    (convert 26 9 (.slice a n cap)).run Tryz.prog w = .ok (.string (lb l)) w := by
  subst hn
  have hc := h
  rcases h with ⟨rfl, rfl, h3⟩ | ⟨rfl, _, _, _⟩
  · have : l = [] := by simpa using h3
    subst this
    exact run_convert_bytes_nil w _ _ Tryz.underlying26 Tryz.underlying5 _ _ _ Tryz.underlying9
  · rw [run_convert_bytes_arg w 26 5 Tryz.underlying26 Tryz.underlying5 b 0 l.length cap (l.map Int.ofNat) (by simp) (fun i hi => by
      rw [Nat.zero_add, hc.cellAt i hi]
      simp [hi]) _ Tryz.underlying9, strOfNums_lb]
theorem run_bl (w : World) (s : ByteArray) : (convert 9 26 (.string s)).run Tryz.prog w = .ok (.slice (some ⟨w.heap.size, 0, none⟩) s.size (grownCap w s.size 0 5)) (Lib.bytesWorld w 5 s) :=
  Lib.run_convert_string_bytes w _ _ _ s Tryz.underlying9 Tryz.underlying26 Tryz.underlying5
theorem bytesW_beh (w : World) (s : ByteArray) : Beh w (Lib.bytesWorld w 5 s) :=
  ⟨rfl, rfl, rfl, by rw [Lib.bytesWorld_size]; omega, fun k hk => Lib.bytesWorld_at_old w _ s k hk⟩
theorem bytesW_src (w : World) (s : ByteArray) (hs : s.size ≤ 16384) : Shows (Lib.bytesWorld w 5 s) w.heap.size (some ⟨w.heap.size, 0, none⟩) (grownCap w s.size 0 5) (bl s) := by
  have h1 := grownCap_ge w s.size 0 5
  have h2 := grownCap_le_maxLen w s.size 0 5 (by unfold maxLen; omega)
  refine ⟨by rw [bl_length]; exact h1, by unfold maxLen at h2; omega, .inr ⟨0, rfl, fun i hi => ?_⟩⟩
  rw [bl_length] at hi
  rw [Nat.zero_add, Lib.bytesWorld_cell w _ s i hi]
  have e : s.data[i]? = some s.data[i] := Array.getElem?_eq_getElem hi
  unfold bl
  simp [List.getD, e]

theorem cellOn {w w' : World} (hb : Beh w w') {a : Addr} {v : Value} (h : w.cell? a = some v) : w'.cell? a = some v :=
  (World.cell?_of_block (w := w) (hb.below.block a.block (World.block_lt_of_cell? w _ h))).trans h
/-! ### a Writer beside other blocks -/
def OwnX (w0 wr : World) (bw : Nat) (l : List Nat) (F : List (Nat × Obj)) : Prop :=
  ∃ S, Pk.WAt wr bw S l ∧ (∀ k, S k → w0.heap.size ≤ k) ∧ Kept None w0 wr ∧ ∀ x ∈ F, wr.heap[x.1]? = some x.2 ∧ ¬ S x.1
theorem kept_beh {w w' : World} (h : Beh w w') : Kept None w w' := Kept.of_below h
theorem beh_kept {w w' : World} (h : Kept None w w') : Beh w w' := h.below (Nat.le_refl _) (fun _ h => h.elim)
theorem OwnX.beh {w0 wr : World} {bw : Nat} {l : List Nat} {F : List (Nat × Obj)} (h : OwnX w0 wr bw l F) : Beh w0 wr := by
  obtain ⟨_, _, _, h, _⟩ := h; exact beh_kept h
theorem OwnX.get {w0 wr : World} {bw : Nat} {l : List Nat} {F : List (Nat × Obj)} (h : OwnX w0 wr bw l F) {n : Nat} {o : Obj} (hx : (n, o) ∈ F) : wr.heap[n]? = some o := by
  obtain ⟨_, _, _, _, h⟩ := h; exact (h _ hx).1
theorem OwnX.put {w0 wr w' : World} {bw : Nat} {l m : List Nat} {F : List (Nat × Obj)} {S : Nat → Prop} {x : Ending} (_h1 : Pk.WAt wr bw S l) (h2 : ∀ k, S k → w0.heap.size ≤ k) (h3 : Kept None w0 wr) (h4 : ∀ x ∈ F, wr.heap[x.1]? = some x.2 ∧ ¬ S x.1)
    (hp : Pk.Put bw S m wr x w') : x = .returned (.tuple #[]) ∧ OwnX w0 w' bw m F := by
  obtain ⟨hx, p1, p2⟩ := hp
  have hs := h3.size
  refine ⟨hx, _, p1, fun k hk => hk.elim (h2 k) (fun h => by omega), h3.trans' p2 (fun x hx => .inr (h2 x hx)), fun x hxF => ?_⟩
  obtain ⟨a, b⟩ := h4 x hxF
  have hlt := heap_lt a
  exact ⟨p2.heap a b, fun e => e.elim b (fun h => by omega)⟩
theorem OwnX.on {w0 wr w' : World} {bw : Nat} {l : List Nat} {F : List (Nat × Obj)} (h : OwnX w0 wr bw l F) (hb : Beh wr w') : OwnX w0 w' bw l F := by
  obtain ⟨S, h1, h2, h3, h4⟩ := h
  exact ⟨S, h1.kept (kept_beh hb) (fun _ _ h => h), h2, h3.trans (kept_beh hb), fun x hx => ⟨hb.box (h4 x hx).1, (h4 x hx).2⟩⟩
theorem OwnX.more {w0 wr : World} {bw : Nat} {l : List Nat} {F : List (Nat × Obj)} (h : OwnX w0 wr bw l F) (o : Obj) : OwnX w0 (wr.alloc o) bw l ((wr.heap.size, o) :: F) := by
  obtain ⟨S, h1, h2, h3, h4⟩ := h
  have hk : Kept None wr (wr.alloc o) := (Kept.refl _ _).alloc _
  refine ⟨S, h1.kept hk (fun _ _ h => h), h2, h3.trans hk, fun x hx => ?_⟩
  rcases List.mem_cons.1 hx with rfl | hx
  · exact ⟨alloc_here _ rfl, fun e => by have := h1.2.1 _ e; omega⟩
  · exact ⟨old_alloc _ (h4 x hx).1, (h4 x hx).2⟩
theorem OwnX.less {w0 wr : World} {bw : Nat} {l : List Nat} {F G : List (Nat × Obj)} (h : OwnX w0 wr bw l F) (hg : ∀ x ∈ G, x ∈ F) : OwnX w0 wr bw l G := by
  obtain ⟨S, h1, h2, h3, h4⟩ := h
  exact ⟨S, h1, h2, h3, fun x hx => h4 x (hg x hx)⟩
theorem WAt.new (w : World) : Pk.WAt (w.alloc (.cells #[.pointer none, .int .i64 0, .bool false] 58)) w.heap.size (Only w.heap.size) [] := Pk.WAt.new w
theorem OwnX.new {w0 wr : World} (h : Beh w0 wr) {F : List (Nat × Obj)} (hF : ∀ x ∈ F, wr.heap[x.1]? = some x.2) : OwnX w0 (wr.alloc (.cells #[.pointer none, .int .i64 0, .bool false] 58)) wr.heap.size [] F :=
  ⟨_, WAt.new wr, fun k hk => by cases hk; exact h.size, (kept_beh h).alloc _, fun x hx => ⟨old_alloc _ (hF x hx), fun e => by
    have h1 : x.1 = wr.heap.size := e
    have := heap_lt (hF x hx); omega⟩⟩
theorem wInt {w0 wr : World} {bw : Nat} {l : List Nat} {F : List (Nat × Obj)} (h : OwnX w0 wr bw l F) {n : Int} (h1 : -9223372036854775808 ≤ n) (h2 : n ≤ 9223372036854775807) (hl : l.length ≤ 100000) :
    Calls Tryz.prog 20 #[.pointer (some ⟨bw, 0, none⟩), .int .i64 n] wr fun x w' => x = .returned (.tuple #[]) ∧ OwnX w0 w' bw (l ++ Pk.intB n) F := by
  obtain ⟨S, a, b, c, d⟩ := h
  exact (Pk.WInt_any bw S l n wr a h1 h2 (by omega)).mono fun x w' hp => OwnX.put a b c d hp
theorem wFloat {w0 wr : World} {bw : Nat} {l : List Nat} {F : List (Nat × Obj)} (h : OwnX w0 wr bw l F) {n : Nat} (hl : l.length ≤ 100000) :
    Calls Tryz.prog 46 #[.pointer (some ⟨bw, 0, none⟩), .float .f64 n] wr fun x w' => x = .returned (.tuple #[]) ∧ OwnX w0 w' bw (l ++ Pk.fltB n) F := by
  obtain ⟨S, a, b, c, d⟩ := h
  exact (Pk.WFloat_any bw S l n wr a (by omega)).mono fun x w' hp => OwnX.put a b c d hp
/-- Text of a string's bytes -/
theorem wText {w0 wr : World} {bw : Nat} {l : List Nat} {F : List (Nat × Obj)} (h : OwnX w0 wr bw l F) (s : ByteArray) (hs : s.size ≤ 16384) (hl : l.length ≤ 100000) :
    Calls Tryz.prog 21 #[.pointer (some ⟨bw, 0, none⟩), .slice (some ⟨wr.heap.size, 0, none⟩) s.size (grownCap wr s.size 0 5)] (Lib.bytesWorld wr 5 s) fun x w' => x = .returned (.tuple #[]) ∧ OwnX w0 w' bw (l ++ Pk.textB (bl s)) F := by
  have hb := bytesW_beh wr s
  obtain ⟨S, a, b, c, d⟩ := h
  have a2 := a.kept (kept_beh hb) (fun _ _ h => h)
  have := Pk.WText_any bw S l (Lib.bytesWorld wr 5 s) a2 wr.heap.size _ _ (bl s) (bytesW_src wr s hs).src (fun _ e => by have := a.2.1 _ e; omega) (bl_b8 s) (by rw [bl_length]; exact hs) (by omega)
  rw [bl_length] at this
  exact this.mono fun x w' hp => OwnX.put a2 b (c.trans (kept_beh hb)) (fun x hx => ⟨hb.box (d x hx).1, (d x hx).2⟩) hp
theorem wTextAt {w0 wr w2 : World} {bw n cap : Nat} {l : List Nat} {F : List (Nat × Obj)} (h : OwnX w0 wr bw l F) (s : ByteArray) (hs : s.size ≤ 16384) (hl : l.length ≤ 100000) (hw : w2 = Lib.bytesWorld wr 5 s) (hn : n = wr.heap.size) (hc : cap = grownCap wr s.size 0 5) :
    Calls Tryz.prog 21 #[.pointer (some ⟨bw, 0, none⟩), .slice (some ⟨n, 0, none⟩) s.size cap] w2 fun x w' => x = .returned (.tuple #[]) ∧ OwnX w0 w' bw (l ++ Pk.textB (bl s)) F := by
  subst hw hn hc
  exact wText h s hs hl
theorem wBytes {w0 wr : World} {bw : Nat} {l : List Nat} {F : List (Nat × Obj)} (h : OwnX w0 wr bw l F) (hl : l.length ≤ 100000) :
    Calls Tryz.prog 23 #[.pointer (some ⟨bw, 0, none⟩)] wr fun x w' => ∃ b a cap, x = .returned (.tuple #[.slice a l.length cap, .int .i64 0]) ∧ OwnB 5 w' b a cap l ∧ wr.heap.size ≤ b ∧ Beh wr w' := by
  obtain ⟨S, a, b, c, d⟩ := h
  exact (Pk.WBytes_any bw S l wr a (by omega)).mono fun x w' ⟨b, a, cap, hx, ho, hb, _, hk⟩ => ⟨b, a, cap, hx, ho, hb, beh_kept hk⟩

/-! ### a Reader: each method, as one step -/
theorem rInt {wr : World} {br bs : Nat} {l : List Nat} {e : Int} (h : Pk.RAt wr br bs l e) (hl : l.length ≤ 100000) :
    Calls Tryz.prog 53 #[.pointer (some ⟨br, 0, none⟩)] wr fun x w' => x = .returned (.int .i64 (Pk.intOut l e).1) ∧ Pk.RAt w' br bs (Pk.intOut l e).2.1 (Pk.intOut l e).2.2 ∧ Kept (Only br) wr w' := by
  refine (Pk.RInt_any br bs l e wr h (by omega)).mono fun x w' hp => ?_
  unfold Pk.IntPost at hp
  unfold Pk.intOut
  cases hd : Pk.rdInt l with
  | none => rw [hd] at hp; exact ⟨hp.1, hp.2.1, hp.2.2⟩
  | some p => rw [hd] at hp; exact ⟨hp.1, hp.2.1, hp.2.2⟩
theorem rFloat {wr : World} {br bs : Nat} {l : List Nat} {e : Int} (h : Pk.RAt wr br bs l e) :
    Calls Tryz.prog 78 #[.pointer (some ⟨br, 0, none⟩)] wr fun x w' => x = .returned (.float .f64 (Pk.fltOut l e).1) ∧ Pk.RAt w' br bs (Pk.fltOut l e).2.1 (Pk.fltOut l e).2.2 ∧ Kept (Only br) wr w' := by
  refine (Pk.RFloat_any br bs l e wr h).mono fun x w' hp => ?_
  unfold Pk.FltPost at hp
  unfold Pk.fltOut
  cases hd : Pk.rdFlt l with
  | none => rw [hd] at hp; exact ⟨hp.1, hp.2.1, hp.2.2⟩
  | some p => rw [hd] at hp; exact ⟨hp.1, hp.2.1, hp.2.2⟩
theorem rText {wr : World} {br bs : Nat} {l : List Nat} {e : Int} (h : Pk.RAt wr br bs l e) (hl : l.length ≤ 100000) :
    Calls Tryz.prog 54 #[.pointer (some ⟨br, 0, none⟩)] wr fun x w' => ∃ b a cap, x = .returned (.slice a (Pk.textOut l e).1.length cap) ∧ OwnB 5 w' b a cap (Pk.textOut l e).1 ∧ Pk.RAt w' br bs (Pk.textOut l e).2.1 (Pk.textOut l e).2.2 ∧ Kept (Only br) wr w' :=
  (Pk.RText_any br bs l e wr h (by omega)).mono fun x w' ⟨b, a, cap, hx, ho, _, _, hr, hk⟩ => ⟨b, a, cap, hx, ho, hr, hk⟩
end Go.Proofs.YtbheofibdogabaaGreat.Ss
end
section
/- Plain mathematics: what is left behind a read is no longer. No program's function. -/
namespace Go.Proofs.YtbheofibdogabaaGreat.Ss
open Go Go.RowKit Vl Kv Mem

/-- what is left: no longer, bytes -/
def Rest (l r : List Nat) : Prop := r.length ≤ l.length ∧ B8 r
theorem Rest.trans {a b c : List Nat} (h : Rest a b) (k : Rest b c) : Rest a c := ⟨Nat.le_trans k.1 h.1, k.2⟩
theorem Rest.self {a : List Nat} (h : B8 a) : Rest a a := ⟨Nat.le_refl _, h⟩
theorem Rest.none {a : List Nat} : Rest a [] := ⟨by simp, B8.nil⟩
theorem Rest.ne {a b : List Nat} (h : Rest a b) (hb : b ≠ []) : a ≠ [] := fun e => by
  subst e
  have := h.1
  exact hb (List.eq_nil_of_length_eq_zero (by simpa using this))
theorem intOut_rest {l : List Nat} (h : B8 l) (e : Int) : Rest l (Pk.intOut l e).2.1 := by
  unfold Pk.intOut
  cases hd : Pk.rdInt l with
  | none => exact Rest.none
  | some p =>
    obtain ⟨n, r⟩ := p
    obtain ⟨h1, _⟩ := Pk.rdInt_sound h hd
    refine ⟨?_, fun x hx => h x (by rw [h1]; exact List.mem_append_right _ hx)⟩
    rw [h1, List.length_append]
    show r.length ≤ _
    omega
theorem fltOut_rest {l : List Nat} (h : B8 l) (e : Int) : Rest l (Pk.fltOut l e).2.1 := by
  unfold Pk.fltOut Pk.rdFlt
  split
  · rename_i n r hd
    split at hd
    · cases hd
    · split at hd
      · injection hd with hd
        injection hd with _ hd
        subst hd
        exact ⟨by show (l.drop 8).length ≤ _; rw [List.length_drop]; omega, h.drop _⟩
      · cases hd
  · exact Rest.none
theorem textOut_rest {l : List Nat} (h : B8 l) (e : Int) : Rest l (Pk.textOut l e).2.1 := by
  unfold Pk.textOut Pk.rdText
  cases hd : Pk.rdInt l with
  | none => exact Rest.none
  | some p =>
    obtain ⟨n, r⟩ := p
    obtain ⟨h1, _⟩ := Pk.rdInt_sound h hd
    have hr : Rest l r := ⟨by rw [h1, List.length_append]; omega, fun x hx => h x (by rw [h1]; exact List.mem_append_right _ hx)⟩
    simp only
    split
    · rename_i t r2 hd2
      split at hd2
      · cases hd2
      · split at hd2
        · cases hd2
        · injection hd2 with hd2
          injection hd2 with _ hd2
          subst hd2
          exact hr.trans ⟨by rw [List.length_drop]; omega, hr.2.drop _⟩
    · exact Rest.none
theorem rdV_rest {l : List Nat} (h : B8 l) (e : Int) : Rest l (rdV l e).2.1 := by
  have h1 := intOut_rest h e
  unfold rdV
  split
  · exact h1.trans (fltOut_rest h1.2 _)
  · split
    · exact h1.trans (textOut_rest h1.2 _)
    · exact h1
theorem rdPr_rest {l : List Nat} (h : B8 l) (e : Int) : Rest l (rdPr l e).2.1 := by
  have h1 := textOut_rest h e
  exact h1.trans (rdV_rest h1.2 _)
theorem rdSe_rest {l : List Nat} (h : B8 l) (e : Int) : Rest l (rdSe l e).2.1 := by
  have h1 := intOut_rest h e
  have h2 := h1.trans (intOut_rest h1.2 (Pk.intOut l e).2.2)
  have h3 := h2.trans (intOut_rest h2.2 (Pk.intOut (Pk.intOut l e).2.1 (Pk.intOut l e).2.2).2.2)
  exact h3.trans (rdV_rest h3.2 _)
theorem rdN_rest {α : Type} {f : List Nat → Int → α × List Nat × Int} (hf : ∀ {l : List Nat}, B8 l → ∀ e, Rest l (f l e).2.1) {l : List Nat} (h : B8 l) (e : Int) (n : Nat) : Rest l (rdN f l e n).2.1 := by
  induction n with
  | zero => exact Rest.self h
  | succ n ih => exact ih.trans (hf ih.2 _)
/-- a float that is read is one -/
theorem fltOut_lt {l : List Nat} (h : B8 l) (e : Int) : (Pk.fltOut l e).1 < 18446744073709551616 := by
  unfold Pk.fltOut Pk.rdFlt
  split
  · rename_i n r hd
    split at hd
    · cases hd
    · split at hd
      · injection hd with hd
        injection hd with hd _
        subst hd
        exact (Pk.high8_num8 (l := l.take 8) (by rw [List.length_take]; omega) (h.take 8)).2
      · cases hd
  · show (0 : Nat) < 18446744073709551616; decide
theorem rdV_lt {l : List Nat} (h : B8 l) (e : Int) : (rdV l e).1.num < 18446744073709551616 := by
  have h1 := intOut_rest h e
  unfold rdV
  split
  · exact fltOut_lt h1.2 _
  · split
    · show (0 : Nat) < 18446744073709551616; decide
    · show (0 : Nat) < 18446744073709551616; decide
theorem rdN_all2 {α : Type} {f : List Nat → Int → α × List Nat × Int} {P : α → Prop} (hf : ∀ {l : List Nat}, B8 l → ∀ e, Rest l (f l e).2.1) (hp : ∀ {l : List Nat}, B8 l → ∀ e, P (f l e).1) {l : List Nat} (h : B8 l) (e : Int) (n : Nat) : ∀ a ∈ (rdN f l e n).1, P a := by
  induction n with
  | zero => intro a ha; cases ha
  | succ n ih =>
    intro a ha
    rcases List.mem_append.1 ha with ha | ha
    · exact ih a ha
    · rw [List.mem_singleton] at ha
      subst ha
      exact hp (rdN_rest hf h e n).2 _
theorem readM_fit {l : List Nat} (h : B8 l) : FitM (readM l) := by
  have h1 := intOut_rest h 0
  have h2 := h1.trans (rdN_rest (f := rdPr) (fun h e => rdPr_rest h e) h1.2 (Pk.intOut l 0).2.2 (min (Pk.intOut l 0).1 32).toNat)
  have h3 := h2.trans (intOut_rest h2.2 (rdP l).2.2)
  refine ⟨?_, ?_⟩
  · exact rdN_all2 (P := fun p : Pr => p.val.num < 18446744073709551616) (fun h e => rdPr_rest h e) (fun h e => rdV_lt (textOut_rest h e).2 _) h1.2 _ _
  · refine rdN_all2 (P := fun s : Se => s.val.num < 18446744073709551616) (fun h e => rdSe_rest h e) (fun {l} h e => ?_) h3.2 _ _
    have k1 := intOut_rest h e
    have k2 := k1.trans (intOut_rest k1.2 (Pk.intOut l e).2.2)
    have k3 := k2.trans (intOut_rest k2.2 (Pk.intOut (Pk.intOut l e).2.1 (Pk.intOut l e).2.2).2.2)
    exact rdV_lt k3.2 _
end Go.Proofs.YtbheofibdogabaaGreat.Ss
end
