/- Texts as bytes, and back: the two conversions; a Writer and a Reader beside other blocks. -/
import Derived.Test.YtlgmjkbaihpmmaaGreatSessAt
import Derived.Lib.ConvBytes
import Derived.Laws.IdiomStrings
namespace Go.Proofs.YtlgmjkbaihpmmaaGreat.Ss
open Go Go.RowKit Vl Kv Mem

theorem strOfNums_lb (l : List Nat) : strOfNums (l.map Int.ofNat) = lb l := by
  unfold strOfNums lb
  rw [List.map_map]
  congr 2
theorem run_lb (w : World) (b : Nat) (a : Option Addr) (cap n : Nat) (l : List Nat) (hn : n = l.length) (h : OwnB 5 w b a cap l) :
    (convert 26 9 (.slice a n cap)).run Tryz.prog w = .ok (.string (lb l)) w := by
  subst hn
  have hc := h
  rcases h with ⟨rfl, rfl, h3⟩ | ⟨rfl, _, _, _⟩
  · have : l = [] := by simpa using h3
    subst this
    exact run_convert_bytes_nil w _ _ Tryz.underlying26 Tryz.underlying5 _ _ _ Tryz.underlying9
  · rw [run_convert_bytes_arg w 26 5 Tryz.underlying26 Tryz.underlying5 b 0 l.length cap (l.map Int.ofNat) (by simp) (fun i hi => by
      rw [Nat.zero_add, hc.cellAt i hi]
      simp [hi]) _ Tryz.underlying9, strOfNums_lb]
theorem run_bl (w : World) (s : ByteArray) : (convert 9 26 (.string s)).run Tryz.prog w = .ok (.slice (some ⟨w.heap.size, 0, none⟩) s.size (grownCap w s.size 0 5)) (Lib.bytesWorld w 5 s) :=
  Lib.run_convert_string_bytes w _ _ _ s Tryz.underlying9 Tryz.underlying26 Tryz.underlying5
theorem bytesW_beh (w : World) (s : ByteArray) : Beh w (Lib.bytesWorld w 5 s) :=
  ⟨rfl, rfl, rfl, by rw [Lib.bytesWorld_size]; omega, fun k hk => Lib.bytesWorld_at_old w _ s k hk⟩
theorem bytesW_src (w : World) (s : ByteArray) (hs : s.size ≤ 16384) : Shows (Lib.bytesWorld w 5 s) w.heap.size (some ⟨w.heap.size, 0, none⟩) (grownCap w s.size 0 5) (bl s) := by
  have h1 := grownCap_ge w s.size 0 5
  have h2 := grownCap_le_maxLen w s.size 0 5 (by unfold maxLen; omega)
  refine ⟨by rw [bl_length]; exact h1, by unfold maxLen at h2; omega, .inr ⟨0, rfl, fun i hi => ?_⟩⟩
  rw [bl_length] at hi
  rw [Nat.zero_add, Lib.bytesWorld_cell w _ s i hi]
  have e : s.data[i]? = some s.data[i] := Array.getElem?_eq_getElem hi
  unfold bl
  simp [List.getD, e]

theorem cellOn {w w' : World} (hb : Beh w w') {a : Addr} {v : Value} (h : w.cell? a = some v) : w'.cell? a = some v :=
  (World.cell?_of_block (w := w) (hb.below.block a.block (World.block_lt_of_cell? w _ h))).trans h
/-! ### a Writer beside other blocks -/
def OwnX (w0 wr : World) (bw : Nat) (l : List Nat) (F : List (Nat × Obj)) : Prop :=
  ∃ S, Pk.WAt wr bw S l ∧ (∀ k, S k → w0.heap.size ≤ k) ∧ Kept None w0 wr ∧ ∀ x ∈ F, wr.heap[x.1]? = some x.2 ∧ ¬ S x.1
theorem kept_beh {w w' : World} (h : Beh w w') : Kept None w w' := Kept.of_below h
theorem beh_kept {w w' : World} (h : Kept None w w') : Beh w w' := h.below (Nat.le_refl _) (fun _ h => h.elim)
theorem OwnX.beh {w0 wr : World} {bw : Nat} {l : List Nat} {F : List (Nat × Obj)} (h : OwnX w0 wr bw l F) : Beh w0 wr := by
  obtain ⟨_, _, _, h, _⟩ := h; exact beh_kept h
theorem OwnX.get {w0 wr : World} {bw : Nat} {l : List Nat} {F : List (Nat × Obj)} (h : OwnX w0 wr bw l F) {n : Nat} {o : Obj} (hx : (n, o) ∈ F) : wr.heap[n]? = some o := by
  obtain ⟨_, _, _, _, h⟩ := h; exact (h _ hx).1
theorem OwnX.put {w0 wr w' : World} {bw : Nat} {l m : List Nat} {F : List (Nat × Obj)} {S : Nat → Prop} {x : Ending} (_h1 : Pk.WAt wr bw S l) (h2 : ∀ k, S k → w0.heap.size ≤ k) (h3 : Kept None w0 wr) (h4 : ∀ x ∈ F, wr.heap[x.1]? = some x.2 ∧ ¬ S x.1)
    (hp : Pk.Put bw S m wr x w') : x = .returned (.tuple #[]) ∧ OwnX w0 w' bw m F := by
  obtain ⟨hx, p1, p2⟩ := hp
  have hs := h3.size
  refine ⟨hx, _, p1, fun k hk => hk.elim (h2 k) (fun h => by omega), h3.trans' p2 (fun x hx => .inr (h2 x hx)), fun x hxF => ?_⟩
  obtain ⟨a, b⟩ := h4 x hxF
  have hlt := heap_lt a
  exact ⟨p2.heap a b, fun e => e.elim b (fun h => by omega)⟩
theorem OwnX.on {w0 wr w' : World} {bw : Nat} {l : List Nat} {F : List (Nat × Obj)} (h : OwnX w0 wr bw l F) (hb : Beh wr w') : OwnX w0 w' bw l F := by
  obtain ⟨S, h1, h2, h3, h4⟩ := h
  exact ⟨S, h1.kept (kept_beh hb) (fun _ _ h => h), h2, h3.trans (kept_beh hb), fun x hx => ⟨hb.box (h4 x hx).1, (h4 x hx).2⟩⟩
theorem OwnX.more {w0 wr : World} {bw : Nat} {l : List Nat} {F : List (Nat × Obj)} (h : OwnX w0 wr bw l F) (o : Obj) : OwnX w0 (wr.alloc o) bw l ((wr.heap.size, o) :: F) := by
  obtain ⟨S, h1, h2, h3, h4⟩ := h
  have hk : Kept None wr (wr.alloc o) := (Kept.refl _ _).alloc _
  refine ⟨S, h1.kept hk (fun _ _ h => h), h2, h3.trans hk, fun x hx => ?_⟩
  rcases List.mem_cons.1 hx with rfl | hx
  · exact ⟨alloc_here _ rfl, fun e => by have := h1.2.1 _ e; omega⟩
  · exact ⟨old_alloc _ (h4 x hx).1, (h4 x hx).2⟩
theorem OwnX.less {w0 wr : World} {bw : Nat} {l : List Nat} {F G : List (Nat × Obj)} (h : OwnX w0 wr bw l F) (hg : ∀ x ∈ G, x ∈ F) : OwnX w0 wr bw l G := by
  obtain ⟨S, h1, h2, h3, h4⟩ := h
  exact ⟨S, h1, h2, h3, fun x hx => h4 x (hg x hx)⟩
theorem WAt.new (w : World) : Pk.WAt (w.alloc (.cells #[.pointer none, .int .i64 0, .bool false] 58)) w.heap.size (Only w.heap.size) [] := Pk.WAt.new w
theorem OwnX.new {w0 wr : World} (h : Beh w0 wr) {F : List (Nat × Obj)} (hF : ∀ x ∈ F, wr.heap[x.1]? = some x.2) : OwnX w0 (wr.alloc (.cells #[.pointer none, .int .i64 0, .bool false] 58)) wr.heap.size [] F :=
  ⟨_, WAt.new wr, fun k hk => by cases hk; exact h.size, (kept_beh h).alloc _, fun x hx => ⟨old_alloc _ (hF x hx), fun e => by
    have h1 : x.1 = wr.heap.size := e
    have := heap_lt (hF x hx); omega⟩⟩
theorem wInt {w0 wr : World} {bw : Nat} {l : List Nat} {F : List (Nat × Obj)} (h : OwnX w0 wr bw l F) {n : Int} (h1 : -9223372036854775808 ≤ n) (h2 : n ≤ 9223372036854775807) (hl : l.length ≤ 100000) :
    Calls Tryz.prog 20 #[.pointer (some ⟨bw, 0, none⟩), .int .i64 n] wr fun x w' => x = .returned (.tuple #[]) ∧ OwnX w0 w' bw (l ++ Pk.intB n) F := by
  obtain ⟨S, a, b, c, d⟩ := h
  exact (Pk.WInt_any bw S l n wr a h1 h2 (by omega)).mono fun x w' hp => OwnX.put a b c d hp
theorem wFloat {w0 wr : World} {bw : Nat} {l : List Nat} {F : List (Nat × Obj)} (h : OwnX w0 wr bw l F) {n : Nat} (hl : l.length ≤ 100000) :
    Calls Tryz.prog 46 #[.pointer (some ⟨bw, 0, none⟩), .float .f64 n] wr fun x w' => x = .returned (.tuple #[]) ∧ OwnX w0 w' bw (l ++ Pk.fltB n) F := by
  obtain ⟨S, a, b, c, d⟩ := h
  exact (Pk.WFloat_any bw S l n wr a (by omega)).mono fun x w' hp => OwnX.put a b c d hp
/-- Text of a string's bytes -/
theorem wText {w0 wr : World} {bw : Nat} {l : List Nat} {F : List (Nat × Obj)} (h : OwnX w0 wr bw l F) (s : ByteArray) (hs : s.size ≤ 16384) (hl : l.length ≤ 100000) :
    Calls Tryz.prog 21 #[.pointer (some ⟨bw, 0, none⟩), .slice (some ⟨wr.heap.size, 0, none⟩) s.size (grownCap wr s.size 0 5)] (Lib.bytesWorld wr 5 s) fun x w' => x = .returned (.tuple #[]) ∧ OwnX w0 w' bw (l ++ Pk.textB (bl s)) F := by
  have hb := bytesW_beh wr s
  obtain ⟨S, a, b, c, d⟩ := h
  have a2 := a.kept (kept_beh hb) (fun _ _ h => h)
  have := Pk.WText_any bw S l (Lib.bytesWorld wr 5 s) a2 wr.heap.size _ _ (bl s) (bytesW_src wr s hs).src (fun _ e => by have := a.2.1 _ e; omega) (bl_b8 s) (by rw [bl_length]; exact hs) (by omega)
  rw [bl_length] at this
  exact this.mono fun x w' hp => OwnX.put a2 b (c.trans (kept_beh hb)) (fun x hx => ⟨hb.box (d x hx).1, (d x hx).2⟩) hp
theorem wTextAt {w0 wr w2 : World} {bw n cap : Nat} {l : List Nat} {F : List (Nat × Obj)} (h : OwnX w0 wr bw l F) (s : ByteArray) (hs : s.size ≤ 16384) (hl : l.length ≤ 100000) (hw : w2 = Lib.bytesWorld wr 5 s) (hn : n = wr.heap.size) (hc : cap = grownCap wr s.size 0 5) :
    Calls Tryz.prog 21 #[.pointer (some ⟨bw, 0, none⟩), .slice (some ⟨n, 0, none⟩) s.size cap] w2 fun x w' => x = .returned (.tuple #[]) ∧ OwnX w0 w' bw (l ++ Pk.textB (bl s)) F := by
  subst hw hn hc
  exact wText h s hs hl
theorem wBytes {w0 wr : World} {bw : Nat} {l : List Nat} {F : List (Nat × Obj)} (h : OwnX w0 wr bw l F) (hl : l.length ≤ 100000) :
    Calls Tryz.prog 23 #[.pointer (some ⟨bw, 0, none⟩)] wr fun x w' => ∃ b a cap, x = .returned (.tuple #[.slice a l.length cap, .int .i64 0]) ∧ OwnB 5 w' b a cap l ∧ wr.heap.size ≤ b ∧ Beh wr w' := by
  obtain ⟨S, a, b, c, d⟩ := h
  exact (Pk.WBytes_any bw S l wr a (by omega)).mono fun x w' ⟨b, a, cap, hx, ho, hb, _, hk⟩ => ⟨b, a, cap, hx, ho, hb, beh_kept hk⟩

/-! ### a Reader: each method, as one step -/
theorem rInt {wr : World} {br bs : Nat} {l : List Nat} {e : Int} (h : Pk.RAt wr br bs l e) (hl : l.length ≤ 100000) :
    Calls Tryz.prog 53 #[.pointer (some ⟨br, 0, none⟩)] wr fun x w' => x = .returned (.int .i64 (Pk.intOut l e).1) ∧ Pk.RAt w' br bs (Pk.intOut l e).2.1 (Pk.intOut l e).2.2 ∧ Kept (Only br) wr w' := by
  refine (Pk.RInt_any br bs l e wr h (by omega)).mono fun x w' hp => ?_
  unfold Pk.IntPost at hp
  unfold Pk.intOut
  cases hd : Pk.rdInt l with
  | none => rw [hd] at hp; exact ⟨hp.1, hp.2.1, hp.2.2⟩
  | some p => rw [hd] at hp; exact ⟨hp.1, hp.2.1, hp.2.2⟩
theorem rFloat {wr : World} {br bs : Nat} {l : List Nat} {e : Int} (h : Pk.RAt wr br bs l e) :
    Calls Tryz.prog 78 #[.pointer (some ⟨br, 0, none⟩)] wr fun x w' => x = .returned (.float .f64 (Pk.fltOut l e).1) ∧ Pk.RAt w' br bs (Pk.fltOut l e).2.1 (Pk.fltOut l e).2.2 ∧ Kept (Only br) wr w' := by
  refine (Pk.RFloat_any br bs l e wr h).mono fun x w' hp => ?_
  unfold Pk.FltPost at hp
  unfold Pk.fltOut
  cases hd : Pk.rdFlt l with
  | none => rw [hd] at hp; exact ⟨hp.1, hp.2.1, hp.2.2⟩
  | some p => rw [hd] at hp; exact ⟨hp.1, hp.2.1, hp.2.2⟩
theorem rText {wr : World} {br bs : Nat} {l : List Nat} {e : Int} (h : Pk.RAt wr br bs l e) (hl : l.length ≤ 100000) :
    Calls Tryz.prog 54 #[.pointer (some ⟨br, 0, none⟩)] wr fun x w' => ∃ b a cap, x = .returned (.slice a (Pk.textOut l e).1.length cap) ∧ OwnB 5 w' b a cap (Pk.textOut l e).1 ∧ Pk.RAt w' br bs (Pk.textOut l e).2.1 (Pk.textOut l e).2.2 ∧ Kept (Only br) wr w' :=
  (Pk.RText_any br bs l e wr h (by omega)).mono fun x w' ⟨b, a, cap, hx, ho, _, _, hr, hk⟩ => ⟨b, a, cap, hx, ho, hr, hk⟩
end Go.Proofs.YtlgmjkbaihpmmaaGreat.Ss
