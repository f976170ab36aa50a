import Derived.Test.YtaengjgmchpabaaGreatMergeWr7
import Derived.Test.YtaengjgmchpabaaGreatMergeWr9
import Derived.Test.YtaengjgmchpabaaGreatMergeWr11
import Derived.Test.YtaengjgmchpabaaGreatMergeWr3
import Derived.Test.YtaengjgmchpabaaGreatMergeWr10
import Derived.Laws.Rows
import Derived.Deep.MidRow
section
/- A Writer of package wire beside other blocks: what it holds (bytes, or that a text was too long); each method as one step. -/
namespace Go.Proofs.YtaengjgmchpabaaGreat.Wr
open Go Go.RowKit Vl Kv Ss Cn Mem Lg
def lenO (o : Option (List Nat)) : Nat := match o with | some l => l.length | none => 0
/-- more behind it -/
def app (o : Option (List Nat)) (m : List Nat) : Option (List Nat) := match o with | some l => some (l ++ m) | none => none
/-- a text behind it -/
def appT (o : Option (List Nat)) (t : List Nat) : Option (List Nat) := if t.length ≤ 16384 then app o (Pk.textB t) else none
theorem app_app (o : Option (List Nat)) (a b : List Nat) : app (app o a) b = app o (a ++ b) := by cases o <;> simp [app]
theorem app_nil (o : Option (List Nat)) : app o [] = o := by cases o <;> simp [app]
theorem lenO_app (o : Option (List Nat)) (m : List Nat) : lenO (app o m) ≤ lenO o + m.length := by cases o <;> simp [app, lenO]
theorem lenO_int (o : Option (List Nat)) (n : Int) : lenO (app o (Pk.intB n)) ≤ lenO o + 10 := by
  have := lenO_app o (Pk.intB n); have := (Pk.intB_len n).2; omega
theorem appT_short {o : Option (List Nat)} {t : List Nat} (h : t.length ≤ 16384) : appT o t = app o (Pk.textB t) := if_pos h
set_option maxRecDepth 100000 in
theorem lenO_appT (o : Option (List Nat)) (t : List Nat) : lenO (appT o t) ≤ lenO o + 16394 := by
  unfold appT
  split
  · have := lenO_app o (Pk.textB t); have := textB_len t; omega
  · simp [lenO]
/-- a Writer at bw beside the blocks of F; w0: the world at the call's start -/
def Yw (w0 wr : World) (bw : Nat) (o : Option (List Nat)) (F : List (Nat × Obj)) : Prop :=
  ∃ S, Pk.St wr bw S o ∧ (∀ k, S k → w0.heap.size ≤ k) ∧ Kept None w0 wr ∧ ∀ x ∈ F, wr.heap[x.1]? = some x.2 ∧ ¬ S x.1
theorem Yw.beh {w0 wr : World} {bw : Nat} {o : Option (List Nat)} {F : List (Nat × Obj)} (h : Yw w0 wr bw o F) : Beh w0 wr := by
  obtain ⟨_, _, _, h, _⟩ := h; exact beh_kept h
theorem Yw.get {w0 wr : World} {bw : Nat} {o : Option (List Nat)} {F : List (Nat × Obj)} (h : Yw w0 wr bw o F) {n : Nat} {ob : Obj} (hx : (n, ob) ∈ F) : wr.heap[n]? = some ob := by
  obtain ⟨_, _, _, _, h⟩ := h; exact (h _ hx).1
theorem Yw.head {w0 wr : World} {bw : Nat} {o : Option (List Nat)} {F : List (Nat × Obj)} {n : Nat} {ob : Obj} (h : Yw w0 wr bw o ((n, ob) :: F)) : wr.heap[n]? = some ob := h.get (List.mem_cons_self ..)
theorem Yw.on {w0 wr w' : World} {bw : Nat} {o : Option (List Nat)} {F : List (Nat × Obj)} (h : Yw w0 wr bw o F) (hb : Beh wr w') : Yw w0 w' bw o F := by
  obtain ⟨S, h1, h2, h3, h4⟩ := h
  exact ⟨S, h1.kept (kept_beh hb) (fun _ _ h => h), h2, h3.trans (kept_beh hb), fun x hx => ⟨hb.box (h4 x hx).1, (h4 x hx).2⟩⟩
theorem Yw.more {w0 wr : World} {bw : Nat} {o : Option (List Nat)} {F : List (Nat × Obj)} (h : Yw w0 wr bw o F) (ob : Obj) : Yw w0 (wr.alloc ob) bw o ((wr.heap.size, ob) :: F) := by
  obtain ⟨S, h1, h2, h3, h4⟩ := h
  have hk : Kept None wr (wr.alloc ob) := (Kept.refl _ _).alloc _
  refine ⟨S, h1.kept hk (fun _ _ h => h), h2, h3.trans hk, fun x hx => ?_⟩
  rcases List.mem_cons.1 hx with rfl | hx
  · exact ⟨alloc_here _ rfl, fun e => by have := h1.lt _ e; omega⟩
  · exact ⟨old_alloc _ (h4 x hx).1, (h4 x hx).2⟩
theorem Yw.less {w0 wr : World} {bw : Nat} {o : Option (List Nat)} {F G : List (Nat × Obj)} (h : Yw w0 wr bw o F) (hg : ∀ x ∈ G, x ∈ F) : Yw w0 wr bw o G := by
  obtain ⟨S, h1, h2, h3, h4⟩ := h
  exact ⟨S, h1, h2, h3, fun x hx => h4 x (hg x hx)⟩
theorem Yw.tail {w0 wr : World} {bw : Nat} {o : Option (List Nat)} {F : List (Nat × Obj)} {y : Nat × Obj} (h : Yw w0 wr bw o (y :: F)) : Yw w0 wr bw o F := h.less fun _ hx => List.mem_cons_of_mem _ hx
theorem Yw.new {T : TypeId} {w0 wr : World} (h : Beh w0 wr) {F : List (Nat × Obj)} (hF : ∀ x ∈ F, wr.heap[x.1]? = some x.2) : Yw w0 (wr.alloc (.cells #[.pointer none, .int .i64 0, .bool false] T)) wr.heap.size (some []) F :=
  ⟨_, (WAt.new wr : Pk.WAt _ _ _ _), fun k hk => by cases hk; exact h.size, (kept_beh h).alloc _, fun x hx => ⟨old_alloc _ (hF x hx), fun e => by
    have h1 : x.1 = wr.heap.size := e
    have := heap_lt (hF x hx); omega⟩⟩
/-- a struct of three that is stored into a block of F -/
theorem Yw.putW {w0 wr w' : World} {bw : Nat} {m : List Nat} {F : List (Nat × Obj)} {S : Nat → Prop} {x : Ending} (h2 : ∀ k, S k → w0.heap.size ≤ k) (h3 : Kept None w0 wr) (h4 : ∀ x ∈ F, wr.heap[x.1]? = some x.2 ∧ ¬ S x.1)
    (hp : Pk.Put bw S m wr x w') : x = .returned (.tuple #[]) ∧ Yw w0 w' bw (some m) F := by
  obtain ⟨hx, p1, p2⟩ := hp
  have hs := h3.size
  refine ⟨hx, _, (p1 : Pk.WAt _ _ _ _), fun k hk => hk.elim (h2 k) (fun h => by omega), h3.trans' p2 (fun x hx => .inr (h2 x hx)), fun x hxF => ?_⟩
  obtain ⟨a, b⟩ := h4 x hxF
  have hlt := heap_lt a
  exact ⟨p2.heap a b, fun e => e.elim b (fun h => by omega)⟩
theorem Yw.putL {w0 wr w' : World} {bw : Nat} {F : List (Nat × Obj)} {S : Nat → Prop} {x : Ending} (h2 : ∀ k, S k → w0.heap.size ≤ k) (h3 : Kept None w0 wr) (h4 : ∀ x ∈ F, wr.heap[x.1]? = some x.2 ∧ ¬ S x.1)
    (hp : Pk.PutL bw S wr x w') : x = .returned (.tuple #[]) ∧ Yw w0 w' bw none F := by
  obtain ⟨hx, p1, p2⟩ := hp
  exact ⟨hx, S, (p1 : Pk.WL _ _ _), h2, h3.trans' p2 (fun x hx => .inr (h2 x hx)), fun x hxF => ⟨p2.heap (h4 x hxF).1 (h4 x hxF).2, (h4 x hxF).2⟩⟩
variable {w0 wr : World} {bw : Nat} {o : Option (List Nat)} {F : List (Nat × Obj)}
theorem yInt (h : Yw w0 wr bw o F) {n : Int} (hn : In64 n) (hl : lenO o ≤ 10000000000) :
    Calls Tryz.prog 35 #[.pointer (some ⟨bw, 0, none⟩), .int .i64 n] wr fun x w' => x = .returned (.tuple #[]) ∧ Yw w0 w' bw (app o (Pk.intB n)) F := by
  obtain ⟨S, a, b, c, d⟩ := h
  cases o with
  | none => exact (Pk.WInt_long bw S n wr a hn.1 hn.2).mono fun x w' hp => Yw.putL b c d hp
  | some l => exact (Pk.WInt_any bw S l n wr a hn.1 hn.2 (by simp only [lenO] at hl; omega)).mono fun x w' hp => Yw.putW b c d hp
theorem yFlt (h : Yw w0 wr bw o F) {n : Nat} (hl : lenO o ≤ 10000000000) :
    Calls Tryz.prog 102 #[.pointer (some ⟨bw, 0, none⟩), .float .f64 n] wr fun x w' => x = .returned (.tuple #[]) ∧ Yw w0 w' bw (app o (Pk.fltB n)) F := by
  obtain ⟨S, a, b, c, d⟩ := h
  cases o with
  | none => exact (Pk.WFloat_long bw S n wr a).mono fun x w' hp => Yw.putL b c d hp
  | some l => exact (Pk.WFloat_any bw S l n wr a (by simp only [lenO] at hl; omega)).mono fun x w' hp => Yw.putW b c d hp
/-- Text of bytes that were there at the start -/
theorem yText (h : Yw w0 wr bw o F) {b2 cap2 : Nat} {a2 : Option Addr} {t : List Nat} (hs : Src w0 b2 a2 cap2 t) (h8 : B8 t) (ht : t.length ≤ 100000) (hl : lenO o ≤ 10000000000) :
    Calls Tryz.prog 39 #[.pointer (some ⟨bw, 0, none⟩), .slice a2 t.length cap2] wr fun x w' => x = .returned (.tuple #[]) ∧ Yw w0 w' bw (appT o t) F := by
  obtain ⟨S, a, b, c, d⟩ := h
  have hs2 := hs.kept c (fun _ h => h)
  have hs3 : t ≠ [] → ¬ S b2 := fun ht e => by have := hs.lt ht; have := b _ e; omega
  unfold appT
  by_cases h16 : t.length ≤ 16384
  · rw [if_pos h16]
    cases o with
    | none => exact (Pk.WText_long bw S wr a a2 cap2 t.length h16).mono fun x w' hp => Yw.putL b c d hp
    | some l => exact (Pk.WText_any bw S l wr a b2 a2 cap2 t hs2 hs3 h8 h16 (by simp only [lenO] at hl; omega)).mono fun x w' hp => Yw.putW b c d hp
  · rw [if_neg h16]
    obtain ⟨T, v0, v1, v2, hh⟩ : ∃ (T : TypeId) (v0 v1 v2 : Value), wr.heap[bw]? = some (.cells #[v0, v1, v2] T (0, 0)) := by
      cases o with
      | none => obtain ⟨T, h3⟩ := a.2.2; exact ⟨_, _, _, _, h3⟩
      | some l =>
        obtain ⟨_, _, _, T, h3⟩ := a
        rcases h3 with ⟨hh, _⟩ | ⟨bp, bd, a, cap, hh, _⟩
        · exact ⟨_, _, _, _, hh⟩
        · exact ⟨_, _, _, _, hh⟩
    have hS : S bw := by
      cases o with
      | none => exact a.1
      | some l => exact a.1
    exact (Pk.WText_over bw S wr v0 v1 v2 hS a.lt hh a2 cap2 t.length (by omega) (by omega)).mono fun x w' hp => Yw.putL b c d hp
/-- Text of a string's bytes -/
theorem yStr (h : Yw w0 wr bw o F) (s : ByteArray) (hs : s.size ≤ 16384) (hl : lenO o ≤ 10000000000) {w2 : World} {n cap : Nat} (hw : w2 = Lib.bytesWorld wr 5 s) (hn : n = wr.heap.size) (hc : cap = grownCap wr s.size 0 5) :
    Calls Tryz.prog 39 #[.pointer (some ⟨bw, 0, none⟩), .slice (some ⟨n, 0, none⟩) s.size cap] w2 fun x w' => x = .returned (.tuple #[]) ∧ Yw w0 w' bw (app o (Pk.textB (bl s))) F := by
  subst hw hn hc
  have hb := bytesW_beh wr s
  obtain ⟨S, a, b, c, d⟩ := h
  have a2 := a.kept (kept_beh hb) (fun _ _ h => h)
  have d2 : ∀ x ∈ F, (Lib.bytesWorld wr 5 s).heap[x.1]? = some x.2 ∧ ¬ S x.1 := fun x hx => ⟨hb.box (d x hx).1, (d x hx).2⟩
  have hne : bl s ≠ [] → ¬ S wr.heap.size := fun _ e => by have := a.lt _ e; omega
  cases o with
  | none =>
    refine (Pk.WText_long bw S _ a2 _ _ s.size hs).mono fun x w' hp => Yw.putL b (c.trans (kept_beh hb)) d2 hp
  | some l =>
    have := Pk.WText_any bw S l (Lib.bytesWorld wr 5 s) a2 wr.heap.size _ _ (bl s) (bytesW_src wr s hs).src hne (bl_b8 s) (by rw [bl_length]; exact hs) (by simp only [lenO] at hl; omega)
    rw [bl_length] at this
    exact this.mono fun x w' hp => Yw.putW b (c.trans (kept_beh hb)) d2 hp
/-- Bytes -/
theorem yBytes {l : List Nat} (h : Yw w0 wr bw (some l) F) (hl : l.length ≤ 10000000000) :
    Calls Tryz.prog 34 #[.pointer (some ⟨bw, 0, none⟩)] wr fun x w' => ∃ b a cap, x = .returned (.tuple #[.slice a l.length cap, .int .i64 0]) ∧ OwnB 5 w' b a cap l ∧ wr.heap.size ≤ b ∧ Beh wr w' := by
  obtain ⟨S, a, b, c, d⟩ := h
  exact (Pk.WBytes_any bw S l wr a (by omega)).mono fun x w' ⟨b, a, cap, hx, ho, hb, _, hk⟩ => ⟨b, a, cap, hx, ho, hb, beh_kept hk⟩
theorem yBytes_long (h : Yw w0 wr bw none F) :
    Calls Tryz.prog 34 #[.pointer (some ⟨bw, 0, none⟩)] wr fun x w' => x = .returned (.tuple #[.slice none 0 0, .int .i64 2]) ∧ wr = w' := by
  obtain ⟨S, a, b, c, d⟩ := h
  exact Pk.Bytes_long bw wr a.2.2
/-- what is thrown -/
def thr : List PanicEntry := [{ v := .iface 30 (.int .i64 3), recovered := false }]
/-- what a step of the writer leaves: none: it was thrown -/
def Wrote (w0 : World) (bw : Nat) (F : List (Nat × Obj)) (r : Option (Option (List Nat))) (x : Ending) (w' : World) : Prop :=
  match r with
  | some o => x = .returned (.tuple #[]) ∧ Yw w0 w' bw o F
  | none => x = .panicked thr ∧ ∃ o, Yw w0 w' bw o F
theorem Wrote.ok {o2 : Option (List Nat)} {r : Option (Option (List Nat))} {w' : World} (h : Yw w0 w' bw o2 F) (hr : r = some o2) : Wrote w0 bw F r (.returned (.tuple #[])) w' := by subst hr; exact ⟨rfl, h⟩
theorem Wrote.no {o2 : Option (List Nat)} {r : Option (Option (List Nat))} {w' : World} (h : Yw w0 w' bw o2 F) (hr : r = none) : Wrote w0 bw F r (.panicked thr) w' := by subst hr; exact ⟨rfl, _, h⟩
set_option maxRecDepth 100000 in
theorem must_ok (w : World) : Calls Tryz.prog 48 #[.bool true] w fun e w' => e = .returned (.tuple #[]) ∧ w = w' := by
  go_enter Tryz.func48, Tryz.ntmps48
  go_wp2
  go_end0
  exact ⟨rfl, rfl⟩
set_option maxRecDepth 100000 in
theorem must_not (w : World) : Calls Tryz.prog 48 #[.bool false] w fun e w' => e = .panicked thr ∧ w = w' := by
  go_enter Tryz.func48, Tryz.ntmps48
  go_wp2
  exact ⟨rfl, rfl, rfl⟩
end Go.Proofs.YtaengjgmchpabaaGreat.Wr
end
section
/- The Reader's Left and Done. -/
namespace Go.Proofs.YtaengjgmchpabaaGreat.Pk
open Go Go.RowKit Mem

set_option maxHeartbeats 400000 in
theorem Left_any (br bs : Nat) (l : List Nat) (e : Int) (w : World) (h : RAt w br bs l e) :
    Calls Tryz.prog 86 #[.pointer (some ⟨br, 0, none⟩)] w fun e w' => e = .returned (.int .i64 l.length) ∧ w = w' := by
  obtain ⟨a, cap, hh, hs, _, _, _⟩ := h
  have c0 := cell_heap hh 0
  have f0 := frozen_heap hh 0
  simp at c0
  clear hh hs
  go_enter Tryz.func86, Tryz.ntmps86
  go_wp2
  go_ret
  exact ⟨rfl, rfl⟩
set_option maxHeartbeats 400000 in
theorem Done_any (br bs : Nat) (l : List Nat) (e : Int) (w : World) (h : RAt w br bs l e) :
    Calls Tryz.prog 50 #[.pointer (some ⟨br, 0, none⟩)] w fun e' w' => e' = .returned (.int .i64 (doneOf l e)) ∧ w = w' := by
  obtain ⟨a, cap, hh, hs, _, _, he⟩ := h
  have c0 := cell_heap hh 0
  have c1 := cell_heap hh 1
  simp at c0 c1
  clear hh hs
  by_cases h0 : e = 0
  · subst h0
    by_cases hl : 0 < l.length
    · have hl' : decide (0 < l.length) = true := by simpa using hl
      go_enter Tryz.func50, Tryz.ntmps50
      go_wp2
      go_ret
      exact ⟨ret_int (by simp [doneOf, hl]), rfl⟩
    · have hl' : decide (0 < l.length) = false := by simpa using hl
      have he' := Lib.hid he
      have HL := Lib.hid hl
      clear he hl
      go_enter Tryz.func50, Tryz.ntmps50
      go_wp2
      go_ret
      exact ⟨ret_int (by simp [doneOf, HL.out]), rfl⟩
  · have h0' : (e == 0) = false := by simpa using h0
    have he' := Lib.hid he
    have H0 := Lib.hid h0
    clear he h0
    go_enter Tryz.func50, Tryz.ntmps50
    go_wp2
    go_ret
    exact ⟨ret_int (by simp [doneOf, H0.out]), rfl⟩
end Go.Proofs.YtaengjgmchpabaaGreat.Pk
end
section
/- Blocks of a call's own, any number of them; a struct's cells stored one behind the other. For any program. -/
namespace Go.Proofs.YtaengjgmchpabaaGreat.Bh
open Go Go.RowKit

/-- cells stored one behind the other, from i on -/
def setFrom (w : World) (b : Nat) : Nat → List Value → World
  | _, [] => w
  | i, x :: r => setFrom (w.setCell ⟨b, i, none⟩ x) b (i + 1) r
theorem setFrom_heap {b : Nat} {t : TypeId} (xs : List Value) : ∀ (w : World) (i : Nat) (cur : List Value), w.heap[b]? = some (.cells cur.toArray t) → i + xs.length = cur.length →
    (setFrom w b i xs).heap[b]? = some (.cells (cur.take i ++ xs).toArray t) := by
  induction xs with
  | nil => intro w i cur h hl; simp at hl; subst hl; simpa [setFrom] using h
  | cons x r ih =>
    intro w i cur h hl
    rw [List.length_cons] at hl
    have h2 := ih (w.setCell ⟨b, i, none⟩ x) (i + 1) (cur.set i x) (by rw [heap_set x h, List.setIfInBounds_toArray]) (by rw [List.length_set]; omega)
    show (setFrom (w.setCell ⟨b, i, none⟩ x) b (i + 1) r).heap[b]? = _
    rw [h2]
    have e : (cur.set i x).take (i + 1) = cur.take i ++ [x] := by
      have hi : i < cur.length := by omega
      rw [List.take_succ_eq_append_getElem (by rw [List.length_set]; exact hi), List.getElem_set_self, List.take_set_of_le (Nat.le_refl _)]
    rw [e, List.append_assoc]
    rfl
theorem setFrom_full {w : World} {b : Nat} {t : TypeId} {cur : Array Value} {xs : List Value} (h : w.heap[b]? = some (.cells cur t)) (hl : xs.length = cur.size) : (setFrom w b 0 xs).heap[b]? = some (.cells xs.toArray t) := by
  have := setFrom_heap xs w 0 cur.toList (by simpa using h) (by simpa using hl)
  simpa using this
theorem setFrom_other {b n : Nat} (hn : n ≠ b) (xs : List Value) : ∀ (w : World) (i : Nat), (setFrom w b i xs).heap[n]? = w.heap[n]? := by
  induction xs with
  | nil => intro w i; rfl
  | cons x r ih => intro w i; exact (ih _ _).trans (Below.heap_setCell _ _ _ _ hn)
theorem Beh.setFrom {w0 : World} {b : Nat} (hb : w0.heap.size ≤ b) (xs : List Value) : ∀ {w : World} (i : Nat), Beh w0 w → Beh w0 (Bh.setFrom w b i xs) := by
  induction xs with
  | nil => intro w i h; exact h
  | cons x r ih => intro w i h; exact ih (i + 1) (h.set hb i x)
theorem setFrom_size {b : Nat} (xs : List Value) : ∀ (w : World) (i : Nat), (setFrom w b i xs).heap.size = w.heap.size := by
  induction xs with
  | nil => intro w i; rfl
  | cons x r ih => intro w i; exact (ih _ _).trans (by simp [World.setCell])
/-- blocks that a call has laid, in their order -/
structure Bx (w : World) (l : List Obj) (W : World) : Prop where
  beh : Beh w W
  box : ∀ i o, l[i]? = some o → W.heap[w.heap.size + i]? = some o
theorem Bx.nil (w : World) : Bx w [] w := ⟨Beh.start w, fun i o h => by simp at h⟩
theorem Bx.lt {w W : World} {l : List Obj} (h : Bx w l W) : w.heap.size + l.length ≤ W.heap.size := by
  rcases Nat.eq_zero_or_pos l.length with h0 | h0
  · rw [h0]; exact h.beh.size
  · have := heap_lt (h.box (l.length - 1) _ (List.getElem?_eq_getElem (by omega)))
    omega
theorem Bx.on {w W W' : World} {l : List Obj} (h : Bx w l W) (hb : Below W.heap.size W W') : Bx w l W' := ⟨h.beh.on hb, fun i o ho => box_on (h.box i o ho) hb⟩
theorem Bx.drewN {w W : World} {l : List Obj} (h : Bx w l W) (n : Nat) : Bx w l (W.drewN n) := ⟨h.beh.drewN n, h.box⟩
theorem Bx.drew {w W : World} {l : List Obj} (h : Bx w l W) : Bx w l W.drew := ⟨h.beh.drew, h.box⟩
/-- another block, which is not told of -/
theorem Bx.alloc {w W : World} {l : List Obj} (h : Bx w l W) (o : Obj) : Bx w l (W.alloc o) := h.on (below_alloc _ _)
/-- the first blocks of a call -/
theorem Bx.one (w : World) (o : Obj) : Bx w [o] (w.alloc o) := ⟨below_alloc w o, fun i x h => by
  match i, h with
  | 0, h => simp at h; subst h; exact alloc_here _ (by simp)⟩
theorem Bx.two (w : World) (o p : Obj) : Bx w [o, p] ((w.alloc o).alloc p) := ⟨below_alloc2 w o p, fun i x h => by
  match i, h with
  | 0, h => simp at h; subst h; exact alloc_old p (alloc_here o (by simp))
  | 1, h => simp at h; subst h; exact alloc_here p (by simp)⟩
theorem Bx.three (w : World) (o p q : Obj) : Bx w [o, p, q] (((w.alloc o).alloc p).alloc q) := ⟨(below_alloc2 w o p).alloc (below_alloc2 w o p).size q, fun i x h => by
  match i, h with
  | 0, h => simp at h; subst h; exact alloc_old q (alloc_old p (alloc_here o (by simp)))
  | 1, h => simp at h; subst h; exact alloc_old q (alloc_here p (by simp))
  | 2, h => simp at h; subst h; exact alloc_here q (by simp)⟩
theorem Bx.b0 {w W : World} {o : Obj} {r : List Obj} (h : Bx w (o :: r) W) : W.heap[w.heap.size]? = some o := h.box 0 o rfl
theorem Bx.b1 {w W : World} {o p : Obj} {r : List Obj} (h : Bx w (o :: p :: r) W) : W.heap[w.heap.size + 1]? = some p := h.box 1 p rfl
theorem Bx.b2 {w W : World} {o p q : Obj} {r : List Obj} (h : Bx w (o :: p :: q :: r) W) : W.heap[w.heap.size + 1 + 1]? = some q := h.box 2 q rfl
theorem Bx.b3 {w W : World} {o p q s : Obj} {r : List Obj} (h : Bx w (o :: p :: q :: s :: r) W) : W.heap[w.heap.size + 1 + 1 + 1]? = some s := h.box 3 s rfl
/-- one more block, right behind them -/
theorem Bx.next {w W : World} {l : List Obj} (h : Bx w l W) (he : W.heap.size = w.heap.size + l.length) (o : Obj) : Bx w (l ++ [o]) (W.alloc o) := ⟨h.beh.alloc o, fun i x hx => by
  rcases Nat.lt_or_ge i l.length with hi | hi
  · rw [List.getElem?_append_left hi] at hx
    exact alloc_old o (h.box i x hx)
  · rw [List.getElem?_append_right hi] at hx
    have hx0 : i - l.length = 0 := by
      rcases Nat.eq_zero_or_pos (i - l.length) with h0 | h0
      · exact h0
      · rw [List.getElem?_eq_none (by simp; omega)] at hx; cases hx
    rw [hx0] at hx
    simp at hx
    subst hx
    exact alloc_here o (by omega)⟩
/-- all cells of one of them stored -/
theorem Bx.set {w W : World} {l : List Obj} {cur : Array Value} {t : TypeId} (h : Bx w l W) (i : Nat) (xs : List Value) (hi : l[i]? = some (.cells cur t)) (hl : xs.length = cur.size) : Bx w (l.set i (.cells xs.toArray t)) (setFrom W (w.heap.size + i) 0 xs) :=
  ⟨Beh.setFrom (Nat.le_add_right _ _) xs 0 h.beh, fun j o ho => by
    by_cases e : j = i
    · subst e
      have hlt : j < l.length := (List.getElem?_eq_some_iff.1 hi).1
      rw [List.getElem?_set_self hlt] at ho
      injection ho with ho
      subst ho
      exact setFrom_full (h.box j _ hi) hl
    · rw [List.getElem?_set_ne (fun e2 => e e2.symm)] at ho
      rw [setFrom_other (by omega)]
      exact h.box j o ho⟩
/-- one cell of one of them stored -/
theorem Bx.set1 {w W : World} {l : List Obj} {cur : Array Value} {t : TypeId} (h : Bx w l W) (i j : Nat) (x : Value) (hi : l[i]? = some (.cells cur t)) : Bx w (l.set i (.cells (cur.setIfInBounds j x) t)) (W.setCell ⟨w.heap.size + i, j, none⟩ x) :=
  ⟨h.beh.set (Nat.le_add_right _ _) j x, fun k o ho => by
    by_cases e : k = i
    · subst e
      have hlt : k < l.length := (List.getElem?_eq_some_iff.1 hi).1
      rw [List.getElem?_set_self hlt] at ho
      injection ho with ho
      subst ho
      exact heap_set x (h.box k _ hi)
    · rw [List.getElem?_set_ne (fun e2 => e e2.symm)] at ho
      rw [Below.heap_setCell _ _ _ _ (by show w.heap.size + k ≠ w.heap.size + i; omega)]
      exact h.box k o ho⟩
theorem Beh.st4 {w0 w : World} (h : Beh w0 w) {b : Nat} (hb : w0.heap.size ≤ b) (x0 x1 x2 x3 : Value) : Beh w0 ((((w.setCell ⟨b, 0, none⟩ x0).setCell ⟨b, 1, none⟩ x1).setCell ⟨b, 2, none⟩ x2).setCell ⟨b, 3, none⟩ x3) := Beh.setFrom hb [x0, x1, x2, x3] 0 h
theorem Bx.st4 {w0 w : World} {l : List Obj} {b : Nat} {y0 y1 y2 y3 : Value} {t : TypeId} (h : Bx w0 l w) (i : Nat) (hb : w0.heap.size + i = b) (hi : l[i]? = some (.cells #[y0, y1, y2, y3] t)) (x0 x1 x2 x3 : Value) : Bx w0 (l.set i (.cells #[x0, x1, x2, x3] t)) ((((w.setCell ⟨b, 0, none⟩ x0).setCell ⟨b, 1, none⟩ x1).setCell ⟨b, 2, none⟩ x2).setCell ⟨b, 3, none⟩ x3) := by
  subst hb
  exact h.set i [x0, x1, x2, x3] hi rfl
theorem Beh.st10 {w0 w : World} (h : Beh w0 w) {b : Nat} (hb : w0.heap.size ≤ b) (x0 x1 x2 x3 x4 x5 x6 x7 x8 x9 : Value) : Beh w0 ((((((((((w.setCell ⟨b, 0, none⟩ x0).setCell ⟨b, 1, none⟩ x1).setCell ⟨b, 2, none⟩ x2).setCell ⟨b, 3, none⟩ x3).setCell ⟨b, 4, none⟩ x4).setCell ⟨b, 5, none⟩ x5).setCell ⟨b, 6, none⟩ x6).setCell ⟨b, 7, none⟩ x7).setCell ⟨b, 8, none⟩ x8).setCell ⟨b, 9, none⟩ x9) := Beh.setFrom hb [x0, x1, x2, x3, x4, x5, x6, x7, x8, x9] 0 h
theorem Bx.st10 {w0 w : World} {l : List Obj} {b : Nat} {y0 y1 y2 y3 y4 y5 y6 y7 y8 y9 : Value} {t : TypeId} (h : Bx w0 l w) (i : Nat) (hb : w0.heap.size + i = b) (hi : l[i]? = some (.cells #[y0, y1, y2, y3, y4, y5, y6, y7, y8, y9] t)) (x0 x1 x2 x3 x4 x5 x6 x7 x8 x9 : Value) : Bx w0 (l.set i (.cells #[x0, x1, x2, x3, x4, x5, x6, x7, x8, x9] t)) ((((((((((w.setCell ⟨b, 0, none⟩ x0).setCell ⟨b, 1, none⟩ x1).setCell ⟨b, 2, none⟩ x2).setCell ⟨b, 3, none⟩ x3).setCell ⟨b, 4, none⟩ x4).setCell ⟨b, 5, none⟩ x5).setCell ⟨b, 6, none⟩ x6).setCell ⟨b, 7, none⟩ x7).setCell ⟨b, 8, none⟩ x8).setCell ⟨b, 9, none⟩ x9) := by
  subst hb
  exact h.set i [x0, x1, x2, x3, x4, x5, x6, x7, x8, x9] hi rfl
theorem Beh.st16 {w0 w : World} (h : Beh w0 w) {b : Nat} (hb : w0.heap.size ≤ b) (x0 x1 x2 x3 x4 x5 x6 x7 x8 x9 x10 x11 x12 x13 x14 x15 : Value) : Beh w0 ((((((((((((((((w.setCell ⟨b, 0, none⟩ x0).setCell ⟨b, 1, none⟩ x1).setCell ⟨b, 2, none⟩ x2).setCell ⟨b, 3, none⟩ x3).setCell ⟨b, 4, none⟩ x4).setCell ⟨b, 5, none⟩ x5).setCell ⟨b, 6, none⟩ x6).setCell ⟨b, 7, none⟩ x7).setCell ⟨b, 8, none⟩ x8).setCell ⟨b, 9, none⟩ x9).setCell ⟨b, 10, none⟩ x10).setCell ⟨b, 11, none⟩ x11).setCell ⟨b, 12, none⟩ x12).setCell ⟨b, 13, none⟩ x13).setCell ⟨b, 14, none⟩ x14).setCell ⟨b, 15, none⟩ x15) := Beh.setFrom hb [x0, x1, x2, x3, x4, x5, x6, x7, x8, x9, x10, x11, x12, x13, x14, x15] 0 h
theorem Bx.st16 {w0 w : World} {l : List Obj} {b : Nat} {y0 y1 y2 y3 y4 y5 y6 y7 y8 y9 y10 y11 y12 y13 y14 y15 : Value} {t : TypeId} (h : Bx w0 l w) (i : Nat) (hb : w0.heap.size + i = b) (hi : l[i]? = some (.cells #[y0, y1, y2, y3, y4, y5, y6, y7, y8, y9, y10, y11, y12, y13, y14, y15] t)) (x0 x1 x2 x3 x4 x5 x6 x7 x8 x9 x10 x11 x12 x13 x14 x15 : Value) : Bx w0 (l.set i (.cells #[x0, x1, x2, x3, x4, x5, x6, x7, x8, x9, x10, x11, x12, x13, x14, x15] t)) ((((((((((((((((w.setCell ⟨b, 0, none⟩ x0).setCell ⟨b, 1, none⟩ x1).setCell ⟨b, 2, none⟩ x2).setCell ⟨b, 3, none⟩ x3).setCell ⟨b, 4, none⟩ x4).setCell ⟨b, 5, none⟩ x5).setCell ⟨b, 6, none⟩ x6).setCell ⟨b, 7, none⟩ x7).setCell ⟨b, 8, none⟩ x8).setCell ⟨b, 9, none⟩ x9).setCell ⟨b, 10, none⟩ x10).setCell ⟨b, 11, none⟩ x11).setCell ⟨b, 12, none⟩ x12).setCell ⟨b, 13, none⟩ x13).setCell ⟨b, 14, none⟩ x14).setCell ⟨b, 15, none⟩ x15) := by
  subst hb
  exact h.set i [x0, x1, x2, x3, x4, x5, x6, x7, x8, x9, x10, x11, x12, x13, x14, x15] hi rfl
/-- a whole struct stored -/
theorem setRow_any {w : World} {b n : Nat} (hn : n ≠ b) (cs : Array Value) : (w.setRow b cs).heap[n]? = w.heap[n]? := setRow_other w b n cs hn
theorem Beh.row {w0 w : World} (h : Beh w0 w) {b : Nat} (hb : w0.heap.size ≤ b) (cs : Array Value) : Beh w0 (w.setRow b cs) := by
  refine Below.trans h (⟨rfl, rfl, rfl, by simp, fun k hk => setRow_any (by omega) cs⟩ : Below w0.heap.size w (w.setRow b cs))
theorem Bx.row {w W : World} {l : List Obj} {cur : Array Value} {t : TypeId} (h : Bx w l W) (i : Nat) {b : Nat} (hb : w.heap.size + i = b) (hi : l[i]? = some (.cells cur t)) (cs : Array Value) : Bx w (l.set i (.cells cs t)) (W.setRow b cs) := by
  subst hb
  refine ⟨h.beh.row (Nat.le_add_right _ _) cs, fun j o ho => ?_⟩
  by_cases e : j = i
  · subst e
    have hlt : j < l.length := (List.getElem?_eq_some_iff.1 hi).1
    rw [List.getElem?_set_self hlt] at ho
    injection ho with ho
    subst ho
    exact setRow_heap _ _ _ _ _ _ (h.box j _ hi)
  · rw [List.getElem?_set_ne (fun e2 => e e2.symm)] at ho
    rw [setRow_any (by omega)]
    exact h.box j o ho
/-- a whole struct of n cells stored into the block i of the call's own; behind it: rfl (block), rfl (guard), rfl (op), rfl (address), rfl (value), rfl, kernel_rfl, rfl, rfl -/
theorem store_bx {P : Program} {ops : Array Oper} {rest : List Oper} {o : Oper} {a : Go.Act} {w0 w : World} {l : List Obj} {Q : Exit → Go.Act → World → Prop} (n i : Nat) (HB : Bx w0 l w) {t : TypeId} {old : Array Value} (hl : l[i]? = some (.cells old t))
    {ty : TypeId} {x y : Operand} {cells : Array Value} (hgd : o.guard = none) (ho : o.op = .store ty x y)
    (hx : a.eval x = .pointer (some ⟨w0.heap.size + i, 0, none⟩)) (hy : a.eval y = .agg cells) (hn : old.size = n) (hi : (P.info? ty).map (·.size) = some n) (hc : cells.size = n) (h1 : cells.toList.all (·.oneCell') = true)
    (h : ∀ w', Bx w0 (l.set i (.cells cells t)) w' → wpList P ops Q rest (a.put o.dst undef) w') : wpList P ops Q (o :: rest) a w :=
  wpList_store_row hgd ty x y ho _ cells hx hy t old (HB.box i _ hl) (hi.trans (by rw [hc])) (by rw [hn, hc]) (by rw [← h1, Array.all_toList]) (h _ (HB.row i rfl hl cells))
/-- all but one block is as it was -/
structure Else (b : Nat) (w w' : World) : Prop where
  os : w'.os = w.os
  tape : w'.tape = w.tape
  output : w'.output = w.output
  size : w'.heap.size = w.heap.size
  block : ∀ k, k ≠ b → w'.heap[k]? = w.heap[k]?
theorem Else.row (b : Nat) (w : World) (cs : Array Value) : Else b w (w.setRow b cs) := ⟨rfl, rfl, rfl, by simp, fun _ hk => setRow_any hk cs⟩
theorem Else.set (b j : Nat) (w : World) (v : Value) : Else b w (w.setCell ⟨b, j, none⟩ v) := ⟨rfl, rfl, rfl, by simp [World.setCell], fun _ hk => Below.heap_setCell _ _ _ _ hk⟩
/-- store_bx, with what is known of the other blocks -/
theorem store_bk {P : Program} {ops : Array Oper} {rest : List Oper} {o : Oper} {a : Go.Act} {w0 w : World} {l : List Obj} {Q : Exit → Go.Act → World → Prop} (n i : Nat) (HB : Bx w0 l w) {t : TypeId} {old : Array Value} (hl : l[i]? = some (.cells old t))
    {ty : TypeId} {x y : Operand} {cells : Array Value} (hgd : o.guard = none) (ho : o.op = .store ty x y)
    (hx : a.eval x = .pointer (some ⟨w0.heap.size + i, 0, none⟩)) (hy : a.eval y = .agg cells) (hn : old.size = n) (hi : (P.info? ty).map (·.size) = some n) (hc : cells.size = n) (h1 : cells.toList.all (·.oneCell') = true)
    (h : ∀ w', Bx w0 (l.set i (.cells cells t)) w' → Else (w0.heap.size + i) w w' → wpList P ops Q rest (a.put o.dst undef) w') : wpList P ops Q (o :: rest) a w :=
  wpList_store_row hgd ty x y ho _ cells hx hy t old (HB.box i _ hl) (hi.trans (by rw [hc])) (by rw [hn, hc]) (by rw [← h1, Array.all_toList]) (h _ (HB.row i rfl hl cells) (Else.row _ _ _))
/-- a whole struct loaded out of the block i; behind it: rfl (block), rfl (type), rfl (guard), rfl (op), rfl (address), rfl, kernel_rfl -/
theorem load_bx {P : Program} {ops : Array Oper} {rest : List Oper} {o : Oper} {a : Go.Act} {w0 w : World} {l : List Obj} {Q : Exit → Go.Act → World → Prop} (i : Nat) (HB : Bx w0 l w) {ty : TypeId} {d : TypeDesc} (hu : P.underlying ty = some d) {t : TypeId} {cs : Array Value} (hl : l[i]? = some (.cells cs t))
    {x : Operand} (hgd : o.guard = none) (ho : o.op = .load ty x) (hx : a.eval x = .pointer (some ⟨w0.heap.size + i, 0, none⟩))
    (hd : (match d with | .struct _ | .array _ _ => true | _ => false) = true) (hi : (P.info? ty).map (·.size) = some cs.size)
    (h : wpList P ops Q rest (a.put o.dst (.agg cs)) w) : wpList P ops Q (o :: rest) a w :=
  wpList_load_row hgd ty x ho _ hx t cs (0, 0) d (HB.box i _ hl) hu hd hi h
/-- a struct loaded out of the middle of a row; behind it: rfl; rfl; rfl; rfl; kernel_rfl -/
theorem load_m {P : Program} {ops : Array Oper} {rest : List Oper} {op : Oper} {a : Go.Act} {w : World} {Q : Exit → Go.Act → World → Prop} {b o : Nat} {cs : List Value} (hc : w.rangeAt b o cs)
    {ty : TypeId} {d : TypeDesc} (hu : P.underlying ty = some d) {x : Operand} (hgd : op.guard = none) (ho : op.op = .load ty x) (hx : a.eval x = .pointer (some ⟨b, o, none⟩))
    (hd : d.isRow = true) (hi : (P.info? ty).map (·.size) = some cs.length)
    (h : wpList P ops Q rest (a.put op.dst (.agg cs.toArray)) w) : wpList P ops Q (op :: rest) a w :=
  wpList_load_mid hgd ty x ho b o hx cs d hc hu hd hi h
/-- one cell of a block stored; behind it: rfl (block), by rfl-like (size), rfl (guard), rfl (op), rfl (address), rfl (value), rfl (one cell), kernel_rfl (size of the type) -/
theorem store1_bx {P : Program} {ops : Array Oper} {rest : List Oper} {o : Oper} {a : Go.Act} {w0 w : World} {l : List Obj} {Q : Exit → Go.Act → World → Prop} (i j : Nat) (HB : Bx w0 l w) {t : TypeId} {old : Array Value} (hl : l[i]? = some (.cells old t)) (hj : decide (j < old.size) = true)
    {ty : TypeId} {x y : Operand} {v : Value} (hgd : o.guard = none) (ho : o.op = .store ty x y)
    (hx : a.eval x = .pointer (some ⟨w0.heap.size + i, j, none⟩)) (hy : a.eval y = v) (hone : v.oneCell' = true) (hi : (P.info? ty).map (·.size) = some 1)
    (h : ∀ w', Bx w0 (l.set i (.cells (old.setIfInBounds j v) t)) w' → wpList P ops Q rest (a.put o.dst undef) w') : wpList P ops Q (o :: rest) a w :=
  wpList_plain hgd fun _ hK => by
    have hc : v.cells = #[v] := by cases v <;> first | rfl | cases hone
    have hb := HB.box i _ hl
    have hjj := of_decide_eq_true hj
    have e : (storeVar ty ⟨w0.heap.size + i, j, none⟩ v).run P w = .ok () (w.setCell ⟨w0.heap.size + i, j, none⟩ v) := by
      have h2 : storeVar ty ⟨w0.heap.size + i, j, none⟩ v = storeVar ty ⟨w0.heap.size + i, j, none⟩ (.agg #[v]) := by
        unfold storeVar
        rw [hc]
        rfl
      rw [h2, run_storeVar_mid w (w0.heap.size + i) j ty #[v] (fun k hk => by
        obtain rfl : k = 0 := by simp at hk; omega
        refine ⟨?_, frozen_of hb _⟩
        rw [cell_of_row w _ _ _ _ _ hb]
        simp [hjj]) (by simpa using hi) (by simp [hone])]
      rfl
    unfold Oper.wp execOp
    simp only [ho, hx, hy, Instr.storeAt, Instr.sureAddr, Sem.run_bind, Sem.run_pure, Result.andThen_ok, e]
    exact hK _ _ (h _ (HB.set1 i j v hl))
/-- the same, with what is known of the other blocks; behind it: rfl (block), by rfl-like (size), rfl (guard), rfl (op), rfl (address), rfl (value), rfl (one cell), kernel_rfl (size of the type) -/
theorem store1_bk {P : Program} {ops : Array Oper} {rest : List Oper} {o : Oper} {a : Go.Act} {w0 w : World} {l : List Obj} {Q : Exit → Go.Act → World → Prop} (i j : Nat) (HB : Bx w0 l w) {t : TypeId} {old : Array Value} (hl : l[i]? = some (.cells old t)) (hj : decide (j < old.size) = true)
    {ty : TypeId} {x y : Operand} {v : Value} (hgd : o.guard = none) (ho : o.op = .store ty x y)
    (hx : a.eval x = .pointer (some ⟨w0.heap.size + i, j, none⟩)) (hy : a.eval y = v) (hone : v.oneCell' = true) (hi : (P.info? ty).map (·.size) = some 1)
    (h : ∀ w', Bx w0 (l.set i (.cells (old.setIfInBounds j v) t)) w' → Else (w0.heap.size + i) w w' → wpList P ops Q rest (a.put o.dst undef) w') : wpList P ops Q (o :: rest) a w :=
  wpList_plain hgd fun _ hK => by
    have hc : v.cells = #[v] := by cases v <;> first | rfl | cases hone
    have hb := HB.box i _ hl
    have hjj := of_decide_eq_true hj
    have e : (storeVar ty ⟨w0.heap.size + i, j, none⟩ v).run P w = .ok () (w.setCell ⟨w0.heap.size + i, j, none⟩ v) := by
      have h2 : storeVar ty ⟨w0.heap.size + i, j, none⟩ v = storeVar ty ⟨w0.heap.size + i, j, none⟩ (.agg #[v]) := by
        unfold storeVar
        rw [hc]
        rfl
      rw [h2, run_storeVar_mid w (w0.heap.size + i) j ty #[v] (fun k hk => by
        obtain rfl : k = 0 := by simp at hk; omega
        refine ⟨?_, frozen_of hb _⟩
        rw [cell_of_row w _ _ _ _ _ hb]
        simp [hjj]) (by simpa using hi) (by simp [hone])]
      rfl
    unfold Oper.wp execOp
    simp only [ho, hx, hy, Instr.storeAt, Instr.sureAddr, Sem.run_bind, Sem.run_pure, Result.andThen_ok, e]
    exact hK _ _ (h _ (HB.set1 i j v hl) (Else.set _ _ _ _))
/-- a result of a struct's type alone -/
theorem results_cell_row1 {P : Program} {fn : Func} {p : Tmp} {ty : TypeId} (h : fn.results = #[.cell p ty]) (tmps : Array Value) (w : World) (g : Nat) (t : TypeId) (cs : Array Value) (fr : Nat × Nat) (d : TypeDesc)
    (hp : tmps.getD p undef = .pointer (some ⟨g, 0, none⟩)) (hg : w.heap[g]? = some (.cells cs t fr))
    (hu : P.underlying ty = some d) (hd : (match d with | .struct _ | .array _ _ => true | _ => false) = true) (hi : (P.info? ty).map (·.size) = some cs.size) :
    (results fn tmps).run P w = .ok (.agg cs) w := results_cell_row h tmps w g t cs fr d hp hg hu hd hi
theorem results_cell_row2 {P : Program} {fn : Func} {p u : Tmp} {ty : TypeId} (h : fn.results = #[.cell p ty, .tmp u]) (tmps : Array Value) (w : World) (g : Nat) (t : TypeId) (cs : Array Value) (fr : Nat × Nat) (d : TypeDesc)
    (hp : tmps.getD p undef = .pointer (some ⟨g, 0, none⟩)) (hg : w.heap[g]? = some (.cells cs t fr))
    (hu : P.underlying ty = some d) (hd : (match d with | .struct _ | .array _ _ => true | _ => false) = true) (hi : (P.info? ty).map (·.size) = some cs.size) :
    (results fn tmps).run P w = .ok (.tuple #[.agg cs, tmps.getD u undef]) w := by
  have hp' : tmps[p]?.getD undef = .pointer (some ⟨g, 0, none⟩) := by simpa using hp
  rw [results_cell_tmp h]
  simp [hp', asAddr, run_loadVar_row w g t ty cs fr d hg hu hd hi, Result.andThen]
end Go.Proofs.YtaengjgmchpabaaGreat.Bh
end
