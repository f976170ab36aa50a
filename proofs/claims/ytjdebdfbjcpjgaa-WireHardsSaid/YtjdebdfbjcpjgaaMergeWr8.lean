import Derived.Test.YtjdebdfbjcpjgaaMergeWr0
import Derived.Test.YtjdebdfbjcpjgaaMergeWr7
import Derived.Test.YtjdebdfbjcpjgaaMergeWr3
import Derived.Test.YtjdebdfbjcpjgaaMergeWr1
import Derived.Test.YtjdebdfbjcpjgaaMergeWr2
import Derived.WideShapes
import Derived.Lib.ConvBytes
import Derived.Laws.IdiomStrings
import Derived.Test.YtjdebdfbjcpjgaaMergeWr6
section
/- Cut out of SessMath so that every seat fills it. -/
namespace Go.Proofs.Ytjdebdfbjcpjgaa.Ss
open Go Go.RowKit Vl Kv Mem
def bl (s : ByteArray) : List Nat := s.data.toList.map UInt8.toNat
def lb (l : List Nat) : ByteArray := ⟨(l.map UInt8.ofNat).toArray⟩
theorem lb_bl (s : ByteArray) : lb (bl s) = s := by
  unfold lb bl
  rw [List.map_map]
  have : (UInt8.ofNat ∘ UInt8.toNat) = id := by funext x; simp
  rw [this, List.map_id]
theorem bl_length (s : ByteArray) : (bl s).length = s.size := by unfold bl; rw [List.length_map]; rfl
theorem bl_b8 (s : ByteArray) : B8 (bl s) := by
  intro x hx
  obtain ⟨y, _, rfl⟩ := List.mem_map.1 hx
  exact y.toNat_lt
theorem bl_lb {l : List Nat} (h : B8 l) : bl (lb l) = l := by
  unfold bl lb
  simp only
  rw [List.map_map]
  induction l with
  | nil => rfl
  | cons x r ih =>
    have h1 := h x (List.mem_cons_self ..)
    rw [List.map_cons, ih (fun y hy => h y (List.mem_cons_of_mem _ hy))]
    congr 1
    show (UInt8.ofNat x).toNat = x
    rw [UInt8.toNat_ofNat']
    omega
theorem lb_nil : lb [] = (⟨#[]⟩ : ByteArray) := rfl
theorem bl_nil : bl (⟨#[]⟩ : ByteArray) = [] := rfl

def valB (v : V) : List Nat := Pk.intB v.kind ++ (if v.kind = 1 then Pk.fltB v.num else if v.kind = 2 then Pk.textB (bl v.text) else [])
theorem textB_b8 {t : List Nat} (h : B8 t) : B8 (Pk.textB t) := B8.append (Pk.intB_b8 _) h
theorem fltB_b8 (x : Nat) : B8 (Pk.fltB x) := Pk.high8_b8 _
theorem valB_b8 (v : V) : B8 (valB v) := by
  unfold valB
  refine B8.append (Pk.intB_b8 _) ?_
  split
  · exact fltB_b8 _
  · split
    · exact textB_b8 (bl_b8 _)
    · exact B8.nil
theorem flat_b8 {α : Type} {f : α → List Nat} (h : ∀ a, B8 (f a)) (L : List α) : B8 (L.flatMap f) := by
  intro x hx
  obtain ⟨a, _, ha⟩ := List.mem_flatMap.1 hx
  exact h a x ha
theorem textB_len (t : List Nat) : (Pk.textB t).length ≤ t.length + 10 := by
  unfold Pk.textB; rw [List.length_append]; have := (Pk.intB_len t.length).2; omega
theorem valB_len {v : V} (h : v.text.size ≤ 32) : (valB v).length ≤ 52 := by
  unfold valB
  rw [List.length_append]
  have := (Pk.intB_len v.kind).2
  split
  · have : (Pk.fltB v.num).length = 8 := rfl
    omega
  · split
    · have := textB_len (bl v.text)
      rw [bl_length] at this
      omega
    · simp; omega
theorem short_text {v : V} (h : v.check = 0) : v.text.size ≤ 32 := by
  obtain ⟨h0, h1, h2, _⟩ := check_zero h
  by_cases e : v.kind = 2
  · exact h1 e
  · have := h2 e; omega
theorem flat_len {α : Type} {f : α → List Nat} {n : Nat} {L : List α} (h : ∀ a ∈ L, (f a).length ≤ n) : (L.flatMap f).length ≤ L.length * n := by
  induction L with
  | nil => simp
  | cons a r ih =>
    rw [List.flatMap_cons, List.length_append, List.length_cons, Nat.succ_mul]
    have := h a (List.mem_cons_self ..)
    have := ih (fun b hb => h b (List.mem_cons_of_mem _ hb))
    omega
def rdV (l : List Nat) (e : Int) : V × List Nat × Int :=
  if (Pk.intOut l e).1 = 1 then (⟨(Pk.intOut l e).1, (Pk.fltOut (Pk.intOut l e).2.1 (Pk.intOut l e).2.2).1, ⟨#[]⟩⟩, (Pk.fltOut (Pk.intOut l e).2.1 (Pk.intOut l e).2.2).2)
  else if (Pk.intOut l e).1 = 2 then (⟨(Pk.intOut l e).1, 0, lb (Pk.textOut (Pk.intOut l e).2.1 (Pk.intOut l e).2.2).1⟩, (Pk.textOut (Pk.intOut l e).2.1 (Pk.intOut l e).2.2).2)
  else (⟨(Pk.intOut l e).1, 0, ⟨#[]⟩⟩, (Pk.intOut l e).2)
def rdN {α : Type} (f : List Nat → Int → α × List Nat × Int) (l : List Nat) (e : Int) : Nat → List α × List Nat × Int
  | 0 => ([], l, e)
  | n + 1 => ((rdN f l e n).1 ++ [(f (rdN f l e n).2.1 (rdN f l e n).2.2).1], (f (rdN f l e n).2.1 (rdN f l e n).2.2).2)
theorem rdN_length {α : Type} (f : List Nat → Int → α × List Nat × Int) (l : List Nat) (e : Int) (n : Nat) : (rdN f l e n).1.length = n := by
  induction n with
  | zero => rfl
  | succ n ih => show ((rdN f l e n).1 ++ [_]).length = _; rw [List.length_append, ih]; rfl
theorem intOut_enc {n : Int} (h1 : -9223372036854775808 ≤ n) (h2 : n ≤ 9223372036854775807) (r : List Nat) (e : Int) : Pk.intOut (Pk.intB n ++ r) e = (n, r, e) := by
  unfold Pk.intOut; rw [Pk.rdInt_enc h1 h2]
theorem fltOut_enc {x : Nat} (hx : x < 18446744073709551616) (r : List Nat) (e : Int) : Pk.fltOut (Pk.fltB x ++ r) e = (Nm.canon x, r, e) := by
  unfold Pk.fltOut; rw [Pk.rdFlt_enc hx]
theorem textOut_enc {t : List Nat} (h : t.length ≤ 16384) (r : List Nat) (e : Int) : Pk.textOut (Pk.textB t ++ r) e = (t, r, e) := by
  unfold Pk.textOut; rw [Pk.rdText_enc h]
theorem rdV_enc {v : V} (h : v.check = 0) (hn : v.num < 18446744073709551616) (r : List Nat) (e : Int) : rdV (valB v ++ r) e = (v, r, e) := by
  obtain ⟨h0, _, h2, h3, h4⟩ := check_zero h
  have h32 := short_text h
  have hk : -9223372036854775808 ≤ v.kind ∧ v.kind ≤ 9223372036854775807 := by omega
  unfold rdV valB
  rw [List.append_assoc, intOut_enc hk.1 hk.2]
  dsimp only
  by_cases e1 : v.kind = 1
  · rw [if_pos e1, if_pos e1, fltOut_enc hn, h4]
    have := empty_of (h2 (by omega))
    obtain ⟨k, n, t⟩ := v
    simp only at this
    rw [this]
  · rw [if_neg e1, if_neg e1]
    have hz := h3 e1
    by_cases e2 : v.kind = 2
    · rw [if_pos e2, if_pos e2, textOut_enc (by rw [bl_length]; omega), lb_bl]
      obtain ⟨k, n, t⟩ := v
      simp only at hz
      rw [hz]
    · rw [if_neg e2, if_neg e2]
      have := empty_of (h2 e2)
      obtain ⟨k, n, t⟩ := v
      simp only at this hz
      rw [this, hz]
      rfl
theorem rdN_enc {α : Type} {f : List Nat → Int → α × List Nat × Int} {g : α → List Nat} {L : List α} (h : ∀ a ∈ L, ∀ r e, f (g a ++ r) e = (a, r, e)) (r : List Nat) (e : Int) :
    ∀ k, k ≤ L.length → rdN f (L.flatMap g ++ r) e k = (L.take k, (L.drop k).flatMap g ++ r, e) := by
  intro k
  induction k with
  | zero => intro _; rfl
  | succ k ih =>
    intro hk
    have hlt : k < L.length := by omega
    unfold rdN
    rw [ih (by omega)]
    dsimp only
    rw [List.drop_eq_getElem_cons hlt, List.flatMap_cons, List.append_assoc, h _ (List.getElem_mem hlt)]
    rw [List.take_succ_eq_append_getElem hlt]
theorem rdN_all {α : Type} {f : List Nat → Int → α × List Nat × Int} {g : α → List Nat} {L : List α} (h : ∀ a ∈ L, ∀ r e, f (g a ++ r) e = (a, r, e)) (r : List Nat) (e : Int) : rdN f (L.flatMap g ++ r) e L.length = (L, r, e) := by
  rw [rdN_enc h r e L.length (Nat.le_refl _), List.take_length, List.drop_length]
  rfl
end Go.Proofs.Ytjdebdfbjcpjgaa.Ss
end
section
/- Cut out of SessStr so that every seat fills it. Texts as bytes, and back: the two conversions; a Writer and a Reader beside other blocks. -/
namespace Go.Proofs.Ytjdebdfbjcpjgaa.Ss
open Go Go.RowKit Vl Kv Mem

theorem strOfNums_lb (l : List Nat) : strOfNums (l.map Int.ofNat) = lb l := by
  unfold strOfNums lb
  rw [List.map_map]
  congr 2
theorem run_lb (w : World) (b : Nat) (a : Option Addr) (cap n : Nat) (l : List Nat) (hn : n = l.length) (h : OwnB 5 w b a cap l) :
    (convert 33 9 (.slice a n cap)).run Try.prog w = .ok (.string (lb l)) w := by
  subst hn
  have hc := h
  rcases h with ⟨rfl, rfl, h3⟩ | ⟨rfl, _, _, _⟩
  · have : l = [] := by simpa using h3
    subst this
    exact run_convert_bytes_nil w _ _ Try.underlying33 Try.underlying5 _ _ _ Try.underlying9
  · rw [run_convert_bytes_arg w 33 5 Try.underlying33 Try.underlying5 b 0 l.length cap (l.map Int.ofNat) (by simp) (fun i hi => by
      rw [Nat.zero_add, hc.cellAt i hi]
      simp [hi]) _ Try.underlying9, strOfNums_lb]
theorem run_bl (w : World) (s : ByteArray) : (convert 9 33 (.string s)).run Try.prog w = .ok (.slice (some ⟨w.heap.size, 0, none⟩) s.size (grownCap w s.size 0 5)) (Lib.bytesWorld w 5 s) :=
  Lib.run_convert_string_bytes w _ _ _ s Try.underlying9 Try.underlying33 Try.underlying5
theorem bytesW_beh (w : World) (s : ByteArray) : Beh w (Lib.bytesWorld w 5 s) :=
  ⟨rfl, rfl, rfl, by rw [Lib.bytesWorld_size]; omega, fun k hk => Lib.bytesWorld_at_old w _ s k hk⟩
theorem bytesW_src (w : World) (s : ByteArray) (hs : s.size ≤ 16384) : Shows (Lib.bytesWorld w 5 s) w.heap.size (some ⟨w.heap.size, 0, none⟩) (grownCap w s.size 0 5) (bl s) := by
  have h1 := grownCap_ge w s.size 0 5
  have h2 := grownCap_le_maxLen w s.size 0 5 (by unfold maxLen; omega)
  refine ⟨by rw [bl_length]; exact h1, by unfold maxLen at h2; omega, .inr ⟨0, rfl, fun i hi => ?_⟩⟩
  rw [bl_length] at hi
  rw [Nat.zero_add, Lib.bytesWorld_cell w _ s i hi]
  have e : s.data[i]? = some s.data[i] := Array.getElem?_eq_getElem hi
  unfold bl
  simp [List.getD, e]

theorem cellOn {w w' : World} (hb : Beh w w') {a : Addr} {v : Value} (h : w.cell? a = some v) : w'.cell? a = some v :=
  (World.cell?_of_block (w := w) (hb.below.block a.block (World.block_lt_of_cell? w _ h))).trans h
/-! ### a Writer beside other blocks -/
def OwnX (w0 wr : World) (bw : Nat) (l : List Nat) (F : List (Nat × Obj)) : Prop :=
  ∃ S, Pk.WAt wr bw S l ∧ (∀ k, S k → w0.heap.size ≤ k) ∧ Kept None w0 wr ∧ ∀ x ∈ F, wr.heap[x.1]? = some x.2 ∧ ¬ S x.1
theorem kept_beh {w w' : World} (h : Beh w w') : Kept None w w' := Kept.of_below h
theorem beh_kept {w w' : World} (h : Kept None w w') : Beh w w' := h.below (Nat.le_refl _) (fun _ h => h.elim)
theorem OwnX.beh {w0 wr : World} {bw : Nat} {l : List Nat} {F : List (Nat × Obj)} (h : OwnX w0 wr bw l F) : Beh w0 wr := by
  obtain ⟨_, _, _, h, _⟩ := h; exact beh_kept h
theorem OwnX.get {w0 wr : World} {bw : Nat} {l : List Nat} {F : List (Nat × Obj)} (h : OwnX w0 wr bw l F) {n : Nat} {o : Obj} (hx : (n, o) ∈ F) : wr.heap[n]? = some o := by
  obtain ⟨_, _, _, _, h⟩ := h; exact (h _ hx).1
theorem OwnX.put {w0 wr w' : World} {bw : Nat} {l m : List Nat} {F : List (Nat × Obj)} {S : Nat → Prop} {x : Ending} (_h1 : Pk.WAt wr bw S l) (h2 : ∀ k, S k → w0.heap.size ≤ k) (h3 : Kept None w0 wr) (h4 : ∀ x ∈ F, wr.heap[x.1]? = some x.2 ∧ ¬ S x.1)
    (hp : Pk.Put bw S m wr x w') : x = .returned (.tuple #[]) ∧ OwnX w0 w' bw m F := by
  obtain ⟨hx, p1, p2⟩ := hp
  have hs := h3.size
  refine ⟨hx, _, p1, fun k hk => hk.elim (h2 k) (fun h => by omega), h3.trans' p2 (fun x hx => .inr (h2 x hx)), fun x hxF => ?_⟩
  obtain ⟨a, b⟩ := h4 x hxF
  have hlt := heap_lt a
  exact ⟨p2.heap a b, fun e => e.elim b (fun h => by omega)⟩
theorem OwnX.on {w0 wr w' : World} {bw : Nat} {l : List Nat} {F : List (Nat × Obj)} (h : OwnX w0 wr bw l F) (hb : Beh wr w') : OwnX w0 w' bw l F := by
  obtain ⟨S, h1, h2, h3, h4⟩ := h
  exact ⟨S, h1.kept (kept_beh hb) (fun _ _ h => h), h2, h3.trans (kept_beh hb), fun x hx => ⟨hb.box (h4 x hx).1, (h4 x hx).2⟩⟩
theorem OwnX.more {w0 wr : World} {bw : Nat} {l : List Nat} {F : List (Nat × Obj)} (h : OwnX w0 wr bw l F) (o : Obj) : OwnX w0 (wr.alloc o) bw l ((wr.heap.size, o) :: F) := by
  obtain ⟨S, h1, h2, h3, h4⟩ := h
  have hk : Kept None wr (wr.alloc o) := (Kept.refl _ _).alloc _
  refine ⟨S, h1.kept hk (fun _ _ h => h), h2, h3.trans hk, fun x hx => ?_⟩
  rcases List.mem_cons.1 hx with rfl | hx
  · exact ⟨alloc_here _ rfl, fun e => by have := h1.2.1 _ e; omega⟩
  · exact ⟨old_alloc _ (h4 x hx).1, (h4 x hx).2⟩
theorem OwnX.less {w0 wr : World} {bw : Nat} {l : List Nat} {F G : List (Nat × Obj)} (h : OwnX w0 wr bw l F) (hg : ∀ x ∈ G, x ∈ F) : OwnX w0 wr bw l G := by
  obtain ⟨S, h1, h2, h3, h4⟩ := h
  exact ⟨S, h1, h2, h3, fun x hx => h4 x (hg x hx)⟩
theorem WAt.new {T : TypeId} (w : World) : Pk.WAt (w.alloc (.cells #[.pointer none, .int .i64 0, .bool false] T)) w.heap.size (Only w.heap.size) [] := Pk.WAt.new w
theorem OwnX.new {T : TypeId} {w0 wr : World} (h : Beh w0 wr) {F : List (Nat × Obj)} (hF : ∀ x ∈ F, wr.heap[x.1]? = some x.2) : OwnX w0 (wr.alloc (.cells #[.pointer none, .int .i64 0, .bool false] T)) wr.heap.size [] F :=
  ⟨_, WAt.new wr, fun k hk => by cases hk; exact h.size, (kept_beh h).alloc _, fun x hx => ⟨old_alloc _ (hF x hx), fun e => by
    have h1 : x.1 = wr.heap.size := e
    have := heap_lt (hF x hx); omega⟩⟩
theorem wInt {w0 wr : World} {bw : Nat} {l : List Nat} {F : List (Nat × Obj)} (h : OwnX w0 wr bw l F) {n : Int} (h1 : -9223372036854775808 ≤ n) (h2 : n ≤ 9223372036854775807) (hl : l.length ≤ 100000) :
    Calls Try.prog 68 #[.pointer (some ⟨bw, 0, none⟩), .int .i64 n] wr fun x w' => x = .returned (.tuple #[]) ∧ OwnX w0 w' bw (l ++ Pk.intB n) F := by
  obtain ⟨S, a, b, c, d⟩ := h
  exact (Pk.WInt_any bw S l n wr a h1 h2 (by omega)).mono fun x w' hp => OwnX.put a b c d hp
theorem wFloat {w0 wr : World} {bw : Nat} {l : List Nat} {F : List (Nat × Obj)} (h : OwnX w0 wr bw l F) {n : Nat} (hl : l.length ≤ 100000) :
    Calls Try.prog 114 #[.pointer (some ⟨bw, 0, none⟩), .float .f64 n] wr fun x w' => x = .returned (.tuple #[]) ∧ OwnX w0 w' bw (l ++ Pk.fltB n) F := by
  obtain ⟨S, a, b, c, d⟩ := h
  exact (Pk.WFloat_any bw S l n wr a (by omega)).mono fun x w' hp => OwnX.put a b c d hp
/-- Text of a string's bytes -/
theorem wText {w0 wr : World} {bw : Nat} {l : List Nat} {F : List (Nat × Obj)} (h : OwnX w0 wr bw l F) (s : ByteArray) (hs : s.size ≤ 16384) (hl : l.length ≤ 100000) :
    Calls Try.prog 87 #[.pointer (some ⟨bw, 0, none⟩), .slice (some ⟨wr.heap.size, 0, none⟩) s.size (grownCap wr s.size 0 5)] (Lib.bytesWorld wr 5 s) fun x w' => x = .returned (.tuple #[]) ∧ OwnX w0 w' bw (l ++ Pk.textB (bl s)) F := by
  have hb := bytesW_beh wr s
  obtain ⟨S, a, b, c, d⟩ := h
  have a2 := a.kept (kept_beh hb) (fun _ _ h => h)
  have := Pk.WText_any bw S l (Lib.bytesWorld wr 5 s) a2 wr.heap.size _ _ (bl s) (bytesW_src wr s hs).src (fun _ e => by have := a.2.1 _ e; omega) (bl_b8 s) (by rw [bl_length]; exact hs) (by omega)
  rw [bl_length] at this
  exact this.mono fun x w' hp => OwnX.put a2 b (c.trans (kept_beh hb)) (fun x hx => ⟨hb.box (d x hx).1, (d x hx).2⟩) hp
theorem wTextAt {w0 wr w2 : World} {bw n cap : Nat} {l : List Nat} {F : List (Nat × Obj)} (h : OwnX w0 wr bw l F) (s : ByteArray) (hs : s.size ≤ 16384) (hl : l.length ≤ 100000) (hw : w2 = Lib.bytesWorld wr 5 s) (hn : n = wr.heap.size) (hc : cap = grownCap wr s.size 0 5) :
    Calls Try.prog 87 #[.pointer (some ⟨bw, 0, none⟩), .slice (some ⟨n, 0, none⟩) s.size cap] w2 fun x w' => x = .returned (.tuple #[]) ∧ OwnX w0 w' bw (l ++ Pk.textB (bl s)) F := by
  subst hw hn hc
  exact wText h s hs hl
theorem wBytes {w0 wr : World} {bw : Nat} {l : List Nat} {F : List (Nat × Obj)} (h : OwnX w0 wr bw l F) (hl : l.length ≤ 100000) :
    Calls Try.prog 65 #[.pointer (some ⟨bw, 0, none⟩)] wr fun x w' => ∃ b a cap, x = .returned (.tuple #[.slice a l.length cap, .int .i64 0]) ∧ OwnB 5 w' b a cap l ∧ wr.heap.size ≤ b ∧ Beh wr w' := by
  obtain ⟨S, a, b, c, d⟩ := h
  exact (Pk.WBytes_any bw S l wr a (by omega)).mono fun x w' ⟨b, a, cap, hx, ho, hb, _, hk⟩ => ⟨b, a, cap, hx, ho, hb, beh_kept hk⟩

/-! ### a Reader: each method, as one step -/
theorem rInt {wr : World} {br bs : Nat} {l : List Nat} {e : Int} (h : Pk.RAt wr br bs l e) (hl : l.length ≤ 100000) :
    Calls Try.prog 106 #[.pointer (some ⟨br, 0, none⟩)] wr fun x w' => x = .returned (.int .i64 (Pk.intOut l e).1) ∧ Pk.RAt w' br bs (Pk.intOut l e).2.1 (Pk.intOut l e).2.2 ∧ Kept (Only br) wr w' := by
  refine (Pk.RInt_any br bs l e wr h (by omega)).mono fun x w' hp => ?_
  unfold Pk.IntPost at hp
  unfold Pk.intOut
  cases hd : Pk.rdInt l with
  | none => rw [hd] at hp; exact ⟨hp.1, hp.2.1, hp.2.2⟩
  | some p => rw [hd] at hp; exact ⟨hp.1, hp.2.1, hp.2.2⟩
theorem rFloat {wr : World} {br bs : Nat} {l : List Nat} {e : Int} (h : Pk.RAt wr br bs l e) :
    Calls Try.prog 125 #[.pointer (some ⟨br, 0, none⟩)] wr fun x w' => x = .returned (.float .f64 (Pk.fltOut l e).1) ∧ Pk.RAt w' br bs (Pk.fltOut l e).2.1 (Pk.fltOut l e).2.2 ∧ Kept (Only br) wr w' := by
  refine (Pk.RFloat_any br bs l e wr h).mono fun x w' hp => ?_
  unfold Pk.FltPost at hp
  unfold Pk.fltOut
  cases hd : Pk.rdFlt l with
  | none => rw [hd] at hp; exact ⟨hp.1, hp.2.1, hp.2.2⟩
  | some p => rw [hd] at hp; exact ⟨hp.1, hp.2.1, hp.2.2⟩
theorem rText {wr : World} {br bs : Nat} {l : List Nat} {e : Int} (h : Pk.RAt wr br bs l e) (hl : l.length ≤ 100000) :
    Calls Try.prog 111 #[.pointer (some ⟨br, 0, none⟩)] wr fun x w' => ∃ b a cap, x = .returned (.slice a (Pk.textOut l e).1.length cap) ∧ OwnB 5 w' b a cap (Pk.textOut l e).1 ∧ Pk.RAt w' br bs (Pk.textOut l e).2.1 (Pk.textOut l e).2.2 ∧ Kept (Only br) wr w' :=
  (Pk.RText_any br bs l e wr h (by omega)).mono fun x w' ⟨b, a, cap, hx, ho, _, _, hr, hk⟩ => ⟨b, a, cap, hx, ho, hr, hk⟩
end Go.Proofs.Ytjdebdfbjcpjgaa.Ss
end
section
/- The Writer's Mark. -/
namespace Go.Proofs.Ytjdebdfbjcpjgaa.Pk
open Go Go.RowKit Mem
set_option maxHeartbeats 1000000 in
theorem WMark_gen (bw : Nat) (b : Bool) (w : World) (Q : World → Prop) (hput : PutsNew bw w (markB b) Q) :
    Calls Try.prog 94 #[.pointer (some ⟨bw, 0, none⟩), .bool b] w fun x w' => x = .returned (.tuple #[]) ∧ Q w' := by
  have HP := Lib.hid hput
  have h0 : ∀ v, (w.alloc (.cells #[v] 151)).heap[w.heap.size]? = some (.cells #[v] 151 (0, 0)) := fun v => heap_alloc_new w _
  have H0 := Lib.hid h0
  clear hput h0
  cases b
  all_goals
    go_enter Try.func94, Try.ntmps94
    go_wp2_with fail
    refine (HP.out _ w.heap.size _ 1 1 ((Kept.refl _ _).alloc _) (Nat.le_refl _) (shows_made (H0.out _) rfl (by decide) (by decide)) rfl).mono ?_
    rintro x w' ⟨rfl, h1⟩
    have H1 := Lib.hid h1
    clear h1
    go_wp2
    go_end0
    exact ⟨rfl, H1.out⟩
theorem WMark_any (bw : Nat) (S : Nat → Prop) (l : List Nat) (b : Bool) (w : World) (h : WAt w bw S l) (hlen : l.length ≤ 35184372088832) :
    Calls Try.prog 94 #[.pointer (some ⟨bw, 0, none⟩), .bool b] w (Put bw S (l ++ markB b) w) :=
  WMark_gen bw b w _ (puts_new bw S l w h _ (by intro x hx; cases b <;> simp [markB] at hx <;> omega) (by show _ + 1 ≤ _; omega))

end Go.Proofs.Ytjdebdfbjcpjgaa.Pk
end
section
/- A Writer that was told of a text that is too long. Cut out of Long so that every seat fills it. -/
namespace Go.Proofs.Ytjdebdfbjcpjgaa.Pk
open Go Go.RowKit Mem
/-- it is so at bw, in the blocks of S -/
def WL (w : World) (bw : Nat) (S : Nat → Prop) : Prop := S bw ∧ (∀ k, S k → k < w.heap.size) ∧ WLong w bw
theorem WL.kept {w w' : World} {bw : Nat} {S T : Nat → Prop} (h : WL w bw S) (hk : Kept T w w') (hd : ∀ k, S k → ¬ T k) : WL w' bw S :=
  ⟨h.1, fun k hs => Nat.lt_of_lt_of_le (h.2.1 k hs) hk.size, by obtain ⟨T, h3⟩ := h.2.2; exact ⟨T, hk.heap h3 (hd _ h.1)⟩⟩
set_option maxHeartbeats 1000000 in
theorem put_long (bw : Nat) (a2 : Option Addr) (n cap2 : Nat) (w : World) (h : WLong w bw) :
    Calls Try.prog 101 #[.pointer (some ⟨bw, 0, Option.none⟩), .slice a2 n cap2] w fun x w' => x = .returned (.tuple #[]) ∧ w = w' := by
  obtain ⟨T, h⟩ := h
  have c2 := cell_heap h 2
  simp at c2
  clear h
  go_enter Try.func101, Try.ntmps101
  go_wp2
  refine bodyPost_ret (results_none rfl _ _ _) rfl ?_
  exact ⟨rfl, rfl⟩
theorem puts_long (bw : Nat) (w : World) (h : WLong w bw) (m : List Nat) : PutsNew bw w m fun w' => Kept Mem.None w w' ∧ WLong w' bw := by
  intro w1 b2 a2 cap2 n hk _ _ _
  exact (put_long bw a2 n cap2 w1 (h.imp fun T h => hk.heap h (fun h => h))).mono fun x w' ⟨hx, hw⟩ => ⟨hx, by rw [← hw]; exact hk, by rw [← hw]; exact h.imp fun T h => hk.heap h (fun h => h)⟩
/-- what is known behind a call: it stays so -/
def PutL (bw : Nat) (S : Nat → Prop) (w : World) (x : Ending) (w' : World) : Prop := x = .returned (.tuple #[]) ∧ WL w' bw S ∧ Kept S w w'
theorem PutL.of {bw : Nat} {S : Nat → Prop} {w : World} {x : Ending} {w' : World} (h : WL w bw S) (hx : x = .returned (.tuple #[])) (hk : Kept Mem.None w w') (hl : WLong w' bw) : PutL bw S w x w' :=
  ⟨hx, ⟨h.1, fun k hs => Nat.lt_of_lt_of_le (h.2.1 k hs) hk.size, hl⟩, hk.ofNone⟩
theorem PutL.later {bw : Nat} {S : Nat → Prop} {w w1 : World} {x : Ending} {w' : World} (h : PutL bw S w1 x w') (hk : Kept Mem.None w w1) : PutL bw S w x w' := ⟨h.1, h.2.1, hk.ofNone.trans h.2.2⟩
theorem WInt_long (bw : Nat) (S : Nat → Prop) (n : Int) (w : World) (h : WL w bw S) (h1 : -9223372036854775808 ≤ n) (h2 : n ≤ 9223372036854775807) :
    Calls Try.prog 68 #[.pointer (some ⟨bw, 0, Option.none⟩), .int .i64 n] w (PutL bw S w) :=
  (WInt_gen bw n w h1 h2 _ (puts_long bw w h.2.2 _)).mono fun _ _ ⟨hx, hk, hl⟩ => PutL.of h hx hk hl
theorem WMark_long (bw : Nat) (S : Nat → Prop) (b : Bool) (w : World) (h : WL w bw S) :
    Calls Try.prog 94 #[.pointer (some ⟨bw, 0, Option.none⟩), .bool b] w (PutL bw S w) :=
  (WMark_gen bw b w _ (puts_long bw w h.2.2 _)).mono fun _ _ ⟨hx, hk, hl⟩ => PutL.of h hx hk hl
theorem WFloat_long (bw : Nat) (S : Nat → Prop) (y : Nat) (w : World) (h : WL w bw S) :
    Calls Try.prog 114 #[.pointer (some ⟨bw, 0, Option.none⟩), .float .f64 y] w (PutL bw S w) :=
  (WFloat_gen bw y w _ (puts_long bw w h.2.2 _)).mono fun _ _ ⟨hx, hk, hl⟩ => PutL.of h hx hk hl
set_option maxHeartbeats 1000000 in
theorem WText_long (bw : Nat) (S : Nat → Prop) (w : World) (h : WL w bw S) (a2 : Option Addr) (cap2 n : Nat) (hn : n ≤ 16384) :
    Calls Try.prog 87 #[.pointer (some ⟨bw, 0, Option.none⟩), .slice a2 n cap2] w (PutL bw S w) := by
  have HA := Lib.hid h
  clear h
  go_enter Try.func87, Try.ntmps87
  go_wp2_with fail
  refine (WInt_long bw S n w HA.out (by omega) (by omega)).mono ?_
  rintro x w1 ⟨rfl, h1, h2⟩
  have H1 := Lib.hid h1
  have H2 := Lib.hid h2
  clear h1 h2
  go_wp2_with fail
  refine (put_long bw a2 n cap2 w1 H1.out.2.2).mono ?_
  rintro x w2 ⟨rfl, rfl⟩
  go_wp2
  go_end0
  exact ⟨rfl, H1.out, H2.out⟩
/-- a text that is too long, told to whatever Writer -/
theorem WText_over {T : TypeId} (bw : Nat) (S : Nat → Prop) (w : World) (v0 v1 v2 : Value) (hS : S bw) (hlt : ∀ k, S k → k < w.heap.size) (h : w.heap[bw]? = some (.cells #[v0, v1, v2] T (0, 0))) (a2 : Option Addr) (cap2 n : Nat) (hn : 16384 < n) (hn2 : n ≤ 35184372088832) :
    Calls Try.prog 87 #[.pointer (some ⟨bw, 0, Option.none⟩), .slice a2 n cap2] w (PutL bw S w) := by
  have c0 := cell_heap h 0
  have c1 := cell_heap h 1
  have c2 := cell_heap h 2
  have f0 := frozen_heap h 0
  have f1 := frozen_heap h 1
  have f2 := frozen_heap h 2
  simp at c0 c1 c2
  have HH := Lib.hid h
  have HL := Lib.hid hlt
  clear h hlt
  go_enter Try.func87, Try.ntmps87
  go_wp2
  refine bodyPost_ret (results_none rfl _ _ _) rfl ?_
  have k : Kept S w (((w.setCell ⟨bw, 0, Option.none⟩ (.pointer Option.none)).setCell ⟨bw, 1, Option.none⟩ (.int .i64 0)).setCell ⟨bw, 2, Option.none⟩ (.bool true)) :=
    (((Kept.refl _ _).setAt (.inl hS) _ _).setAt (.inl hS) _ _).setAt (.inl hS) _ _
  refine ⟨rfl, ⟨hS, fun k' hs => Nat.lt_of_lt_of_le (HL.out k' hs) k.size, ?_⟩, k⟩
  refine ⟨T, ?_⟩
  rw [heap_set (heap_set (heap_set HH.out 0 _) 1 _) 2]
  rfl
set_option maxHeartbeats 1000000 in
theorem Bytes_long (bw : Nat) (w : World) (h : WLong w bw) :
    Calls Try.prog 65 #[.pointer (some ⟨bw, 0, Option.none⟩)] w fun x w' => x = .returned (.tuple #[.slice Option.none 0 0, .int .i64 2]) ∧ w = w' := by
  obtain ⟨T, h⟩ := h
  have c2 := cell_heap h 2
  simp at c2
  clear h
  go_enter Try.func65, Try.ntmps65
  go_wp2
  go_ret2
  exact ⟨rfl, rfl⟩
/-- what a Writer holds: bytes; or that a text was too long -/
def St (w : World) (bw : Nat) (S : Nat → Prop) (o : Option (List Nat)) : Prop := match o with
  | some l => WAt w bw S l
  | Option.none => WL w bw S
theorem St.kept {w w' : World} {bw : Nat} {S T : Nat → Prop} {o : Option (List Nat)} (h : St w bw S o) (hk : Kept T w w') (hd : ∀ k, S k → ¬ T k) : St w' bw S o := by
  cases o with
  | none => exact WL.kept h hk hd
  | some l => exact WAt.kept h hk hd
theorem St.lt {w : World} {bw : Nat} {S : Nat → Prop} {o : Option (List Nat)} (h : St w bw S o) : ∀ k, S k → k < w.heap.size := by
  cases o with
  | none => exact h.2.1
  | some l => exact h.2.1
end Go.Proofs.Ytjdebdfbjcpjgaa.Pk
end
section
/- Codes: what is written, and a reading that finds just what was written; how they are put together. Plain; no program. -/
namespace Go.Proofs.Ytjdebdfbjcpjgaa.Wr
open Go Go.RowKit Vl Kv Ss Mem
theorem b8_right {a b l : List Nat} (h : B8 l) (e : l = a ++ b) : B8 b := fun x hx => h x (by rw [e]; exact List.mem_append_right _ hx)
/-- a code: a writing, a reading of it (none: bytes that are no such thing), and what may be written -/
structure Cod (α : Type) where
  enc : α → List Nat
  rd : List Nat → Option (α × List Nat)
  ok : α → Prop
  sound : ∀ l, B8 l → ∀ x r, rd l = some (x, r) → l = enc x ++ r ∧ ok x
  comp : ∀ x r, ok x → rd (enc x ++ r) = some (x, r)
variable {α β : Type}
/-- one behind the other -/
def Cod.seq (A : Cod α) (B : Cod β) : Cod (α × β) where
  enc x := A.enc x.1 ++ B.enc x.2
  rd l := match A.rd l with
    | none => none
    | some (a, q) => match B.rd q with
      | none => none
      | some (b, r) => some ((a, b), r)
  ok x := A.ok x.1 ∧ B.ok x.2
  sound l h8 x r h := by
    cases ha : A.rd l with
    | none => rw [ha] at h; cases h
    | some p =>
      obtain ⟨a, q⟩ := p
      rw [ha] at h
      simp only at h
      obtain ⟨e1, o1⟩ := A.sound l h8 a q ha
      cases hb : B.rd q with
      | none => rw [hb] at h; cases h
      | some p2 =>
        obtain ⟨b, r2⟩ := p2
        rw [hb] at h
        simp only at h
        injection h with h
        injection h with h1 h2
        subst h1 h2
        obtain ⟨e2, o2⟩ := B.sound q (b8_right h8 e1) b r2 hb
        exact ⟨by rw [e1, e2, List.append_assoc], o1, o2⟩
  comp x r h := by
    rw [List.append_assoc, A.comp x.1 _ h.1]
    simp only
    rw [B.comp x.2 r h.2]
/-- the same things under other names -/
def Cod.as (A : Cod α) (f : α → β) (g : β → α) (hf : ∀ b, f (g b) = b) (hg : ∀ a, g (f a) = a) : Cod β where
  enc y := A.enc (g y)
  rd l := match A.rd l with
    | none => none
    | some (a, r) => some (f a, r)
  ok y := A.ok (g y)
  sound l h8 y r h := by
    cases ha : A.rd l with
    | none => rw [ha] at h; cases h
    | some p =>
      obtain ⟨a, q⟩ := p
      rw [ha] at h
      simp only at h
      injection h with h
      injection h with h1 h2
      subst h1 h2
      obtain ⟨e1, o1⟩ := A.sound l h8 a q ha
      rw [hg]
      exact ⟨e1, o1⟩
  comp y r h := by
    rw [A.comp (g y) r h]
    simp only
    rw [hf]
/-- what is read first says how to go on -/
def Cod.sel (A : Cod α) (B : α → Cod β) : Cod (α × β) where
  enc x := A.enc x.1 ++ (B x.1).enc x.2
  rd l := match A.rd l with
    | none => none
    | some (a, q) => match (B a).rd q with
      | none => none
      | some (b, r) => some ((a, b), r)
  ok x := A.ok x.1 ∧ (B x.1).ok x.2
  sound l h8 x r h := by
    cases ha : A.rd l with
    | none => rw [ha] at h; cases h
    | some p =>
      obtain ⟨a, q⟩ := p
      rw [ha] at h
      simp only at h
      obtain ⟨e1, o1⟩ := A.sound l h8 a q ha
      cases hb : (B a).rd q with
      | none => rw [hb] at h; cases h
      | some p2 =>
        obtain ⟨b, r2⟩ := p2
        rw [hb] at h
        simp only at h
        injection h with h
        injection h with h1 h2
        subst h1 h2
        obtain ⟨e2, o2⟩ := (B a).sound q (b8_right h8 e1) b r2 hb
        exact ⟨by rw [e1, e2, List.append_assoc], o1, o2⟩
  comp x r h := by
    rw [List.append_assoc, A.comp x.1 _ h.1]
    simp only
    rw [(B x.1).comp x.2 r h.2]
/-- nothing is written of one thing alone -/
def Cod.one (c : α) : Cod α where
  enc _ := []
  rd l := some (c, l)
  ok x := x = c
  sound l _ x r h := by
    injection h with h
    injection h with h1 h2
    subst h1 h2
    exact ⟨rfl, rfl⟩
  comp x r h := by subst h; rfl
/-- nothing may be written -/
def Cod.non : Cod α where
  enc _ := []
  rd _ := none
  ok _ := False
  sound l _ x r h := by cases h
  comp x r h := h.elim
/-- so many of them -/
def Cod.rep (A : Cod α) : Nat → Cod (List α)
  | 0 => Cod.one []
  | n + 1 => { enc := fun L => match L with | [] => [] | x :: r => A.enc x ++ (Cod.rep A n).enc r
               rd := fun l => match A.rd l with
                 | none => none
                 | some (a, q) => match (Cod.rep A n).rd q with
                   | none => none
                   | some (L, r) => some (a :: L, r)
               ok := fun L => match L with | [] => False | x :: r => A.ok x ∧ (Cod.rep A n).ok r
               sound := fun l h8 x r h => by
                 cases ha : A.rd l with
                 | none => rw [ha] at h; cases h
                 | some p =>
                   obtain ⟨a, q⟩ := p
                   rw [ha] at h
                   simp only at h
                   obtain ⟨e1, o1⟩ := A.sound l h8 a q ha
                   cases hb : (Cod.rep A n).rd q with
                   | none => rw [hb] at h; cases h
                   | some p2 =>
                     obtain ⟨b, r2⟩ := p2
                     rw [hb] at h
                     simp only at h
                     injection h with h
                     injection h with h1 h2
                     subst h1 h2
                     obtain ⟨e2, o2⟩ := (Cod.rep A n).sound q (b8_right h8 e1) b r2 hb
                     exact ⟨by show l = (A.enc a ++ (Cod.rep A n).enc b) ++ r2; rw [e1, e2, List.append_assoc], o1, o2⟩
               comp := fun x r h => by
                 cases x with
                 | nil => exact h.elim
                 | cons y s =>
                   show (match A.rd ((A.enc y ++ (Cod.rep A n).enc s) ++ r) with | none => none | some (a, q) => match (Cod.rep A n).rd q with | none => none | some (L, r) => some (a :: L, r)) = _
                   rw [List.append_assoc, A.comp y _ h.1]
                   simp only
                   rw [(Cod.rep A n).comp s r h.2] }
theorem rep_ok {A : Cod α} {n : Nat} {L : List α} : (Cod.rep A n).ok L ↔ L.length = n ∧ ∀ x ∈ L, A.ok x := by
  induction n generalizing L with
  | zero =>
    show L = [] ↔ _
    constructor
    · rintro rfl; exact ⟨rfl, fun x hx => by cases hx⟩
    · exact fun h => List.eq_nil_of_length_eq_zero h.1
  | succ n ih =>
    cases L with
    | nil => exact ⟨fun h => (h : False).elim, fun h => by cases h.1⟩
    | cons x r =>
      show A.ok x ∧ (Cod.rep A n).ok r ↔ _
      rw [ih]
      constructor
      · rintro ⟨h1, h2, h3⟩
        exact ⟨by rw [List.length_cons, h2], fun y hy => by rcases List.mem_cons.1 hy with rfl | hy; exact h1; exact h3 y hy⟩
      · rintro ⟨h1, h2⟩
        exact ⟨h2 x (List.mem_cons_self ..), by simpa using h1, fun y hy => h2 y (List.mem_cons_of_mem _ hy)⟩
theorem rep_enc {A : Cod α} {n : Nat} {L : List α} (h : L.length = n) : (Cod.rep A n).enc L = L.flatMap A.enc := by
  induction n generalizing L with
  | zero => rw [List.eq_nil_of_length_eq_zero h]; rfl
  | succ n ih =>
    cases L with
    | nil => cases h
    | cons x r =>
      show A.enc x ++ (Cod.rep A n).enc r = _
      rw [ih (by simpa using h), List.flatMap_cons]

/-! ### numbers, marks, floats, texts -/
def In64 (n : Int) : Prop := -9223372036854775808 ≤ n ∧ n ≤ 9223372036854775807
def cInt : Cod Int where
  enc := Pk.intB
  rd := Pk.rdInt
  ok := In64
  sound l h8 x r h := by
    have := Pk.rdInt_sound h8 h
    exact ⟨this.1, this.2.1, this.2.2⟩
  comp x r h := Pk.rdInt_enc h.1 h.2 r
def cMark : Cod Bool where
  enc := Pk.markB
  rd := Pk.rdMark
  ok _ := True
  sound l h8 x r h := by
    refine ⟨?_, trivial⟩
    unfold Pk.rdMark at h
    cases l with
    | nil => cases h
    | cons b q =>
      simp only at h
      by_cases hb : 1 < b
      · rw [if_pos hb] at h; cases h
      · rw [if_neg hb] at h
        injection h with h
        injection h with h1 h2
        subst h1 h2
        rcases Nat.le_one_iff_eq_zero_or_eq_one.1 (Nat.le_of_not_lt hb) with rfl | rfl <;> rfl
  comp x r _ := Pk.rdMark_enc x r
def cFlt : Cod Nat where
  enc := Pk.fltB
  rd := Pk.rdFlt
  ok x := x < 18446744073709551616 ∧ Nm.canon x = x
  sound l h8 x r h := by
    unfold Pk.rdFlt at h
    split at h
    · cases h
    · rename_i hl
      split at h
      · rename_i hc
        injection h with h
        injection h with h1 h2
        subst h1 h2
        have h3 := Pk.high8_num8 (by rw [List.length_take]; omega) (h8.take 8)
        unfold Pk.fltB
        exact ⟨by rw [hc, h3.1, List.take_append_drop], h3.2, hc⟩
      · cases h
  comp x r h := by rw [Pk.rdFlt_enc h.1, h.2]
def rdT (l : List Nat) : Option (List Nat × List Nat) := match Pk.rdText l with | .ok x => some x | .error _ => none
def cText : Cod (List Nat) where
  enc := Pk.textB
  rd := rdT
  ok t := t.length ≤ 16384 ∧ B8 t
  sound l h8 t r h := by
    unfold rdT Pk.rdText at h
    cases hd : Pk.rdInt l with
    | none => rw [hd] at h; cases h
    | some p =>
      obtain ⟨n, q⟩ := p
      rw [hd] at h
      simp only at h
      have hs := Pk.rdInt_sound h8 hd
      by_cases hb : 16384 < n
      · rw [if_pos hb] at h; cases h
      · rw [if_neg hb] at h
        by_cases hf : n < 0 ∨ (q.length : Int) < n
        · rw [if_pos hf] at h; cases h
        · rw [if_neg hf] at h
          injection h with h
          injection h with ht hr
          subst ht hr
          have hlen : ((q.take n.toNat).length : Int) = n := by rw [List.length_take]; omega
          refine ⟨?_, by omega, (b8_right h8 hs.1).take _⟩
          unfold Pk.textB
          rw [hlen, List.append_assoc, List.take_append_drop]
          exact hs.1
  comp t r h := by
    unfold rdT
    rw [Pk.rdText_enc h.1]
end Go.Proofs.Ytjdebdfbjcpjgaa.Wr
end
