/- A Disk of the call's own, beside others (X: the blocks of the others): each method, as one step. -/
import Derived.Test.YtaogpchjkbcjoaaCode4
namespace Go.Proofs.Ytaogpchjkbcjoaa.Dk
open Go Go.RowKit Mem Kp
def Own (w wr : World) (X : Nat → Prop) (d : Nat) (st : St) : Prop := ∃ S, DAt wr d S st ∧ (∀ k, S k → w.heap.size ≤ k ∧ ¬ X k) ∧ (∀ k, X k → k < wr.heap.size) ∧ Kept None w wr
/-- the others' blocks -/
def Not (X : Nat → Prop) : Nat → Prop := fun k => ¬ X k
def One (b : Nat) : Nat → Prop := fun k => k = b
theorem Own.kept {w wr : World} {X : Nat → Prop} {d : Nat} {st : St} (h : Own w wr X d st) : Kept None w wr := by obtain ⟨_, _, _, _, h⟩ := h; exact h
theorem Own.ok {w wr : World} {X : Nat → Prop} {d : Nat} {st : St} (h : Own w wr X d st) : st.Ok := by obtain ⟨_, h, _⟩ := h; exact h.ok
theorem Own.next {w wr w' : World} {X S : Nat → Prop} {d : Nat} {st' : St} (hS : ∀ k, S k → w.heap.size ≤ k ∧ ¬ X k) (hX : ∀ k, X k → k < wr.heap.size) (hk : Kept None w wr) (h : Left d S wr st' w') : Own w w' X d st' ∧ Kept (Not X) wr w' := by
  obtain ⟨S', h1, h2, h3⟩ := h
  have s1 := hk.size
  have s2 := h2.size
  refine ⟨⟨S', h1, fun k hk2 => ?_, fun k hk2 => Nat.lt_of_lt_of_le (hX k hk2) s2, hk.trans' h2 (fun k hk2 => .inr (hS k hk2).1)⟩, h2.mono (fun k hk2 => (hS k hk2).2)⟩
  rcases h3 k hk2 with h4 | h4
  · exact hS k h4
  · exact ⟨by omega, fun hx => by have := hX k hx; omega⟩
/-- the others go on: T is written, Y are their blocks then -/
theorem Own.on {w wr w' : World} {X T : Nat → Prop} {d : Nat} {st : St} (h : Own w wr X d st) (hk : Kept T wr w') (hT : ∀ k, T k → X k ∧ w.heap.size ≤ k) (Y : Nat → Prop) (hY : ∀ k, Y k → (X k ∨ wr.heap.size ≤ k) ∧ k < w'.heap.size) : Own w w' Y d st := by
  obtain ⟨S, h1, h2, h3, h4⟩ := h
  refine ⟨S, h1.kept hk (fun k hs ht => (h2 k hs).2 (hT k ht).1), fun k hs => ⟨(h2 k hs).1, fun hy => ?_⟩, fun k hy => (hY k hy).2, h4.trans' hk (fun k ht => .inr (hT k ht).2)⟩
  rcases (hY k hy).1 with h5 | h5
  · exact (h2 k hs).2 h5
  · have := h1.hi hs; omega
/-- nothing that there was is written, X stays -/
theorem Own.same {w wr w' : World} {X : Nat → Prop} {d : Nat} {st : St} (h : Own w wr X d st) (hk : Kept None wr w') : Own w w' X d st := by
  obtain ⟨S, h1, h2, h3, h4⟩ := h
  exact Own.on ⟨S, h1, h2, h3, h4⟩ hk (fun _ h => h.elim) X (fun k hx => ⟨.inl hx, Nat.lt_of_lt_of_le (h3 k hx) hk.size⟩)
/-- the same, and b is another's -/
theorem Own.add {w wr w' : World} {X : Nat → Prop} {d : Nat} {st : St} (h : Own w wr X d st) (hk : Kept None wr w') (b : Nat) (hb : wr.heap.size ≤ b) (hb2 : b < w'.heap.size) : Own w w' (fun k => X k ∨ k = b) d st := by
  obtain ⟨S, h1, h2, h3, h4⟩ := h
  exact Own.on ⟨S, h1, h2, h3, h4⟩ hk (fun _ h => h.elim) _ (fun k hx => hx.elim (fun hx => ⟨.inl hx, Nat.lt_of_lt_of_le (h3 k hx) hk.size⟩) (fun e => by subst e; exact ⟨.inr hb, hb2⟩))
theorem Own.drop {w wr : World} {X Y : Nat → Prop} {d : Nat} {st : St} (h : Own w wr X d st) (hY : ∀ k, Y k → X k) : Own w wr Y d st := by
  obtain ⟨S, h1, h2, h3, h4⟩ := h
  exact ⟨S, h1, fun k hs => ⟨(h2 k hs).1, fun hy => (h2 k hs).2 (hY k hy)⟩, fun k hy => h3 k (hY k hy), h4⟩
/-- what was there when the call began is another's, too -/
theorem Own.old {w wr : World} {X Y : Nat → Prop} {d : Nat} {st : St} (h : Own w wr X d st) (hY : ∀ k, Y k → X k ∨ k < w.heap.size) : Own w wr Y d st := by
  obtain ⟨S, h1, h2, h3, h4⟩ := h
  have hz := h4.size
  refine ⟨S, h1, fun k hs => ⟨(h2 k hs).1, fun hy => ?_⟩, fun k hy => ?_, h4⟩
  · rcases hY k hy with h5 | h5
    · exact (h2 k hs).2 h5
    · have := (h2 k hs).1; omega
  · rcases hY k hy with h5 | h5
    · exact h3 k h5
    · omega
theorem New_own (w wr : World) (hk : Kept None w wr) (room : Nat) (h : room ≤ 65536) (X : Nat → Prop) (hX : ∀ k, X k → k < wr.heap.size) :
    Calls Try.prog 11 #[.int .i64 room] wr fun x w' => ∃ d, x = .returned (.tuple #[.pointer (some ⟨d, 0, none⟩), .int .i64 0]) ∧ Own w w' X d (St.new room) ∧ Kept None wr w' :=
  (New_ok room h wr).mono fun _ _ ⟨d, S, hx, h1, h2, h3⟩ => ⟨d, hx, ⟨S, h1, fun k hs => ⟨Nat.le_trans hk.size (h2 k hs), fun hx => by have := hX k hx; have := h2 k hs; omega⟩, fun k hx => Nat.lt_of_lt_of_le (hX k hx) h3.size, hk.trans h3⟩, h3⟩
theorem Append_own (w wr : World) (X : Nat → Prop) (d : Nat) (st : St) (h : Own w wr X d st) (b : Nat) (a : Option Addr) (cap : Nat) (l : List Nat) (hs : Src wr b a cap l) (hb : l ≠ [] → b < w.heap.size ∨ X b) (h8 : B8 l) (hl : l.length ≤ 35184372088832) :
    Calls Try.prog 24 #[.pointer (some ⟨d, 0, none⟩), .slice a l.length cap] wr fun x w' => x = .returned (.int .i64 (st.append l).2) ∧ Own w w' X d (st.append l).1 ∧ Kept (Not X) wr w' := by
  obtain ⟨S, h1, h2, h3, h4⟩ := h
  exact (Append_any wr d S st h1 b a cap l hs (fun hl hS => by
    rcases hb hl with h5 | h5
    · have := (h2 b hS).1; omega
    · exact (h2 b hS).2 h5) h8 hl).mono fun _ _ ⟨hx, hL⟩ => ⟨hx, Own.next h2 h3 h4 hL⟩
theorem Replace_own (w wr : World) (X : Nat → Prop) (d : Nat) (st : St) (h : Own w wr X d st) (b : Nat) (a : Option Addr) (cap : Nat) (l : List Nat) (hs : Src wr b a cap l) (hb : l ≠ [] → b < w.heap.size ∨ X b) (h8 : B8 l) (hl : l.length ≤ 35184372088832) :
    Calls Try.prog 20 #[.pointer (some ⟨d, 0, none⟩), .slice a l.length cap] wr fun x w' => x = .returned (.int .i64 (st.replace l).2) ∧ Own w w' X d (st.replace l).1 ∧ Kept (Not X) wr w' := by
  obtain ⟨S, h1, h2, h3, h4⟩ := h
  exact (Replace_any wr d S st h1 b a cap l hs (fun hl hS => by
    rcases hb hl with h5 | h5
    · have := (h2 b hS).1; omega
    · exact (h2 b hS).2 h5) h8 hl).mono fun _ _ ⟨hx, hL⟩ => ⟨hx, Own.next h2 h3 h4 hL⟩
theorem Sync_own (w wr : World) (X : Nat → Prop) (d : Nat) (st : St) (h : Own w wr X d st) :
    Calls Try.prog 19 #[.pointer (some ⟨d, 0, none⟩)] wr fun x w' => x = .returned (.int .i64 st.sync.2) ∧ Own w w' X d st.sync.1 ∧ Kept (Not X) wr w' := by
  obtain ⟨S, h1, h2, h3, h4⟩ := h
  exact (Sync_any wr d S st h1).mono fun _ _ ⟨hx, hL⟩ => ⟨hx, Own.next h2 h3 h4 hL⟩
theorem Trip_own (w wr : World) (X : Nat → Prop) (d : Nat) (st : St) (h : Own w wr X d st) (n keep : Int) (hn0 : -9223372036854775808 ≤ n) (hn : n ≤ 9223372036854775807) (hk0 : -9223372036854775808 ≤ keep) (hk : keep ≤ 9223372036854775807) :
    Calls Try.prog 21 #[.pointer (some ⟨d, 0, none⟩), .int .i64 n, .int .i64 keep] wr fun x w' => x = .returned (.tuple #[]) ∧ Own w w' X d (st.trip n keep) ∧ Kept (Not X) wr w' := by
  obtain ⟨S, h1, h2, h3, h4⟩ := h
  exact (Trip_any wr d S st h1 n keep hn0 hn hk0 hk).mono fun _ _ ⟨hx, hL⟩ => ⟨hx, Own.next h2 h3 h4 hL⟩
theorem Crash_own (w wr : World) (X : Nat → Prop) (d : Nat) (st : St) (h : Own w wr X d st) (keep : Int) (hk0 : -9223372036854775808 ≤ keep) (hk : keep ≤ 9223372036854775807) :
    Calls Try.prog 22 #[.pointer (some ⟨d, 0, none⟩), .int .i64 keep] wr fun x w' => x = .returned (.tuple #[]) ∧ Own w w' X d (st.crash keep) ∧ Kept (Not X) wr w' := by
  obtain ⟨S, h1, h2, h3, h4⟩ := h
  exact (Crash_any wr d S st h1 keep hk0 hk).mono fun _ _ ⟨hx, hL⟩ => ⟨hx, Own.next h2 h3 h4 hL⟩
theorem Start_own (w wr : World) (X : Nat → Prop) (d : Nat) (st : St) (h : Own w wr X d st) :
    Calls Try.prog 23 #[.pointer (some ⟨d, 0, none⟩)] wr fun x w' => x = .returned (.tuple #[]) ∧ Own w w' X d st.start ∧ Kept (Not X) wr w' := by
  obtain ⟨S, h1, h2, h3, h4⟩ := h
  exact (Start_any wr d S st h1).mono fun _ _ ⟨hx, hL⟩ => ⟨hx, Own.next h2 h3 h4 hL⟩
theorem Size_own (w wr : World) (X : Nat → Prop) (d : Nat) (st : St) (h : Own w wr X d st) :
    Calls Try.prog 15 #[.pointer (some ⟨d, 0, none⟩)] wr fun x w' => x = .returned (.int .i64 st.file.length) ∧ wr = w' := by
  obtain ⟨S, h1, _⟩ := h
  exact Size_any wr d S st h1
theorem Off_own (w wr : World) (X : Nat → Prop) (d : Nat) (st : St) (h : Own w wr X d st) :
    Calls Try.prog 14 #[.pointer (some ⟨d, 0, none⟩)] wr fun x w' => x = .returned (.bool st.off) ∧ wr = w' := by
  obtain ⟨S, h1, _⟩ := h
  exact Off_any wr d S st h1
theorem Read_own (w wr : World) (X : Nat → Prop) (d : Nat) (st : St) (h : Own w wr X d st) (ho : st.off = false) :
    Calls Try.prog 16 #[.pointer (some ⟨d, 0, none⟩)] wr fun x w' => ∃ b a cap, x = .returned (.tuple #[.slice a st.file.length cap, .int .i64 0]) ∧ OwnB 5 w' b a cap st.file ∧ wr.heap.size ≤ b ∧ Own w w' X d st ∧ Kept None wr w' := by
  have h0 := h
  obtain ⟨S, h1, _⟩ := h
  exact (Read_on wr d S st h1 ho).mono fun _ _ ⟨b, a, cap, hx, h2, h3, h4, h5⟩ => ⟨b, a, cap, hx, h2, h3, h0.same h5, h5⟩
theorem Read_own_off (w wr : World) (X : Nat → Prop) (d : Nat) (st : St) (h : Own w wr X d st) (ho : st.off = true) :
    Calls Try.prog 16 #[.pointer (some ⟨d, 0, none⟩)] wr fun x w' => x = .returned (.tuple #[.slice none 0 0, .int .i64 4]) ∧ Own w w' X d st ∧ Kept None wr w' := by
  have h0 := h
  obtain ⟨S, h1, _⟩ := h
  exact (Read_off wr d S st h1 ho).mono fun _ _ ⟨hx, h5⟩ => ⟨hx, h0.same h5, h5⟩
end Go.Proofs.Ytaogpchjkbcjoaa.Dk
