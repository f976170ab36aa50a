/- A Reader and a Writer of the call's own, side by side. -/
import Derived.Test.YtjlpmmbmjkbdiaaFloats
import Derived.Test.YtjlpmmbmjkbdiaaOpenB
namespace Go.Proofs.Ytjlpmmbmjkbdiaa.Pk
open Go Go.RowKit Mem
def Both (w wr : World) (br bw : Nat) (r : List Nat) (e : Int) (l : List Nat) : Prop :=
  ∃ bs S, RAt wr br bs r e ∧ WAt wr bw S l ∧ ¬ S br ∧ (r ≠ [] → ¬ S bs) ∧ w.heap.size ≤ br ∧ (∀ k, S k → w.heap.size ≤ k) ∧ Kept None w wr
theorem Both.keeps {w wr : World} {br bw : Nat} {r l : List Nat} {e : Int} (h : Both w wr br bw r e l) : Kept None w wr ∧ B8 r ∧ B8 l := by
  obtain ⟨bs, S, h1, h2, _, _, _, _, h3⟩ := h; exact ⟨h3, h1.len.1, h2.2.2.1⟩
theorem Both.start {w wr : World} {br : Nat} {r : List Nat} {e : Int} (h : OwnR w wr br r e) : Both w (wr.alloc (.cells #[.pointer none, .int .i64 0, .bool false] 27)) br wr.heap.size r e [] := by
  obtain ⟨bs, h1, h2, h3, h4⟩ := h
  have hbr : br < wr.heap.size := by obtain ⟨_, _, hh, _⟩ := h1; exact lt_of_heap hh
  refine ⟨bs, Only wr.heap.size, h1.kept ((Kept.refl None _).alloc _) (fun h => h) (fun _ h => h), WAt.new wr, fun h => ?_, fun hr h => ?_, h2, fun k hk => ?_, h4.alloc _⟩
  · have : br = wr.heap.size := h
    omega
  · have : bs = wr.heap.size := h
    obtain ⟨_, _, _, hs, _⟩ := h1
    have := hs.lt hr
    omega
  · cases hk; exact h4.size
theorem Both.read {w wr w' : World} {br bw bs : Nat} {S : Nat → Prop} {r r' l : List Nat} {e' : Int} (h2 : WAt wr bw S l) (h3 : ¬ S br) (h4 : r ≠ [] → ¬ S bs) (h5 : w.heap.size ≤ br) (h6 : ∀ k, S k → w.heap.size ≤ k) (h7 : Kept None w wr)
    (hr : RAt w' br bs r' e') (hk : Kept (Only br) wr w') (hrr : r' ≠ [] → r ≠ []) : Both w w' br bw r' e' l :=
  ⟨bs, S, hr, h2.kept hk (fun k hs e => h3 (by cases e; exact hs)), h3, fun h => h4 (hrr h), h5, h6, h7.trans' hk (fun x hx => .inr (by cases hx; exact h5))⟩
theorem Both.write {w wr w' : World} {br bw bs : Nat} {S : Nat → Prop} {r l' : List Nat} {e : Int} {x : Ending} (h1 : RAt wr br bs r e) (h3 : ¬ S br) (h4 : r ≠ [] → ¬ S bs) (h5 : w.heap.size ≤ br) (h6 : ∀ k, S k → w.heap.size ≤ k) (h7 : Kept None w wr)
    (h : Put bw S l' wr x w') : x = .returned (.tuple #[]) ∧ Both w w' br bw r e l' := by
  obtain ⟨hx, hw, hk⟩ := h
  have hbr : br < wr.heap.size := by obtain ⟨_, _, hh, _⟩ := h1; exact lt_of_heap hh
  have hbs : r ≠ [] → bs < wr.heap.size := by obtain ⟨_, _, _, hs, _⟩ := h1; exact hs.lt
  have := h7.size
  exact ⟨hx, bs, _, h1.kept hk h3 h4, hw, fun h => h.elim h3 (fun h => by omega), fun hr h => h.elim (h4 hr) (fun h => by have := hbs hr; omega), h5, fun k hk => hk.elim (h6 k) (fun h => by omega), h7.trans' hk (fun x hx => .inr (h6 x hx))⟩

theorem intOut_rest (l : List Nat) (e : Int) : (intOut l e).2.1 ≠ [] → l ≠ [] := by
  intro h e2; subst e2; exact h (by unfold intOut rdInt; simp [dec])
theorem markOut_rest (l : List Nat) (e : Int) : (markOut l e).2.1 ≠ [] → l ≠ [] := by
  intro h e2; subst e2; exact h (by unfold markOut rdMark; simp)
theorem fltOut_rest (l : List Nat) (e : Int) : (fltOut l e).2.1 ≠ [] → l ≠ [] := by
  intro h e2; subst e2; exact h (by unfold fltOut rdFlt; simp)
theorem textOut_rest (l : List Nat) (e : Int) : (textOut l e).2.1 ≠ [] → l ≠ [] := by
  intro h e2; subst e2; exact h (by unfold textOut rdText rdInt; simp [dec])

section
variable (w wr : World) (br bw : Nat) (r : List Nat) (e : Int) (l : List Nat) (h : Both w wr br bw r e l)
include h
theorem RInt_both (hl : r.length ≤ 35184372088832) : Calls Try.prog 22 #[.pointer (some ⟨br, 0, none⟩)] wr fun x w' => x = .returned (.int .i64 (intOut r e).1) ∧ Both w w' br bw (intOut r e).2.1 (intOut r e).2.2 l := by
  obtain ⟨bs, S, h1, h2, h3, h4, h5, h6, h7⟩ := h
  refine (RInt_any br bs r e wr h1 hl).mono fun x w' hp => ?_
  have hrr := intOut_rest r e
  unfold IntPost at hp
  unfold intOut at hrr ⊢
  cases hd : rdInt r with
  | none => rw [hd] at hp hrr; exact ⟨hp.1, Both.read h2 h3 h4 h5 h6 h7 hp.2.1 hp.2.2 hrr⟩
  | some p => rw [hd] at hp hrr; exact ⟨hp.1, Both.read h2 h3 h4 h5 h6 h7 hp.2.1 hp.2.2 hrr⟩
theorem RMark_both : Calls Try.prog 24 #[.pointer (some ⟨br, 0, none⟩)] wr fun x w' => x = .returned (.bool (markOut r e).1) ∧ Both w w' br bw (markOut r e).2.1 (markOut r e).2.2 l := by
  obtain ⟨bs, S, h1, h2, h3, h4, h5, h6, h7⟩ := h
  refine (RMark_any br bs r e wr h1).mono fun x w' hp => ?_
  have hrr := markOut_rest r e
  unfold MarkPost at hp
  unfold markOut at hrr ⊢
  cases hd : rdMark r with
  | none => rw [hd] at hp hrr; exact ⟨hp.1, Both.read h2 h3 h4 h5 h6 h7 hp.2.1 hp.2.2 hrr⟩
  | some p => rw [hd] at hp hrr; exact ⟨hp.1, Both.read h2 h3 h4 h5 h6 h7 hp.2.1 hp.2.2 hrr⟩
theorem RFloat_both : Calls Try.prog 26 #[.pointer (some ⟨br, 0, none⟩)] wr fun x w' => x = .returned (.float .f64 (fltOut r e).1) ∧ Both w w' br bw (fltOut r e).2.1 (fltOut r e).2.2 l := by
  obtain ⟨bs, S, h1, h2, h3, h4, h5, h6, h7⟩ := h
  refine (RFloat_any br bs r e wr h1).mono fun x w' hp => ?_
  have hrr := fltOut_rest r e
  unfold FltPost at hp
  unfold fltOut at hrr ⊢
  cases hd : rdFlt r with
  | none => rw [hd] at hp hrr; exact ⟨hp.1, Both.read h2 h3 h4 h5 h6 h7 hp.2.1 hp.2.2 hrr⟩
  | some p => rw [hd] at hp hrr; exact ⟨hp.1, Both.read h2 h3 h4 h5 h6 h7 hp.2.1 hp.2.2 hrr⟩
theorem WInt_both (n : Int) (h1 : -9223372036854775808 ≤ n) (h2 : n ≤ 9223372036854775807) (hlen : l.length ≤ 35184372088832) : Calls Try.prog 21 #[.pointer (some ⟨bw, 0, none⟩), .int .i64 n] wr fun x w' => x = .returned (.tuple #[]) ∧ Both w w' br bw r e (l ++ intB n) := by
  obtain ⟨bs, S, r1, r2, r3, r4, r5, r6, r7⟩ := h
  exact (WInt_any bw S l n wr r2 h1 h2 hlen).mono fun x w' hp => Both.write r1 r3 r4 r5 r6 r7 hp
theorem WMark_both (b : Bool) (hlen : l.length ≤ 35184372088832) : Calls Try.prog 23 #[.pointer (some ⟨bw, 0, none⟩), .bool b] wr fun x w' => x = .returned (.tuple #[]) ∧ Both w w' br bw r e (l ++ markB b) := by
  obtain ⟨bs, S, r1, r2, r3, r4, r5, r6, r7⟩ := h
  exact (WMark_any bw S l b wr r2 hlen).mono fun x w' hp => Both.write r1 r3 r4 r5 r6 r7 hp
theorem WFloat_both (x : Nat) (hlen : l.length ≤ 35184372088832) : Calls Try.prog 25 #[.pointer (some ⟨bw, 0, none⟩), .float .f64 x] wr fun x' w' => x' = .returned (.tuple #[]) ∧ Both w w' br bw r e (l ++ fltB x) := by
  obtain ⟨bs, S, r1, r2, r3, r4, r5, r6, r7⟩ := h
  exact (WFloat_any bw S l x wr r2 hlen).mono fun x w' hp => Both.write r1 r3 r4 r5 r6 r7 hp
theorem Done_both : Calls Try.prog 20 #[.pointer (some ⟨br, 0, none⟩)] wr fun e' w' => e' = .returned (.int .i64 (doneOf r e)) ∧ wr = w' := by
  obtain ⟨bs, S, h1, _⟩ := h
  exact Done_any br bs r e wr h1
theorem WBytes_both (hlen : l.length ≤ 35184372088832) : Calls Try.prog 15 #[.pointer (some ⟨bw, 0, none⟩)] wr (BytesPost l wr) := by
  obtain ⟨bs, S, _, h2, _⟩ := h
  exact WBytes_any bw S l wr h2 hlen
/-- what Text answers, beside a Writer: bytes that can be written -/
def TextBoth (w : World) (br bw : Nat) (o : List Nat × List Nat × Int) (l : List Nat) (x : Ending) (w' : World) : Prop :=
  ∃ a cap, x = .returned (.slice a o.1.length cap) ∧ ∃ b bs S, OwnB 5 w' b a cap o.1 ∧ ¬ S b ∧ (RAt w' br bs o.2.1 o.2.2 ∧ WAt w' bw S l ∧ ¬ S br ∧ (o.2.1 ≠ [] → ¬ S bs) ∧ w.heap.size ≤ br ∧ (∀ k, S k → w.heap.size ≤ k) ∧ Kept None w w')
theorem RText_both (hl : r.length ≤ 35184372088832) : Calls Try.prog 28 #[.pointer (some ⟨br, 0, none⟩)] wr (TextBoth w br bw (textOut r e) l) := by
  obtain ⟨bs, S, h1, h2, h3, h4, h5, h6, h7⟩ := h
  refine (RText_any br bs r e wr h1 hl).mono fun x w' ⟨b, a, cap, hx, ho, hb, _, hr, hk⟩ => ?_
  exact ⟨a, cap, hx, b, bs, S, ho, fun hs => by have := h2.2.1 b hs; omega, hr, h2.kept hk (fun k hs e => h3 (by cases e; exact hs)), h3, fun h => h4 (textOut_rest r e h), h5, h6, h7.trans' hk (fun x hx => .inr (by cases hx; exact h5))⟩
end
theorem WText_both (w w' : World) (br bw : Nat) (o : List Nat × List Nat × Int) (l : List Nat) (a : Option Addr) (cap : Nat)
    (h : ∃ b bs S, OwnB 5 w' b a cap o.1 ∧ ¬ S b ∧ (RAt w' br bs o.2.1 o.2.2 ∧ WAt w' bw S l ∧ ¬ S br ∧ (o.2.1 ≠ [] → ¬ S bs) ∧ w.heap.size ≤ br ∧ (∀ k, S k → w.heap.size ≤ k) ∧ Kept None w w'))
    (h8 : B8 o.1) (h16 : o.1.length ≤ 16384) (hlen : l.length ≤ 35184372088832) :
    Calls Try.prog 27 #[.pointer (some ⟨bw, 0, none⟩), .slice a o.1.length cap] w' fun x w2 => x = .returned (.tuple #[]) ∧ Both w w2 br bw o.2.1 o.2.2 (l ++ textB o.1) := by
  obtain ⟨b, bs, S, ho, hb, r1, r2, r3, r4, r5, r6, r7⟩ := h
  exact (WText_any bw S l w' r2 b a cap o.1 ho.src (fun _ => hb) h8 h16 hlen).mono fun x w' hp => Both.write r1 r3 r4 r5 r6 r7 hp
end Go.Proofs.Ytjlpmmbmjkbdiaa.Pk
