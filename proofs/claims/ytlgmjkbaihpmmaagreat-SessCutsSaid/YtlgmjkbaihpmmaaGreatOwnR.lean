/- A Reader of the call's own: each method, as one step. -/
import Derived.Test.YtlgmjkbaihpmmaaGreatOwnW
import Derived.Test.YtlgmjkbaihpmmaaGreatReader2
namespace Go.Proofs.YtlgmjkbaihpmmaaGreat.Pk
open Go Go.RowKit Mem
def OwnR (w wr : World) (br : Nat) (l : List Nat) (e : Int) : Prop := ∃ bs, RAt wr br bs l e ∧ w.heap.size ≤ br ∧ w.heap.size ≤ bs ∧ Kept None w wr
def intOut (l : List Nat) (e : Int) : Int × List Nat × Int := match rdInt l with | some (n, r) => (n, r, e) | none => (0, [], keep e 3)
def markOut (l : List Nat) (e : Int) : Bool × List Nat × Int := match rdMark l with | some (n, r) => (n, r, e) | none => (false, [], keep e 3)
def fltOut (l : List Nat) (e : Int) : Nat × List Nat × Int := match rdFlt l with | some (n, r) => (n, r, e) | none => (0, [], keep e 3)
theorem OwnR.keeps {w wr : World} {br : Nat} {l : List Nat} {e : Int} (h : OwnR w wr br l e) : Kept None w wr ∧ B8 l ∧ (e ≠ 0 → l = []) := by obtain ⟨_, h1, _, _, h2⟩ := h; exact ⟨h2, h1.len⟩
theorem OwnR.kept {w wr w' : World} {br : Nat} {l : List Nat} {e : Int} (h : OwnR w wr br l e) (hk : Kept None wr w') : OwnR w w' br l e := by
  obtain ⟨bs, h1, h2, h3, h4⟩ := h
  exact ⟨bs, h1.kept hk (fun h => h) (fun _ h => h), h2, h3, h4.trans hk⟩
theorem OwnR.step {w wr w' : World} {br bs : Nat} {l : List Nat} {e : Int} (h1 : RAt w' br bs l e) (h2 : w.heap.size ≤ br) (h3 : w.heap.size ≤ bs) (h4 : Kept None w wr) (hk : Kept (Only br) wr w') : OwnR w w' br l e :=
  ⟨bs, h1, h2, h3, h4.trans' hk (fun x hx => .inr (by cases hx; exact h2))⟩
theorem NewReader_own (w wr : World) (hk : Kept None w wr) (b : Nat) (a : Option Addr) (cap : Nat) (l : List Nat) (h : Src wr b a cap l) (hl : l.length ≤ 35184372088832) (h8 : B8 l) :
    Calls Tryz.prog 31 #[.slice a l.length cap] wr fun x w' => ∃ br, x = .returned (.pointer (some ⟨br, 0, none⟩)) ∧ OwnR w w' br l 0 ∧ Kept None wr w' :=
  (NewReader_any b a cap l wr h hl h8).mono fun _ _ ⟨br, bs, hx, hr, h1, h2, hk2⟩ => ⟨br, hx, ⟨bs, hr, Nat.le_trans hk.size h1, Nat.le_trans hk.size h2, hk.trans hk2⟩, hk2⟩
theorem RInt_own (w wr : World) (br : Nat) (l : List Nat) (e : Int) (h : OwnR w wr br l e) (hl : l.length ≤ 35184372088832) :
    Calls Tryz.prog 53 #[.pointer (some ⟨br, 0, none⟩)] wr fun x w' => x = .returned (.int .i64 (intOut l e).1) ∧ OwnR w w' br (intOut l e).2.1 (intOut l e).2.2 := by
  obtain ⟨bs, h1, h2, h3, h4⟩ := h
  refine (RInt_any br bs l e wr h1 hl).mono fun x w' hp => ?_
  unfold IntPost at hp
  unfold intOut
  cases hd : rdInt l with
  | none => rw [hd] at hp; exact ⟨hp.1, OwnR.step hp.2.1 h2 h3 h4 hp.2.2⟩
  | some p => rw [hd] at hp; exact ⟨hp.1, OwnR.step hp.2.1 h2 h3 h4 hp.2.2⟩
theorem RFloat_own (w wr : World) (br : Nat) (l : List Nat) (e : Int) (h : OwnR w wr br l e) :
    Calls Tryz.prog 78 #[.pointer (some ⟨br, 0, none⟩)] wr fun x w' => x = .returned (.float .f64 (fltOut l e).1) ∧ OwnR w w' br (fltOut l e).2.1 (fltOut l e).2.2 := by
  obtain ⟨bs, h1, h2, h3, h4⟩ := h
  refine (RFloat_any br bs l e wr h1).mono fun x w' hp => ?_
  unfold FltPost at hp
  unfold fltOut
  cases hd : rdFlt l with
  | none => rw [hd] at hp; exact ⟨hp.1, OwnR.step hp.2.1 h2 h3 h4 hp.2.2⟩
  | some p => rw [hd] at hp; exact ⟨hp.1, OwnR.step hp.2.1 h2 h3 h4 hp.2.2⟩
/-- what Text answers, of a Reader of the call's own -/
def TextOwn (w wr : World) (br : Nat) (l : List Nat) (e : Int) (x : Ending) (w' : World) : Prop :=
  ∃ b a cap, x = .returned (.slice a (textOut l e).1.length cap) ∧ OwnB 5 w' b a cap (textOut l e).1 ∧ wr.heap.size ≤ b ∧ b ≤ w'.heap.size ∧ OwnR w w' br (textOut l e).2.1 (textOut l e).2.2 ∧ Kept (Only br) wr w'
theorem RText_own (w wr : World) (br : Nat) (l : List Nat) (e : Int) (h : OwnR w wr br l e) (hl : l.length ≤ 35184372088832) :
    Calls Tryz.prog 54 #[.pointer (some ⟨br, 0, none⟩)] wr (TextOwn w wr br l e) := by
  obtain ⟨bs, h1, h2, h3, h4⟩ := h
  exact (RText_any br bs l e wr h1 hl).mono fun x w' ⟨b, a, cap, hx, ho, hb, hb2, hr, hk⟩ => ⟨b, a, cap, hx, ho, hb, hb2, OwnR.step hr h2 h3 h4 hk, hk⟩
end Go.Proofs.YtlgmjkbaihpmmaaGreat.Pk
