/- A Writer of the call's own. -/
import Derived.Test.YtlgmjkbaihpmmaaGreatWInt
import Derived.Test.YtlgmjkbaihpmmaaGreatWFloat
namespace Go.Proofs.YtlgmjkbaihpmmaaGreat.Pk
open Go Go.RowKit Mem
attribute [local go_sem] run_bits run_frombits
theorem WAt.new (w : World) : WAt (w.alloc (.cells #[.pointer none, .int .i64 0, .bool false] 58)) w.heap.size (Only w.heap.size) [] :=
  ⟨rfl, fun k hk => by cases hk; simp, B8.nil, .inl ⟨heap_alloc_new w _, rfl⟩⟩
/-- A Writer of the call's own (w: the world in which the call began). -/
def OwnW (w wr : World) (bw : Nat) (l : List Nat) : Prop := ∃ S, WAt wr bw S l ∧ (∀ k, S k → w.heap.size ≤ k) ∧ Kept None w wr
theorem OwnW.new (w wr : World) (h : Kept None w wr) : OwnW w (wr.alloc (.cells #[.pointer none, .int .i64 0, .bool false] 58)) wr.heap.size [] :=
  ⟨_, WAt.new wr, fun k hk => by cases hk; exact h.size, h.alloc _⟩
theorem OwnW.put {w wr w' : World} {bw : Nat} {S : Nat → Prop} {l : List Nat} {x : Ending} (hs : ∀ k, S k → w.heap.size ≤ k) (hk : Kept None w wr) (h : Put bw S l wr x w') : x = .returned (.tuple #[]) ∧ OwnW w w' bw l := by
  obtain ⟨hx, h1, h2⟩ := h
  have := hk.size
  exact ⟨hx, _, h1, fun k hk => hk.elim (hs k) (fun h => by omega), hk.trans' h2 (fun x hx => .inr (hs x hx))⟩
theorem OwnW.kept {w wr w' : World} {bw : Nat} {l : List Nat} (h : OwnW w wr bw l) (hk : Kept None wr w') : OwnW w w' bw l := by
  obtain ⟨S, h1, h2, h3⟩ := h
  exact ⟨S, h1.kept hk (fun _ _ h => h), h2, h3.trans hk⟩
theorem OwnW.keeps {w wr : World} {bw : Nat} {l : List Nat} (h : OwnW w wr bw l) : Kept None w wr ∧ B8 l := by obtain ⟨S, h1, h2, h3⟩ := h; exact ⟨h3, h1.2.2.1⟩
theorem WInt_own (w wr : World) (bw : Nat) (l : List Nat) (n : Int) (h : OwnW w wr bw l) (h1 : -9223372036854775808 ≤ n) (h2 : n ≤ 9223372036854775807) (hlen : l.length ≤ 35184372088832) :
    Calls Tryz.prog 20 #[.pointer (some ⟨bw, 0, none⟩), .int .i64 n] wr fun x w' => x = .returned (.tuple #[]) ∧ OwnW w w' bw (l ++ intB n) := by
  obtain ⟨S, hw, hs, hk⟩ := h
  exact (WInt_any bw S l n wr hw h1 h2 hlen).mono fun x w' hp => OwnW.put hs hk hp
theorem WFloat_own (w wr : World) (bw : Nat) (l : List Nat) (x : Nat) (h : OwnW w wr bw l) (hlen : l.length ≤ 35184372088832) :
    Calls Tryz.prog 46 #[.pointer (some ⟨bw, 0, none⟩), .float .f64 x] wr fun x' w' => x' = .returned (.tuple #[]) ∧ OwnW w w' bw (l ++ fltB x) := by
  obtain ⟨S, hw, hs, hk⟩ := h
  exact (WFloat_any bw S l x wr hw hlen).mono fun x w' hp => OwnW.put hs hk hp
/-- what Bytes answers, of a Writer of the call's own -/
def BytesOwn (w wr : World) (bw : Nat) (l : List Nat) (x : Ending) (w' : World) : Prop :=
  ∃ b a cap, x = .returned (.tuple #[.slice a l.length cap, .int .i64 0]) ∧ OwnB 5 w' b a cap l ∧ wr.heap.size ≤ b ∧ b ≤ w'.heap.size ∧ OwnW w w' bw l ∧ Kept None wr w'
theorem WBytes_own (w wr : World) (bw : Nat) (l : List Nat) (h : OwnW w wr bw l) (hlen : l.length ≤ 35184372088832) :
    Calls Tryz.prog 23 #[.pointer (some ⟨bw, 0, none⟩)] wr (BytesOwn w wr bw l) := by
  have h0 := h
  obtain ⟨S, hw, hs, hk⟩ := h
  exact (WBytes_any bw S l wr hw hlen).mono fun x w' ⟨b, a, cap, hx, ho, hb, hb2, hk2⟩ => ⟨b, a, cap, hx, ho, hb, hb2, h0.kept hk2, hk2⟩
end Go.Proofs.YtlgmjkbaihpmmaaGreat.Pk
