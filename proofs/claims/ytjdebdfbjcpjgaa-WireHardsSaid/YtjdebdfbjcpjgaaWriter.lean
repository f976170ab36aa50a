/- The Writer: what it holds, and its put. -/
import Derived.Test.YtjdebdfbjcpjgaaClone
import Derived.Deep.QuietTactic
import Derived.BigQuiet
import Derived.Deep.RegionLaw
namespace Go.Proofs.Ytjdebdfbjcpjgaa.Pk
open Go Go.RowKit Mem

/-- A Writer at block bw, whose memory lies in the blocks of S: it holds the bytes l. -/
def WAt (w : World) (bw : Nat) (S : Nat → Prop) (l : List Nat) : Prop :=
  S bw ∧ (∀ k, S k → k < w.heap.size) ∧ B8 l ∧
  ∃ T : TypeId, ((w.heap[bw]? = some (.cells #[.pointer none, .int .i64 0, .bool false] T (0, 0)) ∧ l = []) ∨
   ∃ bp bd a cap, w.heap[bw]? = some (.cells #[.pointer (some ⟨bp, 0, none⟩), .int .i64 l.length, .bool false] T (0, 0)) ∧ w.heap[bp]? = some (.cells #[.slice a l.length cap] 33 (0, 0)) ∧
     OwnB 5 w bd a cap l ∧ S bp ∧ (a ≠ none → S bd) ∧ bw ≠ bp ∧ bd ≠ bw ∧ bd ≠ bp)
/-- the same blocks, and those that are new -/
def Grow (S : Nat → Prop) (w w' : World) : Nat → Prop := fun k => S k ∨ (w.heap.size ≤ k ∧ k < w'.heap.size)
theorem WAt.kept {w w' : World} {bw : Nat} {S T : Nat → Prop} {l : List Nat} (h : WAt w bw S l) (hk : Kept T w w') (hd : ∀ k, S k → ¬ T k) : WAt w' bw S l := by
  obtain ⟨h1, h2, h8, h3⟩ := h
  refine ⟨h1, fun k hs => Nat.lt_of_lt_of_le (h2 k hs) hk.size, h8, ?_⟩
  rcases h3 with ⟨T, ⟨hh, hl⟩ | ⟨bp, bd, a, cap, hh, hp, ho, sp, sd, n1, n2, n3⟩⟩
  · exact ⟨T, .inl ⟨hk.heap hh (hd _ h1), hl⟩⟩
  · exact ⟨T, .inr ⟨bp, bd, a, cap, hk.heap hh (hd _ h1), hk.heap hp (hd _ sp), ho.kept hk (fun ha => hd _ (sd ha)), sp, sd, n1, n2, n3⟩⟩
attribute [local go_sem] eq_nil

set_option maxHeartbeats 1000000 in
theorem written_nil {T : TypeId} (bw : Nat) (w : World) (hh : w.heap[bw]? = some (.cells #[.pointer none, .int .i64 0, .bool false] T (0, 0))) :
    Calls Try.prog 98 #[.pointer (some ⟨bw, 0, none⟩)] w fun x w' => x = .returned (.slice none 0 0) ∧ w = w' := by
  have c0 := cell_heap hh 0
  simp at c0
  clear hh
  go_enter Try.func98, Try.ntmps98
  go_wp2
  go_ret
  exact ⟨rfl, rfl⟩
/-- what written answers: the bytes themselves -/
def Wrote (l : List Nat) (a : Option Addr) (cap : Nat) (w : World) (x : Ending) (w' : World) : Prop := x = .returned (.slice a l.length cap) ∧ ∃ n, w' = w.drewN n
set_option maxHeartbeats 1000000 in
theorem written_some {T : TypeId} (bw bp : Nat) (a : Option Addr) (cap : Nat) (l : List Nat) (w : World) (hh : w.heap[bw]? = some (.cells #[.pointer (some ⟨bp, 0, none⟩), .int .i64 l.length, .bool false] T (0, 0))) (hp : w.heap[bp]? = some (.cells #[.slice a l.length cap] 33 (0, 0)))
    (hl : l.length ≤ cap) :
    Calls Try.prog 98 #[.pointer (some ⟨bw, 0, none⟩)] w (Wrote l a cap w) := by
  have c0 := cell_heap hh 0
  have c1 := cell_heap hh 1
  have p0 := cell_heap hp 0
  simp at c0 c1 p0
  clear hh hp
  cases a
  all_goals
    go_enter Try.func98, Try.ntmps98
    go_wp2
    go_quiet (fail)
    go_wp2
    go_ret
    exact ⟨rfl, _, rfl⟩
end Go.Proofs.Ytjdebdfbjcpjgaa.Pk
