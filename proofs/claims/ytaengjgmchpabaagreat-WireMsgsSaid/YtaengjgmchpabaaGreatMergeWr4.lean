import Derived.Test.YtaengjgmchpabaaGreatMergeWr3
import Derived.Test.YtaengjgmchpabaaGreatMergeWr1
import Derived.Deep.QuietTactic
import Derived.BigQuiet
import Derived.Deep.RegionLaw
section
/- Walks of bytes.Clone and of the keeper's Twin. -/
namespace Go.Proofs.YtaengjgmchpabaaGreat.Pk
open Go Go.RowKit Mem

theorem infoU8 : (Tryz.prog.info? 5).map (fun i => (i.zero, i.size, i.bytes)) = some (some (.int .u8 0), 1, 1) := by kernel_rfl
theorem eq_nil (w : World) (a : Option Addr) (n c : Nat) : (binOp .eql 25 (.slice a n c) (.slice none 0 0)).run Tryz.prog w = .ok (.bool a.isNone) w := run_eql_nil w _ _ a n c Tryz.underlying25
attribute [local go_sem] eq_nil
/-- new bytes: in a block that was not there, or nil -/
def NewB (l : List Nat) (w : World) (x : Ending) (w' : World) : Prop :=
  ∃ b a cap, x = .returned (.slice a l.length cap) ∧ OwnB 5 w' b a cap l ∧ w.heap.size ≤ b ∧ Kept None w w' ∧ b ≤ w'.heap.size
theorem Of.none {b : Nat} : ∀ k, Of none b k → None k := fun _ h => absurd rfl h.1
set_option maxHeartbeats 400000 in
theorem Clone_any (b : Nat) (a : Option Addr) (cap : Nat) (l : List Nat) (w : World) (h : Src w b a cap l) (hl : l.length ≤ 35184372088832) :
    Calls Tryz.prog 67 #[.slice a l.length cap] w (NewB l w) := by
  obtain ⟨i0, hi, hz0, hz1, hz2⟩ := info_parts infoU8
  have HS := Lib.hid h
  cases a with
  | none =>
    obtain ⟨rfl, rfl⟩ := h.bare
    clear h
    go_enter Tryz.func67, Tryz.ntmps67
    go_wp2
    go_ret
    exact ⟨w.heap.size, none, 0, rfl, .inl ⟨rfl, rfl, rfl⟩, Nat.le_refl _, Kept.refl _ _, Nat.le_refl _⟩
  | some ad =>
    have own0 : OwnB 5 (w.alloc (.cells #[] 5)) w.heap.size (some ⟨w.heap.size, 0, none⟩) 0 [] := own_new (Nat.le_refl _) (by decide) rfl rfl
    clear h
    go_enter Tryz.func67, Tryz.ntmps67
    go_wp2_with (at_builtin; refine wpList_append_bytes rfl _ _ 25 rfl 5 i0 Tryz.underlying25 hi hz0 hz1 hz2 _ _ _ [] 0 rfl own0 rfl b _ cap l _ rfl (HS.out.kept ((Kept.refl None _).alloc _) (fun _ h => h)) rfl (by omega) ?_)
    intro b' a' cap' w' h2 h3 h4 h5
    try simp only [List.nil_append] at h2
    have HO := Lib.hid h2
    clear h2
    go_wp2
    go_ret
    have k0 : Kept None w (w.alloc (.cells #[] 5)) := (Kept.refl _ _).alloc _
    have hsz : (w.alloc (.cells #[] 5)).heap.size = w.heap.size + 1 := by simp
    have k1 : Kept None w w' := k0.trans' h3 (fun k hk => .inr (by rw [hk.2]; exact Nat.le_refl _))
    have hb' : w.heap.size ≤ b' := by rcases h4 with ⟨rfl, _⟩ | h4 <;> omega
    refine ⟨b', a', cap', rfl, HO.out, hb', k1, ?_⟩
    by_cases ha : a' = none
    · rcases h4 with ⟨rfl, _⟩ | h4
      · exact k1.size
      · exact (h5 ha).elim
    · exact Nat.le_of_lt (HO.out.lt ha)
set_option maxHeartbeats 400000 in
theorem Twin_any (b : Nat) (a : Option Addr) (cap : Nat) (l : List Nat) (w : World) (h : Src w b a cap l) (hl : l.length ≤ 35184372088832) :
    Calls Tryz.prog 8 #[.slice a l.length cap] w (NewB l w) := by
  obtain ⟨i0, hi, hz0, hz1, hz2⟩ := info_parts infoU8
  have HS := Lib.hid h
  have own0 : OwnB 5 w w.heap.size none 0 [] := OwnB.nil _ _ _
  clear h
  go_enter Tryz.func8, Tryz.ntmps8
  go_wp2_with (at_builtin; refine wpList_append_bytes rfl _ _ 25 rfl 5 i0 Tryz.underlying25 hi hz0 hz1 hz2 _ _ _ [] 0 rfl own0 rfl b _ cap l _ rfl HS.out rfl (by omega) ?_)
  intro b' a' cap' w' h2 h3 h4 h5
  try simp only [List.nil_append] at h2
  have HO := Lib.hid h2
  clear h2
  go_wp2
  go_ret
  have k1 : Kept None w w' := h3.mono Of.none
  by_cases ha : a' = none
  · subst ha
    exact ⟨w.heap.size, none, cap', rfl, HO.out.move _, Nat.le_refl _, k1, k1.size⟩
  · have hb' : w.heap.size ≤ b' := by rcases h4 with ⟨rfl, _⟩ | h4 <;> omega
    exact ⟨b', a', cap', rfl, HO.out, hb', k1, Nat.le_of_lt (HO.out.lt ha)⟩
/-- a new Reader -/
def NewR (l : List Nat) (w : World) (x : Ending) (w' : World) : Prop :=
  ∃ br bs, x = .returned (.pointer (some ⟨br, 0, none⟩)) ∧ RAt w' br bs l 0 ∧ w.heap.size ≤ br ∧ w.heap.size ≤ bs ∧ Kept None w w'
theorem RAt.of_new {w1 : World} {b : Nat} {a : Option Addr} {cap : Nat} {l : List Nat} (h : OwnB 5 w1 b a cap l) (h8 : B8 l) (hb : a ≠ none → b ≠ w1.heap.size) :
    ∃ bs, RAt (w1.alloc (.cells #[.slice a l.length cap, .int .i64 0] 111)) w1.heap.size bs l 0 ∧ (bs = b ∨ bs = w1.heap.size + 1) := by
  have k : Kept None w1 (w1.alloc (.cells #[.slice a l.length cap, .int .i64 0] 111)) := (Kept.refl _ _).alloc _
  rcases h with ⟨rfl, rfl, rfl⟩ | h
  · exact ⟨w1.heap.size + 1, ⟨none, 0, heap_alloc_new w1 _, ⟨Nat.le_refl _, by decide, .inl ⟨rfl, rfl, rfl⟩⟩, h8, by omega, fun h => absurd rfl h⟩, .inr rfl⟩
  · have ho : OwnB 5 w1 b a cap l := .inr h
    exact ⟨b, ⟨a, cap, heap_alloc_new w1 _, ho.shows.kept k (fun _ h => h), h8, fun e => hb (by rw [h.1]; simp) e.symm, fun h => absurd rfl h⟩, .inl rfl⟩
set_option maxHeartbeats 400000 in
theorem NewReader_any (b : Nat) (a : Option Addr) (cap : Nat) (l : List Nat) (w : World) (h : Src w b a cap l) (hl : l.length ≤ 35184372088832) (h8 : B8 l) :
    Calls Tryz.prog 49 #[.slice a l.length cap] w (NewR l w) := by
  have HS := Lib.hid h
  have H8 := Lib.hid h8
  clear h h8
  go_enter Tryz.func49, Tryz.ntmps49
  go_wp2_with (go_at_call 67; refine (Clone_any b a cap l w HS.out hl).mono ?_; rintro x w1 ⟨b1, a1, cap1, rfl, ho, hb1, k1, hb2⟩; have HO := Lib.hid ho; clear ho)
  go_ret
  obtain ⟨bs, hr, hbs⟩ := RAt.of_new HO.out H8.out (fun ha => by have := HO.out.lt ha; omega)
  have := k1.size
  exact ⟨_, bs, rfl, hr, by omega, by omega, k1.alloc _⟩
set_option maxHeartbeats 1000000 in
theorem Clone_nil (w : World) : Calls Tryz.prog 67 #[.slice none 0 0] w fun x w' => x = .returned (.slice none 0 0) ∧ w = w' := by
  go_enter Tryz.func67, Tryz.ntmps67
  go_wp2
  go_ret
  exact ⟨rfl, rfl⟩
end Go.Proofs.YtaengjgmchpabaaGreat.Pk
end
section
/- The Writer: what it holds, and its put. -/
namespace Go.Proofs.YtaengjgmchpabaaGreat.Pk
open Go Go.RowKit Mem

/-- A Writer at block bw, whose memory lies in the blocks of S: it holds the bytes l. -/
def WAt (w : World) (bw : Nat) (S : Nat → Prop) (l : List Nat) : Prop :=
  S bw ∧ (∀ k, S k → k < w.heap.size) ∧ B8 l ∧
  ∃ T : TypeId, ((w.heap[bw]? = some (.cells #[.pointer none, .int .i64 0, .bool false] T (0, 0)) ∧ l = []) ∨
   ∃ bp bd a cap, w.heap[bw]? = some (.cells #[.pointer (some ⟨bp, 0, none⟩), .int .i64 l.length, .bool false] T (0, 0)) ∧ w.heap[bp]? = some (.cells #[.slice a l.length cap] 25 (0, 0)) ∧
     OwnB 5 w bd a cap l ∧ S bp ∧ (a ≠ none → S bd) ∧ bw ≠ bp ∧ bd ≠ bw ∧ bd ≠ bp)
/-- the same blocks, and those that are new -/
def Grow (S : Nat → Prop) (w w' : World) : Nat → Prop := fun k => S k ∨ (w.heap.size ≤ k ∧ k < w'.heap.size)
theorem WAt.kept {w w' : World} {bw : Nat} {S T : Nat → Prop} {l : List Nat} (h : WAt w bw S l) (hk : Kept T w w') (hd : ∀ k, S k → ¬ T k) : WAt w' bw S l := by
  obtain ⟨h1, h2, h8, h3⟩ := h
  refine ⟨h1, fun k hs => Nat.lt_of_lt_of_le (h2 k hs) hk.size, h8, ?_⟩
  rcases h3 with ⟨T, ⟨hh, hl⟩ | ⟨bp, bd, a, cap, hh, hp, ho, sp, sd, n1, n2, n3⟩⟩
  · exact ⟨T, .inl ⟨hk.heap hh (hd _ h1), hl⟩⟩
  · exact ⟨T, .inr ⟨bp, bd, a, cap, hk.heap hh (hd _ h1), hk.heap hp (hd _ sp), ho.kept hk (fun ha => hd _ (sd ha)), sp, sd, n1, n2, n3⟩⟩
attribute [local go_sem] eq_nil

set_option maxHeartbeats 1000000 in
theorem written_nil {T : TypeId} (bw : Nat) (w : World) (hh : w.heap[bw]? = some (.cells #[.pointer none, .int .i64 0, .bool false] T (0, 0))) :
    Calls Tryz.prog 68 #[.pointer (some ⟨bw, 0, none⟩)] w fun x w' => x = .returned (.slice none 0 0) ∧ w = w' := by
  have c0 := cell_heap hh 0
  simp at c0
  clear hh
  go_enter Tryz.func68, Tryz.ntmps68
  go_wp2
  go_ret
  exact ⟨rfl, rfl⟩
/-- what written answers: the bytes themselves -/
def Wrote (l : List Nat) (a : Option Addr) (cap : Nat) (w : World) (x : Ending) (w' : World) : Prop := x = .returned (.slice a l.length cap) ∧ ∃ n, w' = w.drewN n
set_option maxHeartbeats 1000000 in
theorem written_some {T : TypeId} (bw bp : Nat) (a : Option Addr) (cap : Nat) (l : List Nat) (w : World) (hh : w.heap[bw]? = some (.cells #[.pointer (some ⟨bp, 0, none⟩), .int .i64 l.length, .bool false] T (0, 0))) (hp : w.heap[bp]? = some (.cells #[.slice a l.length cap] 25 (0, 0)))
    (hl : l.length ≤ cap) :
    Calls Tryz.prog 68 #[.pointer (some ⟨bw, 0, none⟩)] w (Wrote l a cap w) := by
  have c0 := cell_heap hh 0
  have c1 := cell_heap hh 1
  have p0 := cell_heap hp 0
  simp at c0 c1 p0
  clear hh hp
  cases a
  all_goals
    go_enter Tryz.func68, Tryz.ntmps68
    go_wp2
    go_quiet (fail)
    go_wp2
    go_ret
    exact ⟨rfl, _, rfl⟩
end Go.Proofs.YtaengjgmchpabaaGreat.Pk
end
