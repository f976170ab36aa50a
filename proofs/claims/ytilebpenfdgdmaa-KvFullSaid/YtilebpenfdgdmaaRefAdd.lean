/- The reference's Add and Max, whole. -/
import Derived.Test.YtilebpenfdgdmaaRefJoin
namespace Go.Proofs.Ytilebpenfdgdmaa.Vl
open Go Go.RowKit Go.Proofs.Ytilebpenfdgdmaa.Nm
attribute [local go_sem] run_bits run_frombits run_store_float

theorem alloc_here {w : World} {n : Nat} (o : Obj) (h : n = w.heap.size) : (w.alloc o).heap[n]? = some o := by
  subst h
  show (w.heap.push o)[w.heap.size]? = some o
  simp
theorem cells3 {w : World} {b : Nat} {x y z : Value} {t : TypeId} (h : w.heap[b]? = some (.cells #[x, y, z] t)) :
    w.cell? ⟨b, 0, none⟩ = some x ∧ w.cell? ⟨b, 1, none⟩ = some y ∧ w.cell? ⟨b, 2, none⟩ = some z ∧ w.frozen? ⟨b, 0, none⟩ = false ∧ w.frozen? ⟨b, 1, none⟩ = false ∧ w.frozen? ⟨b, 2, none⟩ = false := by
  refine ⟨?_, ?_, ?_, ?_, ?_, ?_⟩ <;> simp [World.cell?, World.frozen?, h]
/-- what is told of two values joined -/
def JoinTold (f : Nat → Nat → Nat) (a b : V) (w : World) (e : Ending) (w' : World) : Prop :=
  e = .returned (.tuple #[(joined f a b).1.val, .int .i64 (joined f a b).2]) ∧ Below w.heap.size w w'
theorem join_any (a b : V) (add : Bool) (ha : a.num < 18446744073709551616) (hb : b.num < 18446744073709551616) (w : World) :
    Calls Try.prog 41 #[a.val, b.val, .bool add] w (JoinTold (if add = true then sumC else maxF) a b w) := by
  unfold JoinTold joined
  by_cases h1 : a.check = 0
  · by_cases h2 : b.check = 0
    · rw [if_neg (by omega), if_neg (by omega)]
      by_cases k0 : a.kind = 0
      · rw [if_pos k0]; exact join_none a b add h1 h2 k0 w
      · rw [if_neg k0]
        by_cases k1 : a.kind = 1
        · by_cases k2 : b.kind = 1
          · rw [if_neg (by omega)]
            cases add
            · exact join_max a b h1 h2 k1 k2 ha hb w
            · exact join_add a b h1 h2 k1 k2 w
          · rw [if_pos (.inr k2)]; exact join_unlike_b a b add h1 h2 k1 k2 w
        · rw [if_pos (.inl k1)]; exact join_unlike_a a b add h1 h2 k0 k1 w
    · rw [if_neg (by omega), if_pos h2]; exact join_b a b add h1 h2 w
  · rw [if_pos h1]; exact join_a a b add h1 w
theorem below3 (w : World) (a b c : Obj) : Below w.heap.size w (((w.alloc a).alloc b).alloc c) := (below_alloc2 w a b).alloc (below_alloc2 w a b).size _
set_option maxHeartbeats 400000 in
theorem refAdd_v (a b : V) (ha : a.num < 18446744073709551616) (hb : b.num < 18446744073709551616) (w : World) :
    Calls Try.prog 30 #[a.val, b.val] w (JoinTold sumC a b w) := by
  have HJ := fun w => Lib.hid (join_any a b true ha hb w)
  clear ha hb
  unfold JoinTold
  go_enter Try.func30, Try.ntmps30
  go_wp2_with fail
  refine (HJ _).out.mono ?_
  rintro e w' ⟨rfl, hb⟩
  have HB := Lib.hid hb
  obtain ⟨c0, c1, c2, f0, f1, f2⟩ := cells3 ((hb.block (w.heap.size + 1 + 1) (by simp)).trans (alloc_here _ (by simp)))
  clear hb
  go_wp2_with fail
  (try simp only [Exit.inBlock, Exit.then])
  refine bodyPost_ret (v := .tuple #[(joined sumC a b).1.val, .int .i64 (joined sumC a b).2]) ?_ rfl ⟨rfl, by repeat' (first | exact (below3 _ _ _ _).trans (HB.out.mono (below3 _ _ _ _).size) | refine Below.setCell ?_ (show w.heap.size ≤ w.heap.size + 1 + 1 by omega) _)⟩
  rw [results_cell_tmp rfl]
  go_simp
set_option maxHeartbeats 400000 in
theorem refMax_v (a b : V) (ha : a.num < 18446744073709551616) (hb : b.num < 18446744073709551616) (w : World) :
    Calls Try.prog 31 #[a.val, b.val] w (JoinTold maxF a b w) := by
  have HJ := fun w => Lib.hid (join_any a b false ha hb w)
  clear ha hb
  unfold JoinTold
  go_enter Try.func31, Try.ntmps31
  go_wp2_with fail
  refine (HJ _).out.mono ?_
  rintro e w' ⟨rfl, hb⟩
  have HB := Lib.hid hb
  obtain ⟨c0, c1, c2, f0, f1, f2⟩ := cells3 ((hb.block (w.heap.size + 1 + 1) (by simp)).trans (alloc_here _ (by simp)))
  clear hb
  go_wp2_with fail
  (try simp only [Exit.inBlock, Exit.then])
  refine bodyPost_ret (v := .tuple #[(joined maxF a b).1.val, .int .i64 (joined maxF a b).2]) ?_ rfl ⟨rfl, by repeat' (first | exact (below3 _ _ _ _).trans (HB.out.mono (below3 _ _ _ _).size) | refine Below.setCell ?_ (show w.heap.size ≤ w.heap.size + 1 + 1 by omega) _)⟩
  rw [results_cell_tmp rfl]
  go_simp
end Go.Proofs.Ytilebpenfdgdmaa.Vl
