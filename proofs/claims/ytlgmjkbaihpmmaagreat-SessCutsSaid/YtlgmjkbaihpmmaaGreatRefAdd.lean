/- The reference's join. -/
import Derived.Test.YtlgmjkbaihpmmaaGreatRefJoin
namespace Go.Proofs.YtlgmjkbaihpmmaaGreat.Vl
open Go Go.RowKit Go.Proofs.YtlgmjkbaihpmmaaGreat.Nm
attribute [local go_sem] run_bits run_frombits run_store_float

theorem alloc_here {w : World} {n : Nat} (o : Obj) (h : n = w.heap.size) : (w.alloc o).heap[n]? = some o := by
  subst h
  show (w.heap.push o)[w.heap.size]? = some o
  simp
theorem cells3 {w : World} {b : Nat} {x y z : Value} {t : TypeId} (h : w.heap[b]? = some (.cells #[x, y, z] t)) :
    w.cell? ⟨b, 0, none⟩ = some x ∧ w.cell? ⟨b, 1, none⟩ = some y ∧ w.cell? ⟨b, 2, none⟩ = some z ∧ w.frozen? ⟨b, 0, none⟩ = false ∧ w.frozen? ⟨b, 1, none⟩ = false ∧ w.frozen? ⟨b, 2, none⟩ = false := by
  refine ⟨?_, ?_, ?_, ?_, ?_, ?_⟩ <;> simp [World.cell?, World.frozen?, h]
/-- what is told of two values joined -/
def JoinTold (f : Nat → Nat → Nat) (a b : V) (w : World) (e : Ending) (w' : World) : Prop :=
  e = .returned (.tuple #[(joined f a b).1.val, .int .i64 (joined f a b).2]) ∧ Below w.heap.size w w'
theorem join_any (a b : V) (add : Bool) (ha : a.num < 18446744073709551616) (hb : b.num < 18446744073709551616) (w : World) :
    Calls Tryz.prog 96 #[a.val, b.val, .bool add] w (JoinTold (if add = true then sumC else maxF) a b w) := by
  unfold JoinTold joined
  by_cases h1 : a.check = 0
  · by_cases h2 : b.check = 0
    · rw [if_neg (by omega), if_neg (by omega)]
      by_cases k0 : a.kind = 0
      · rw [if_pos k0]; exact join_none a b add h1 h2 k0 w
      · rw [if_neg k0]
        by_cases k1 : a.kind = 1
        · by_cases k2 : b.kind = 1
          · rw [if_neg (by omega)]
            cases add
            · exact join_max a b h1 h2 k1 k2 ha hb w
            · exact join_add a b h1 h2 k1 k2 w
          · rw [if_pos (.inr k2)]; exact join_unlike_b a b add h1 h2 k1 k2 w
        · rw [if_pos (.inl k1)]; exact join_unlike_a a b add h1 h2 k0 k1 w
    · rw [if_neg (by omega), if_pos h2]; exact join_b a b add h1 h2 w
  · rw [if_pos h1]; exact join_a a b add h1 w
theorem below3 (w : World) (a b c : Obj) : Below w.heap.size w (((w.alloc a).alloc b).alloc c) := (below_alloc2 w a b).alloc (below_alloc2 w a b).size _
end Go.Proofs.YtlgmjkbaihpmmaaGreat.Vl
