import Derived.Test.YtaengjgmchpabaaGreatMergeWr25
import Derived.Deep.RegionLaw
/- Cut out of WireR9 so that every seat fills it. -/
namespace Go.Proofs.YtaengjgmchpabaaGreat.Wr
open Go Go.RowKit Vl Kv Ss Cn Mem Lg Nm
attribute [local go_sem] Nm.run_bits Nm.run_frombits run_store_float
/-- one cell stored into block g, in a region that draws -/
theorem step_store_g1 {P : Program} {y0 : Nat → Option Bool} {o : Oper} {a : Go.Act} {w : World} {K : Go.Act → World → Prop} {Q : Exit → Go.Act → World → Prop} {E : Prop} {g off : Nat} {t : TypeId} {old : Array Value} (hg : w.heap[g]? = some (.cells old t))
    {ty : TypeId} {x y : Operand} {v : Value} {new : Array Value} (hgd : o.guard = none) (ho : o.op = .store ty x y)
    (hx : a.eval x = .pointer (some ⟨g, off, none⟩)) (hy : a.eval y = v) (hs : decide (off < old.size) = true) (hone : v.oneCell' = true) (hi : (P.info? ty).map (·.size) = some 1) (hnew : old.setIfInBounds off v = new)
    (h : ∀ w', w'.heap[g]? = some (.cells new t) → Bh.Else g w w' → K (a.put o.dst undef) w') : if Region.wanted o y0 = true then Oper.wp P o a w K Q else E := by
  rw [if_pos (Bh.want_all hgd)]
  subst hnew
  have hs := of_decide_eq_true hs
  have hc : v.cells = #[v] := by cases v <;> first | rfl | cases hone
  have e : (storeVar ty ⟨g, off, none⟩ v).run P w = .ok () (w.setCell ⟨g, off, none⟩ v) := by
    have h2 : storeVar ty ⟨g, off, none⟩ v = storeVar ty ⟨g, off, none⟩ (.agg #[v]) := by
      unfold storeVar
      rw [hc]
      rfl
    rw [h2, run_storeVar_mid w g off ty #[v] (fun k hk => by
      obtain rfl : k = 0 := by simp at hk; omega
      refine ⟨?_, Bh.frozen_of hg _⟩
      simp [World.cell?, hg, hs]) (by simpa using hi) (by simp [hone])]
    rfl
  unfold Oper.wp execOp
  simp only [ho, hx, hy, Instr.storeAt, Instr.sureAddr, Sem.run_bind, Sem.run_pure, Result.andThen_ok, e]
  exact h _ (Bh.heap_set v hg) (Bh.Else.set _ _ _ _)
end Go.Proofs.YtaengjgmchpabaaGreat.Wr
