import Derived.Test.YtaifjkilmdnfbaaBx
import Derived.Deep.RegionHeld3
import Derived.Test.YtaifjkilmdnfbaaMergeLgO
section
/- A region that draws its order, walked by hand: loads out of blocks of the call's own are taken first, allocs and stores of whole structs are steps with worlds of their own. For any program. -/
namespace Go.Proofs.Ytaifjkilmdnfbaa.Bh
open Go Go.RowKit
theorem want_all {o : Oper} {y : Nat → Option Bool} (h : o.guard = none) : Region.wanted o y = true := by simp [Region.wanted, h]
/-- a load of a whole struct out of the block i -/
theorem yif_load_bx {P : Program} {ops : Array Oper} {S : World → Prop} {o : Oper} {a : Go.Act} {w0 : World} {l : List Obj} (i : Nat) (hS : ∀ w, S w → Bx w0 l w) {ty : TypeId} {d : TypeDesc} (hu : P.underlying ty = some d) {t : TypeId} {cs : Array Value} (hl : l[i]? = some (.cells cs t))
    {x : Operand} (hgd : o.guard = none) (ho : o.op = .load ty x) (hx : a.eval x = .pointer (some ⟨w0.heap.size + i, 0, none⟩))
    (hd : (match d with | .struct _ | .array _ _ => true | _ => false) = true) (hi : (P.info? ty).map (·.size) = some cs.size) : YieldsIf P ops S o (.agg cs) a :=
  .inl ⟨want_all hgd, fun w hw => by
    unfold execOp
    simp only [ho, hx, Instr.loadAt, Instr.sureAddr, Sem.run_bind, Sem.run_pure, Result.andThen_ok, run_loadVar_row w _ t ty cs (0, 0) d ((hS w hw).box i _ hl) hu hd hi]⟩
/-- a whole struct stored into the block i -/
theorem step_store_bx {P : Program} {y0 : Nat → Option Bool} {o : Oper} {a : Go.Act} {w0 w : World} {l : List Obj} {K : Go.Act → World → Prop} {Q : Exit → Go.Act → World → Prop} {E : Prop} (n i : Nat) (HB : Bx w0 l w) {t : TypeId} {old : Array Value} (hl : l[i]? = some (.cells old t))
    {ty : TypeId} {x y : Operand} {cells : Array Value} (hgd : o.guard = none) (ho : o.op = .store ty x y)
    (hx : a.eval x = .pointer (some ⟨w0.heap.size + i, 0, none⟩)) (hy : a.eval y = .agg cells) (hn : old.size = n) (hi : (P.info? ty).map (·.size) = some n) (hc : cells.size = n) (h1 : cells.toList.all (·.oneCell') = true)
    (h : ∀ w', Bx w0 (l.set i (.cells cells t)) w' → Else (w0.heap.size + i) w w' → K (a.put o.dst undef) w') : if Region.wanted o y0 = true then Oper.wp P o a w K Q else E := by
  rw [if_pos (want_all hgd)]
  exact wp_store_row ty x y ho _ cells hx hy t old (HB.box i _ hl) (hi.trans (by rw [hc])) (by rw [hn, hc]) (by rw [← h1, Array.all_toList]) (h _ (HB.row i rfl hl cells) (Else.row _ _ _))
/-- a new block -/
theorem step_alloc_bx {P : Program} {y0 : Nat → Option Bool} {o : Oper} {a : Go.Act} {w : World} {K : Go.Act → World → Prop} {Q : Exit → Go.Act → World → Prop} {E : Prop} (hgd : o.guard = none) (ob : Obj)
    (hrun : (execOp a.eval o).run P w = .ok (.value (.pointer (some ⟨w.heap.size, 0, none⟩))) (w.alloc ob))
    (h : ∀ w', Bx w [ob] w' → K (a.put o.dst (.pointer (some ⟨w.heap.size, 0, none⟩))) w') : if Region.wanted o y0 = true then Oper.wp P o a w K Q else E := by
  rw [if_pos (want_all hgd)]
  unfold Oper.wp
  rw [hrun, Oper.upon_value]
  exact h _ (Bx.one w ob)
theorem Bx.els {w0 w w' : World} {l : List Obj} {g : Nat} (h : Bx w0 l w) (x : Else g w w') (hg : w0.heap.size + l.length ≤ g) : Bx w0 l w' :=
  ⟨Below.trans h.beh (⟨x.os, x.tape, x.output, Nat.le_of_eq x.size.symm, fun k hk => x.block k (by omega)⟩ : Below w0.heap.size w w'), fun i o ho => by
    have hlt : i < l.length := (List.getElem?_eq_some_iff.1 ho).1
    rw [x.block _ (by omega)]
    exact h.box i o ho⟩
end Go.Proofs.Ytaifjkilmdnfbaa.Bh
end
section
/- A log that was made, in a region walked by hand. No program's function. -/
namespace Go.Proofs.Ytaifjkilmdnfbaa.Lg
open Go Go.RowKit Vl Kv Ss Cn Mem Li
/-- a log that was made behind a block that is stored into then -/
theorem MadeH.els {w w1 w' : World} {h : H} {p : Hp} {g : Nat} (m : MadeH w w1 h p) (x : Bh.Else g w1 w') (hg : g < w.heap.size) : HardAt w' h p :=
  ⟨(ownB_else m.snap x (by have := m.snew; omega)).src, OwnL.list (ownL_else m.log x (by have := m.lnew; omega))⟩
theorem MadeH.later {w w1 w' : World} {h : H} {p : Hp} (m : MadeH w w1 h p) (hb : Below w1.heap.size w1 w') : HardAt w' h p := (m.on hb).at_
/-- a log that was made, behind a store into an earlier block of the call -/
theorem MadeH.behind {w w1 w2 w' : World} {h : H} {p : Hp} {g : Nat} (m : MadeH w1 w2 h p) (hb : Kv.Beh w w1) (x : Bh.Else g w2 w') (h1 : w.heap.size ≤ g) (h2 : g < w1.heap.size) : MadeH w w' h p :=
  ⟨ownB_else m.snap x (by have := m.snew; omega), Nat.le_trans hb.size m.snew, ownL_else m.log x (by have := m.lnew; omega), Nat.le_trans hb.size m.lnew, else_beh (hb.trans m.beh) x h1⟩
end Go.Proofs.Ytaifjkilmdnfbaa.Lg
end
section
/- More for a region walked by hand: loads out of one block, of a call's first block alone. For any program. -/
namespace Go.Proofs.Ytaifjkilmdnfbaa.Bh
open Go Go.RowKit
/-- a load of a whole struct out of a block -/
theorem yif_load_at {P : Program} {ops : Array Oper} {S : World → Prop} {o : Oper} {a : Go.Act} {g : Nat} {t : TypeId} {cs : Array Value} (hS : ∀ w, S w → w.heap[g]? = some (.cells cs t)) {ty : TypeId} {d : TypeDesc} (hu : P.underlying ty = some d)
    {x : Operand} (hgd : o.guard = none) (ho : o.op = .load ty x) (hx : a.eval x = .pointer (some ⟨g, 0, none⟩))
    (hd : (match d with | .struct _ | .array _ _ => true | _ => false) = true) (hi : (P.info? ty).map (·.size) = some cs.size) : YieldsIf P ops S o (.agg cs) a :=
  .inl ⟨want_all hgd, fun w hw => by
    unfold execOp
    simp only [ho, hx, Instr.loadAt, Instr.sureAddr, Sem.run_bind, Sem.run_pure, Result.andThen_ok, run_loadVar_row w _ t ty cs (0, 0) d (hS w hw) hu hd hi]⟩
/-- the first block of a call's own -/
theorem Bx.head {w W : World} {o : Obj} {l : List Obj} (h : Bx w (o :: l) W) : Bx w [o] W := ⟨h.beh, fun i x hx => by
  match i, hx with
  | 0, hx => exact h.box 0 x hx⟩
/-- one cell of a block stored -/
theorem step_store1_bk {P : Program} {y0 : Nat → Option Bool} {o : Oper} {a : Go.Act} {w0 w : World} {l : List Obj} {K : Go.Act → World → Prop} {Q : Exit → Go.Act → World → Prop} {E : Prop} (i j : Nat) (HB : Bx w0 l w) {t : TypeId} {old : Array Value} (hl : l[i]? = some (.cells old t)) (hj : decide (j < old.size) = true)
    {ty : TypeId} {x y : Operand} {v : Value} (hgd : o.guard = none) (ho : o.op = .store ty x y)
    (hx : a.eval x = .pointer (some ⟨w0.heap.size + i, j, none⟩)) (hy : a.eval y = v) (hone : v.oneCell' = true) (hi : (P.info? ty).map (·.size) = some 1)
    (h : ∀ w', Bx w0 (l.set i (.cells (old.setIfInBounds j v) t)) w' → Else (w0.heap.size + i) w w' → K (a.put o.dst undef) w') : if Region.wanted o y0 = true then Oper.wp P o a w K Q else E := by
  rw [if_pos (want_all hgd)]
  have hc : v.cells = #[v] := by cases v <;> first | rfl | cases hone
  have hb := HB.box i _ hl
  have hjj := of_decide_eq_true hj
  have e : (storeVar ty ⟨w0.heap.size + i, j, none⟩ v).run P w = .ok () (w.setCell ⟨w0.heap.size + i, j, none⟩ v) := by
    have h2 : storeVar ty ⟨w0.heap.size + i, j, none⟩ v = storeVar ty ⟨w0.heap.size + i, j, none⟩ (.agg #[v]) := by
      unfold storeVar
      rw [hc]
      rfl
    rw [h2, run_storeVar_mid w (w0.heap.size + i) j ty #[v] (fun k hk => by
      obtain rfl : k = 0 := by simp at hk; omega
      refine ⟨?_, frozen_of hb _⟩
      rw [cell_of_row w _ _ _ _ _ hb]
      simp [hjj]) (by simpa using hi) (by simp [hone])]
    rfl
  unfold Oper.wp execOp
  simp only [ho, hx, hy, Instr.storeAt, Instr.sureAddr, Sem.run_bind, Sem.run_pure, Result.andThen_ok, e]
  exact h _ (HB.set1 i j v hl) (Else.set _ _ _ _)
end Go.Proofs.Ytaifjkilmdnfbaa.Bh
end
