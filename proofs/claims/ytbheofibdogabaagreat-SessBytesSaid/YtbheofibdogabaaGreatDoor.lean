/- A region that draws its order, in a function that defers: where it panics, of the frame only two results are read. For any program. -/
import Derived.Recover
import Derived.Deep.RegionHeld
namespace Go.Proofs.YtbheofibdogabaaGreat.Kv
open Go

/-- behind a panic: whatever the frame, as long as two slots are what they are -/
def PQ (P : Program) (fn : Func) (R : Ending → World → Prop) (p4 p5 : Value) (M : Go.Act → World → Prop) (Q : Exit → Go.Act → World → Prop) : Exit → Go.Act → World → Prop
  | .panic c, a, w => ∀ tmps : Array Value, tmps.getD 4 undef = p4 → tmps.getD 5 undef = p5 → Leaves P fn tmps R a.defers (.panicking c) w
  | .normal, a, w => M a w
  | .outgrown, a, w => Q .outgrown a w
  | _, _, _ => False
section
variable {P : Program} {fn : Func} {R : Ending → World → Prop} {p4 p5 : Value} {M : Go.Act → World → Prop} {Q : Exit → Go.Act → World → Prop} {ops : Array Oper} {md : Region.Mode}
def Two (p4 p5 : Value) (a : Go.Act) : Prop := a.tmps.getD 4 undef = p4 ∧ a.tmps.getD 5 undef = p5
def apart (o : Oper) : Bool := o.dst != some 4 && o.dst != some 5
set_option maxRecDepth 100000 in
theorem getD_set (t : Array Value) (i j : Nat) (v : Value) (h : i ≠ j) : (t.setIfInBounds i v).getD j undef = t.getD j undef := by
  simp [Array.getD_eq_getD_getElem?, h]
set_option maxRecDepth 100000 in
theorem Two.put {a : Go.Act} (h : Two p4 p5 a) {o : Oper} (ho : apart o = true) (v : Value) : Two p4 p5 (a.put o.dst v) := by
  unfold apart at ho
  rw [Bool.and_eq_true] at ho
  cases hd : o.dst with
  | none => exact h
  | some t =>
    rw [hd] at ho
    have h4 : t ≠ 4 := fun e => by subst e; simp at ho
    have h5 : t ≠ 5 := fun e => by subst e; simp at ho
    exact ⟨(getD_set _ _ _ _ h4).trans h.1, (getD_set _ _ _ _ h5).trans h.2⟩
set_option maxRecDepth 100000 in
theorem upon_keep {o : Oper} {a : Go.Act} {K K' : Go.Act → World → Prop} (hp : ∀ c a w, Leaves P fn a.tmps R a.defers (.panicking c) w → Q (.panic c) a w) (h : Two p4 p5 a) (ho : apart o = true)
    (hK : ∀ a w, Two p4 p5 a → K a w → K' a w) (r : Result Next) (hr : o.upon P a K (PQ P fn R p4 p5 M Q) r) : o.upon P a K' Q r := by
  have hlo : LetsOut (PQ P fn R p4 p5 M Q) → LetsOut Q := fun ⟨a, w, h⟩ => ⟨a, w, h⟩
  unfold Oper.upon at hr ⊢
  split at hr
  · exact hK _ _ (h.put ho _) hr
  · exact hK _ _ (h.put ho _) hr
  · rename_i d w'
    exact hK _ _ (Two.put (a := { a with defers := d :: a.defers }) h ho _) hr
  · refine hr.mono fun e w'' he => ?_
    cases e with
    | returned v => exact hK _ _ (h.put ho _) he
    | panicked ch => exact hp _ _ _ (he a.tmps h.1 h.2)
    | outgrown => exact hlo he
  · refine hr.mono fun v w'' he => hK _ _ (h.put ho _) he
  · exact hp _ _ _ (hr a.tmps h.1 h.2)
  · exact hr.elim
set_option maxRecDepth 100000 in
theorem wpOp_keep {i : Nat} {a : Go.Act} {w : World} {K K' : Go.Act → World → Prop} (hp : ∀ c a w, Leaves P fn a.tmps R a.defers (.panicking c) w → Q (.panic c) a w) (hall : ops.all apart = true) (h : Two p4 p5 a)
    (hK : ∀ a w, Two p4 p5 a → K a w → K' a w) (hr : wpOp P ops (PQ P fn R p4 p5 M Q) i K a w) : wpOp P ops Q i K' a w := by
  unfold wpOp at hr ⊢
  cases ho : ops[i]? with
  | none => rw [ho] at hr; exact hK _ _ h hr
  | some o =>
    rw [ho] at hr
    have hap : apart o = true := by
      obtain ⟨hi, rfl⟩ := Array.getElem?_eq_some_iff.1 ho
      exact Array.all_eq_true.1 hall i hi
    simp only at hr ⊢
    split
    · rename_i hw
      rw [if_pos hw] at hr
      rcases hr with hr | ⟨h1, a0, w0, h2⟩
      · exact .inl (upon_keep hp h hap hK _ hr)
      · exact .inr ⟨h1, a0, w0, h2⟩
    · rename_i hw
      rw [if_neg hw] at hr
      exact hK _ _ (h.put hap _) hr
set_option maxRecDepth 100000 in
theorem wpAny_keep (hp : ∀ c a w, Leaves P fn a.tmps R a.defers (.panicking c) w → Q (.panic c) a w) (hM : ∀ a w, M a w → Q .normal a w) (hall : ops.all apart = true) :
    ∀ (fuel : Nat) (listed_ : Array Bool) (a_ : Go.Act) (w_ : World), Two p4 p5 a_ → wpAny P md ops (PQ P fn R p4 p5 M Q) fuel listed_ a_ w_ → wpAny P md ops Q fuel listed_ a_ w_
  | 0, _, _, _, _, h => ⟨h.1, hM _ _ h.2⟩
  | fuel + 1, _, _, _, hI, h => ⟨fun hr => hM _ _ (h.1 hr), fun i hi => wpOp_keep hp hall hI (fun a' w' hI' h' => wpAny_keep hp hM hall fuel _ a' w' hI' h') (h.2 i hi)⟩
set_option maxRecDepth 100000 in
theorem wp_region_door (M : Go.Act → World → Prop) {S : World → Prop} {id : Nat} {a : Go.Act} {w : World} (hm : P.follows .mixedOrders = true) (hall : ops.all apart = true) (hp : ∀ c a w, Leaves P fn a.tmps R a.defers (.panicking c) w → Q (.panic c) a w)
    (h4 : a.tmps.getD 4 undef = p4) (h5 : a.tmps.getD 5 undef = p5) (hM : ∀ a w, M a w → Q .normal a w)
    (h : wpAnyH P .any ops (PQ P fn R p4 p5 M Q) S ops.size (Array.replicate ops.size false) a w.drew) : (Code.region id ops true).wp P Q a w :=
  wp_region_any hm (wpAny_keep hp hM hall _ _ _ _ ⟨h4, h5⟩ (wpAny_of_held _ _ _ _ h))
end
end Go.Proofs.YtbheofibdogabaaGreat.Kv
