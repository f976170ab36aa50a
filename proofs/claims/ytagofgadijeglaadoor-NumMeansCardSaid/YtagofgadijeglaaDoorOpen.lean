/- What is handed in, opened: slices of floats. -/
import Derived.Test.YtagofgadijeglaaDoorRows
import Derived.ProofKit
import Derived.Deep.Slices
import Derived.WalkLawsBesides
namespace Go.Proofs.YtagofgadijeglaaDoor.Nm
open Go Go.ChangeShapes Go.WideShapes Go.RowKit Go.Deep

theorem trod_float {H : Type} {enc : TypeId × Value → H} {P : Program} {w : World} {base : Nat} {spare : Nat → Bool} {held : Bool} {n : Nat} {t : TypeId} {k : FloatKind} {v : Value} {x : DataW H × List MemPlace}
    (ht : P.underlying t = some (.float k)) (h : DataW.trod enc P w base spare held n t [v] = some x) : ∃ b, v = .float k b ∧ (Lit.float k b).wf = true := by
  cases n with
  | zero => simp [DataW.trod] at h
  | succ n =>
    cases v <;> simp only [DataW.trod, ht] at h <;> first | (cases h; done) | skip
    rename_i k' b
    split at h
    · rename_i hk
      obtain ⟨rfl, hw⟩ := hk
      exact ⟨b, rfl, hw⟩
    · cases h

/-- what is known of a slice of floats that came in -/
def FloatsIn (w : World) (a : Option Addr) (len cap : Nat) : Prop :=
  (a = none ∧ len = 0 ∧ cap = 0) ∨ ∃ (x : Addr) (l : List Nat), a = some x ∧ len ≤ maxLen ∧ l.length = len ∧ ∀ i, i < len → w.cell? (x.add i) = some (.float .f64 (l.getD i 0))
theorem in_floats {H : Type} {enc : TypeId × Value → H} {P : Program} {w : World} {base : Nat} {spare : Nat → Bool} {held : Bool} {t e : TypeId} {a : Option Addr} {len cap : Nat} {d : DataW H} {ps : List MemPlace}
    (ht : P.underlying t = some (.slice e)) (he : P.underlying e = some (.float .f64)) (hc : P.cellsOf e = 1) (h : DataW.Trod enc P w base spare held t (.slice a len cap) d ps) : FloatsIn w a len cap := by
  obtain ⟨fuel, hf⟩ := h
  rcases open_slice1 ht hc hf with ⟨h1, _⟩ | ⟨x, len', cap', m, n, V, D, Pl, h1, _, hl, hm, hmm, _, hx⟩
  · simp [Value.cells] at h1
    exact .inl h1
  · simp [Value.cells] at h1
    obtain ⟨rfl, rfl, rfl⟩ := h1
    have hle : len ≤ m := by rw [hmm]; split <;> omega
    have hV : ∀ i, i < len → ∃ b, V i = .float .f64 b := fun i hi => by
      obtain ⟨b, hb, _⟩ := trod_float he (hx i (by omega)).2
      exact ⟨b, hb⟩
    obtain ⟨f, hf2⟩ := choose_lt hV
    refine .inr ⟨x, (List.range len).map f, rfl, by omega, by simp, fun i hi => ?_⟩
    rw [(hx i (by omega)).1, hf2 i hi]
    simp [hi]
end Go.Proofs.YtagofgadijeglaaDoor.Nm
