/- What is handed in, opened: slices of bytes in a slice. -/
import Derived.Test.YtaogpchjkbcjoaaOpenB
import Derived.Test.YtaogpchjkbcjoaaRowV
namespace Go.Proofs.Ytaogpchjkbcjoaa.Kp
open Go Go.ChangeShapes Go.WideShapes Go.RowKit Go.Deep Mem Pk
def RowsIn (w : World) (a : Option Addr) (len cap : Nat) : Prop := ∃ R : List Row, R.length = len ∧ RowsAt w a cap R ∧ ∀ r ∈ R, B8 r.l
theorem in_rows {H : Type} {enc : TypeId × Value → H} {P : Program} {w : World} {base : Nat} {spare : Nat → Bool} {held : Bool} {t e e1 : TypeId} {a : Option Addr} {len cap : Nat} {d : DataW H} {ps : List MemPlace}
    (ht : P.underlying t = some (.slice e)) (he : P.underlying e = some (.slice e1)) (he1 : P.underlying e1 = some (.int .u8)) (hc : P.cellsOf e = 1) (hc1 : P.cellsOf e1 = 1) (h : DataW.Trod enc P w base spare held t (.slice a len cap) d ps) : RowsIn w a len cap := by
  obtain ⟨fuel, hf⟩ := h
  rcases open_slice1 ht hc hf with ⟨h1, _⟩ | ⟨x, len', cap', m, n, V, D, Pl, h1, _, hl, hm, hmm, _, hx⟩
  · simp [Value.cells] at h1
    obtain ⟨rfl, rfl, rfl⟩ := h1
    exact ⟨[], rfl, ⟨0, .inl ⟨Nat.le_refl _, by decide, .inl ⟨rfl, rfl, rfl⟩⟩, fun _ h => (List.not_mem_nil h).elim⟩, fun _ h => (List.not_mem_nil h).elim⟩
  · simp [Value.cells] at h1
    obtain ⟨rfl, rfl, rfl⟩ := h1
    have hle : len ≤ m := by rw [hmm]; split <;> omega
    have hV : ∀ i, i < len → ∃ r : Row, V i = r.val ∧ Src w r.b r.a r.cap r.l ∧ B8 r.l := fun i hi => by
      have hxi := (hx i (by omega)).2
      have key : ∃ ai li ci, V i = .slice ai li ci := by
        rcases open_slice1 he hc1 hxi with ⟨h1, _⟩ | ⟨x', len', cap', _, _, _, _, _, h1, _⟩
        · simp at h1; exact ⟨_, _, _, h1⟩
        · simp at h1; exact ⟨_, _, _, h1⟩
      obtain ⟨ai, li, ci, hv⟩ := key
      rw [hv] at hxi
      obtain ⟨b, l, rfl, hs, h8⟩ := in_bytes (d := D i) (ps := Pl i) he he1 hc1 ⟨n, by simpa [Value.cells] using hxi⟩
      exact ⟨⟨b, ai, ci, l⟩, hv, hs, h8⟩
    obtain ⟨f, hf2⟩ := choose_lt (p := fun i (r : Row) => V i = r.val ∧ Src w r.b r.a r.cap r.l ∧ B8 r.l) hV
    have hmem : ∀ r ∈ (List.range len).map f, Src w r.b r.a r.cap r.l ∧ B8 r.l := by
      intro r hr
      obtain ⟨i, hi, rfl⟩ := List.mem_map.1 hr
      exact (hf2 i (List.mem_range.1 hi)).2
    by_cases h0 : len = 0
    · subst h0
      exact ⟨[], rfl, ⟨0, .inr ⟨rfl, by simp⟩, fun _ h => (List.not_mem_nil h).elim⟩, fun _ h => (List.not_mem_nil h).elim⟩
    · obtain ⟨b, off, spot⟩ := x
      have c0 := (hx 0 (by omega)).1
      have hspot : spot = none := by simpa [Addr.add] using World.cell?_spot c0
      subst hspot
      refine ⟨(List.range len).map f, by simp, ⟨b, .inl ⟨by simpa using hl, by unfold maxLen at hm; exact hm, .inr ⟨off, rfl, fun i hi => ?_⟩⟩, fun r hr => (hmem r hr).1⟩, fun r hr => (hmem r hr).2⟩
      simp at hi
      rw [← Go.WideShapes.add_plain, (hx i (by omega)).1, (hf2 i hi).1]
      simp [hi]
end Go.Proofs.Ytaogpchjkbcjoaa.Kp
