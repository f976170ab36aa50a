import Derived.Test.YtjdebdfbjcpjgaaMergeWr1
import Derived.ProofKit
import Derived.Deep.Slices
import Derived.ChangeShapes
/- What is handed in, opened: slices of bytes, of ints. -/
namespace Go.Proofs.Ytjdebdfbjcpjgaa.Pk
open Go Go.ChangeShapes Go.WideShapes Go.RowKit Go.Deep Mem

/-- what is known of a slice of bytes that came in -/
def BytesIn (w : World) (a : Option Addr) (len cap : Nat) : Prop := ∃ b l, l.length = len ∧ Src w b a cap l ∧ B8 l
theorem in_bytes {H : Type} {enc : TypeId × Value → H} {P : Program} {w : World} {base : Nat} {spare : Nat → Bool} {held : Bool} {t e : TypeId} {a : Option Addr} {len cap : Nat} {d : DataW H} {ps : List MemPlace}
    (ht : P.underlying t = some (.slice e)) (he : P.underlying e = some (.int .u8)) (hc : P.cellsOf e = 1) (h : DataW.Trod enc P w base spare held t (.slice a len cap) d ps) : BytesIn w a len cap := by
  obtain ⟨fuel, hf⟩ := h
  rcases open_slice1 ht hc hf with ⟨h1, _⟩ | ⟨x, len', cap', m, n, V, D, Pl, h1, _, hl, hm, hmm, _, hx⟩
  · simp [Value.cells] at h1
    obtain ⟨rfl, rfl, rfl⟩ := h1
    exact ⟨0, [], rfl, .inl ⟨Nat.le_refl _, by decide, .inl ⟨rfl, rfl, rfl⟩⟩, B8.nil⟩
  · simp [Value.cells] at h1
    obtain ⟨rfl, rfl, rfl⟩ := h1
    have hle : len ≤ m := by rw [hmm]; split <;> omega
    have hV : ∀ i, i < len → ∃ b : Nat, b < 256 ∧ V i = .int .u8 b := fun i hi => by
      obtain ⟨q, hq, _, hw⟩ := DataW.trod_int he (hx i (by omega)).2
      have h2 : IntKind.u8.min ≤ q ∧ q ≤ IntKind.u8.max := by simpa [Lit.wf] using hw
      have h3 : (0 : Int) ≤ q ∧ q ≤ 255 := h2
      exact ⟨q.toNat, by omega, by simp at hq; rw [hq]; congr 1; omega⟩
    obtain ⟨f, hf2⟩ := choose_lt (p := fun i (b : Nat) => b < 256 ∧ V i = .int .u8 b) hV
    have h8 : B8 ((List.range len).map f) := by
      intro y hy
      obtain ⟨i, hi, rfl⟩ := List.mem_map.1 hy
      exact (hf2 i (List.mem_range.1 hi)).1
    by_cases h0 : len = 0
    · subst h0
      exact ⟨0, [], rfl, .inr ⟨rfl, by simp⟩, B8.nil⟩
    · obtain ⟨b, off, spot⟩ := x
      have c0 := (hx 0 (by omega)).1
      have hspot : spot = none := by simpa [Addr.add] using World.cell?_spot c0
      subst hspot
      refine ⟨b, (List.range len).map f, by simp, .inl ⟨by simpa using hl, by unfold maxLen at hm; exact hm, .inr ⟨off, rfl, fun i hi => ?_⟩⟩, h8⟩
      simp at hi
      rw [← Go.WideShapes.add_plain, (hx i (by omega)).1, (hf2 i hi).2]
      simp [hi]

/-- the ints that a slice shows -/
def Ints (w : World) (a : Option Addr) (L : List Int) : Prop :=
  (∀ x ∈ L, -9223372036854775808 ≤ x ∧ x ≤ 9223372036854775807) ∧ L.length ≤ 9223372036854775807 ∧ (0 < L.length → ∃ b off, a = some ⟨b, off, none⟩ ∧ ∀ i, i < L.length → w.cell? ⟨b, off + i, none⟩ = some (.int .i64 (L.getD i 0)))
theorem Ints.kept {w w' : World} {a : Option Addr} {L : List Int} (h : Ints w a L) (hk : Kept None w w') : Ints w' a L := by
  refine ⟨h.1, h.2.1, fun h0 => ?_⟩
  obtain ⟨b, off, ha, hc⟩ := h.2.2 h0
  exact ⟨b, off, ha, fun i hi => (hk.cell (p := ⟨b, off + i, none⟩) (World.block_lt_of_cell? w _ (hc i hi)) (fun h => h)).trans (hc i hi)⟩
def IntsIn (w : World) (a : Option Addr) (len cap : Nat) : Prop := len ≤ cap ∧ ∃ L, L.length = len ∧ Ints w a L
theorem in_ints {H : Type} {enc : TypeId × Value → H} {P : Program} {w : World} {base : Nat} {spare : Nat → Bool} {held : Bool} {t e : TypeId} {a : Option Addr} {len cap : Nat} {d : DataW H} {ps : List MemPlace}
    (ht : P.underlying t = some (.slice e)) (he : P.underlying e = some (.int .i64)) (hc : P.cellsOf e = 1) (h : DataW.Trod enc P w base spare held t (.slice a len cap) d ps) : IntsIn w a len cap := by
  obtain ⟨fuel, hf⟩ := h
  rcases open_slice1 ht hc hf with ⟨h1, _⟩ | ⟨x, len', cap', m, n, V, D, Pl, h1, _, hl, hm, hmm, _, hx⟩
  · simp [Value.cells] at h1
    obtain ⟨rfl, rfl, rfl⟩ := h1
    exact ⟨Nat.le_refl _, [], rfl, (by simp), by simp, by simp⟩
  · simp [Value.cells] at h1
    obtain ⟨rfl, rfl, rfl⟩ := h1
    have hle : len ≤ m := by rw [hmm]; split <;> omega
    have hV : ∀ i, i < len → ∃ q : Int, (-9223372036854775808 ≤ q ∧ q ≤ 9223372036854775807) ∧ V i = .int .i64 q := fun i hi => by
      obtain ⟨q, hq, _, hw⟩ := DataW.trod_int he (hx i (by omega)).2
      have h2 : IntKind.i64.min ≤ q ∧ q ≤ IntKind.i64.max := by simpa [Lit.wf] using hw
      exact ⟨q, h2, by simp at hq; rw [hq]⟩
    obtain ⟨f, hf2⟩ := choose_lt (p := fun i (q : Int) => (-9223372036854775808 ≤ q ∧ q ≤ 9223372036854775807) ∧ V i = .int .i64 q) hV
    refine ⟨hl, (List.range len).map f, by simp, fun y hy => ?_, by unfold maxLen at hm; simp; omega, fun h0 => ?_⟩
    · obtain ⟨i, hi, rfl⟩ := List.mem_map.1 hy
      exact (hf2 i (List.mem_range.1 hi)).1
    · simp at h0
      obtain ⟨b, off, spot⟩ := x
      have c0 := (hx 0 (by omega)).1
      have hspot : spot = none := by simpa [Addr.add] using World.cell?_spot c0
      subst hspot
      refine ⟨b, off, rfl, fun i hi => ?_⟩
      simp at hi
      rw [← Go.WideShapes.add_plain, (hx i (by omega)).1, (hf2 i hi).2]
      simp [hi]
end Go.Proofs.Ytjdebdfbjcpjgaa.Pk
