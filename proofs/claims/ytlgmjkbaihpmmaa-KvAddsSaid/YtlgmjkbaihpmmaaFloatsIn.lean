/- Floats that are handed in. -/
import Derived.Test.YtlgmjkbaihpmmaaCmdsIn
import Derived.WideShapes
import Derived.ChangeArms
import Derived.OpenShut
import Derived.Deep.Fields
namespace Go.Proofs.Ytlgmjkbaihpmmaa.Kv
open Go Go.ChangeShapes Go.WideShapes Go.RowKit Go.Deep Vl Nm Mem

/-- floats that came in -/
def FloatsIn (w : World) (a : Option Addr) (len : Nat) : Prop := ∃ L : List Nat, L.length = len ∧ (∀ x ∈ L, x < 18446744073709551616) ∧ (0 < L.length → ∃ b off, a = some ⟨b, off, none⟩ ∧ ∀ i, i < L.length → w.cell? ⟨b, off + i, none⟩ = some (.float .f64 (L.getD i 0)))
set_option maxRecDepth 100000 in
theorem in_floats {H : Type} {enc : TypeId × Value → H} {w : World} {base : Nat} {spare : Nat → Bool} {held : Bool} {a : Option Addr} {len cap : Nat} {d : DataW H} {ps : List MemPlace}
    (h : DataW.Trod enc Try.prog w base spare held 52 (.slice a len cap) d ps) : FloatsIn w a len := by
  obtain ⟨fuel, hf⟩ := h
  have hC : Try.prog.cellsOf 23 = 1 := by kernel_rfl
  rcases open_slice Try.underlying52 hf with ⟨h1, _⟩ | ⟨x, len', cap', m, n, D, Pl, h1, _, hl, hm, hmm, _, hx⟩
  · simp [Value.cells] at h1
    obtain ⟨rfl, rfl, rfl⟩ := h1
    exact ⟨[], rfl, fun _ h => by simp at h, fun h => by simp at h⟩
  · simp [Value.cells] at h1
    obtain ⟨rfl, rfl, rfl⟩ := h1
    rw [hC] at hx
    have hle : len ≤ m := by rw [hmm]; split <;> omega
    have hV : ∀ i, i < len → ∃ y : Nat, y < 18446744073709551616 ∧ w.cell? (x.add (i * 1)) = some (.float .f64 y) := fun i hi => by
      obtain ⟨cs, hcs, ht⟩ := hx i (by omega)
      obtain ⟨_, hlen, hat⟩ := World.cells?_some hcs
      match cs, hlen with
      | [v0], _ =>
        obtain ⟨y, rfl, hy⟩ := trod_float1 Try.underlying23 ht
        refine ⟨y, hy, ?_⟩
        have := hat 0 (by decide)
        simpa [Addr.add] using this
    obtain ⟨f, hf2⟩ := choose_lt hV
    refine ⟨(List.range len).map f, by simp, fun y hy => ?_, fun h0 => ?_⟩
    · obtain ⟨i, hi, rfl⟩ := List.mem_map.1 hy
      exact (hf2 i (List.mem_range.1 hi)).1
    · simp at h0
      obtain ⟨b, off, spot⟩ := x
      have c0 := (hf2 0 (by omega)).2
      have hspot : spot = Option.none := by simpa [Addr.add] using World.cell?_spot c0
      subst hspot
      refine ⟨b, off, rfl, fun i hi => ?_⟩
      simp at hi
      have hg : ((List.range len).map f).getD i 0 = f i := by simp [hi]
      rw [hg]
      have hc := (hf2 i hi).2
      rwa [Go.WideShapes.add_plain, Nat.mul_one] at hc
end Go.Proofs.Ytlgmjkbaihpmmaa.Kv
