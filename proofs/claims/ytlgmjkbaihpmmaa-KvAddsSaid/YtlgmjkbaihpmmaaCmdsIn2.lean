/- Commands that are handed in. -/
import Derived.Test.YtlgmjkbaihpmmaaCmdsIn
import Derived.WideShapes
import Derived.ChangeArms
import Derived.OpenShut
import Derived.Deep.Fields
namespace Go.Proofs.Ytlgmjkbaihpmmaa.Kv
open Go Go.ChangeShapes Go.WideShapes Go.RowKit Go.Deep Vl Nm Mem

set_option maxRecDepth 100000 in
theorem in_cmds {H : Type} {enc : TypeId × Value → H} {w : World} {base : Nat} {spare : Nat → Bool} {held : Bool} {a : Option Addr} {len cap : Nat} {d : DataW H} {ps : List MemPlace}
    (h : DataW.Trod enc Try.prog w base spare held 51 (.slice a len cap) d ps) : ∃ C : List Cm, C.length = len ∧ CmdsAt w a C := by
  obtain ⟨fuel, hf⟩ := h
  have hC : Try.prog.cellsOf 27 = 8 := by kernel_rfl
  rcases open_slice Try.underlying51 hf with ⟨h1, _⟩ | ⟨x, len', cap', m, n, D, Pl, h1, _, hl, hm, hmm, _, hx⟩
  · simp [Value.cells] at h1
    obtain ⟨rfl, rfl, rfl⟩ := h1
    exact ⟨[], rfl, fun _ h => by simp at h, fun h => by simp at h⟩
  · simp [Value.cells] at h1
    obtain ⟨rfl, rfl, rfl⟩ := h1
    rw [hC] at hx
    have hle : len ≤ m := by rw [hmm]; split <;> omega
    have hV : ∀ i, i < len → ∃ y : Cm, y.ok ∧ ∀ j : Nat, j < 8 → w.cell? ((x.add (i * 8)).add j) = y.cell j := fun i hi => by
      obtain ⟨cs, hcs, ht⟩ := hx i (by omega)
      obtain ⟨_, hlen, hat⟩ := World.cells?_some hcs
      obtain ⟨c, hc, rfl⟩ := trod_cmd hlen ht
      refine ⟨c, hc, fun j hj => ?_⟩
      rw [hat j hj]
      match j, hj with
      | 0, _ => rfl
      | 1, _ => rfl
      | 2, _ => rfl
      | 3, _ => rfl
      | 4, _ => rfl
      | 5, _ => rfl
      | 6, _ => rfl
      | 7, _ => rfl
    obtain ⟨f, hf2⟩ := choose_lt hV
    refine ⟨(List.range len).map f, by simp, ⟨fun y hy => ?_, fun h0 => ?_⟩⟩
    · obtain ⟨i, hi, rfl⟩ := List.mem_map.1 hy
      exact (hf2 i (List.mem_range.1 hi)).1
    · simp at h0
      obtain ⟨b, off, spot⟩ := x
      have c0 := (hf2 0 (by omega)).2 0 (by decide)
      have hspot : spot = Option.none := by
        have : w.cell? (((⟨b, off, spot⟩ : Addr).add (0 * 8)).add 0) = some (.int .i64 (f 0).kind) := c0
        simpa [Addr.add] using World.cell?_spot this
      subst hspot
      refine ⟨b, off, rfl, fun i hi => ?_⟩
      simp at hi
      have hg : ((List.range len).map f).getD i Cm.zero = f i := by simp [hi]
      rw [hg]
      have hc := (hf2 i hi).2
      have e : ∀ j, ((⟨b, off, Option.none⟩ : Addr).add (i * 8)).add j = ⟨b, off + i * 8 + j, Option.none⟩ := fun j => by
        rw [Go.WideShapes.add_plain, Go.WideShapes.add_plain]
      simp only [e] at hc
      exact ⟨hc 0 (by decide), hc 1 (by decide), hc 2 (by decide), hc 3 (by decide), hc 4 (by decide), hc 5 (by decide), hc 6 (by decide), hc 7 (by decide)⟩
end Go.Proofs.Ytlgmjkbaihpmmaa.Kv
