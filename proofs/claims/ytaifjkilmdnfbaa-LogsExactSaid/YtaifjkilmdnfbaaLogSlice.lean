/- Parts of a slice of entries: l[k:], l[:k]. -/
import Derived.Test.YtaifjkilmdnfbaaLogKeepB
namespace Go.Proofs.Ytaifjkilmdnfbaa.Lg
open Go Go.RowKit Vl Kv Ss Cn Mem Li Nm

theorem und_ent : Try.prog.underlying 25 = some (.slice (Try.prog.elem 25)) := by kernel_rfl
theorem size_ent (W : World) : (sizeOf (Try.prog.elem 25)).run Try.prog W = .ok 16 W := by
  have : Try.prog.elem 25 = 40 := by kernel_rfl
  rw [this]
  obtain ⟨i, hi, h2⟩ : ∃ i, Try.prog.info? 40 = some i ∧ i.size = 16 := by
    have := infoEnt
    cases hq : Try.prog.info? 40 with
    | none => rw [hq] at this; cases this
    | some i => rw [hq] at this; exact ⟨i, rfl, by simp at this; exact this.2.1⟩
  simp [sizeOf, typeInfo, hi, h2]
theorem slice_from {w : World} {a : Option Addr} {cap : Nat} {L : List E} (h : EntAt w a cap L) (k : Nat) (hk : k ≤ L.length) :
    ∃ a' n' c', (∀ W, (Instr.sliceAt 25 (.slice a L.length cap) (some (.int .i64 k)) none none).run Try.prog W = .ok (.slice a' n' c') W) ∧ n' = (L.drop k).length ∧ ∀ W, Kv.Beh w W → EntAt W a' c' (L.drop k) := by
  have hr : ∀ W, (Instr.sliceAt 25 (.slice a L.length cap) (some (.int .i64 k)) none none).run Try.prog W = .ok (sliced a k L.length cap 16) W := fun W => by
    rw [run_sliceAt_slice W _ _ _ _ _ und_ent, run_slice_l W _ a L.length cap und_ent .i64 k (by omega) (by omega), size_ent]
    rfl
  unfold sliced at hr
  have hlen := h.len
  have hmax := h.max
  by_cases hc : cap = k
  · refine ⟨a, L.length - k, cap - k, fun W => by rw [hr W, if_pos hc], by rw [List.length_drop], fun W hW => ?_⟩
    have : L.drop k = [] := List.drop_eq_nil_of_le (by omega)
    rw [this]
    exact ⟨Nat.zero_le _, by omega, fun ha => by have := h.nil ha; omega, fun h0 => by simp at h0⟩
  · cases a with
    | none => have := h.nil rfl; omega
    | some ad =>
      exact ⟨some (ad.add (k * 16)), L.length - k, cap - k, fun W => by rw [hr W, if_neg hc]; rfl, by rw [List.length_drop], fun W hW => (h.below hW).drop hk⟩
theorem slice_to {w : World} {a : Option Addr} {cap n : Nat} {L : List E} (h : EntAt w a cap L) (k : Nat) (hk : k ≤ L.length) :
    ∃ n', (∀ W, (Instr.sliceAt 25 (.slice a n cap) none (some (.int .i64 k)) none).run Try.prog W = .ok (.slice a n' cap) W) ∧ n' = (L.take k).length ∧ ∀ W, Kv.Beh w W → EntAt W a cap (L.take k) := by
  have hlen := h.len
  have hr : ∀ W, (Instr.sliceAt 25 (.slice a n cap) none (some (.int .i64 k)) none).run Try.prog W = .ok (sliced a 0 k cap 16) W := fun W => by
    rw [run_sliceAt_slice W _ _ _ _ _ und_ent, run_slice_h W _ a n cap und_ent .i64 k (by omega) (by omega), size_ent]
    rfl
  refine ⟨k, fun W => ?_, by rw [List.length_take]; omega, fun W hW => (h.below hW).take hk⟩
  rw [hr W]
  unfold sliced
  by_cases hc : cap = 0
  · rw [if_pos hc]; rfl
  · rw [if_neg hc]
    cases a with
    | none => rfl
    | some ad =>
      show Result.ok (Value.slice (some (ad.add (0 * 16))) _ _) _ = _
      rw [Nat.zero_mul]
      have : ad.add 0 = ad := by
        obtain ⟨b, o, s⟩ := ad
        cases s <;> simp [Addr.add]
      rw [this]
      rfl
end Go.Proofs.Ytaifjkilmdnfbaa.Lg
