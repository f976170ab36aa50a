/- What is handed in, opened: fields of structs; marks in a slice. -/
import Derived.Test.YtaogpchjkbcjoaaOpenB
import Derived.Test.YtaogpchjkbcjoaaRowV
import Derived.Deep.Fields
namespace Go.Proofs.Ytaogpchjkbcjoaa.Kp
open Go Go.ChangeShapes Go.WideShapes Go.RowKit Go.Deep Mem Pk
theorem trod_float1 {H : Type} {enc : TypeId × Value → H} {P : Program} {w : World} {base : Nat} {spare : Nat → Bool} {held : Bool} {n : Nat} {t : TypeId} {v : Value} {x : DataW H × List MemPlace}
    (ht : P.underlying t = some (.float .f64)) (h : DataW.trod enc P w base spare held n t [v] = some x) : ∃ b, v = .float .f64 b ∧ b < 18446744073709551616 := by
  cases n with
  | zero => simp [DataW.trod] at h
  | succ n =>
    cases v <;> simp only [DataW.trod, ht] at h <;> first | (cases h; done) | skip
    rename_i k' b
    split at h
    · rename_i hk
      obtain ⟨rfl, hw⟩ := hk
      exact ⟨b, rfl, by simpa [Lit.wf] using hw⟩
    · cases h
theorem trod_bool1 {H : Type} {enc : TypeId × Value → H} {P : Program} {w : World} {base : Nat} {spare : Nat → Bool} {held : Bool} {n : Nat} {t : TypeId} {v : Value} {x : DataW H × List MemPlace}
    (ht : P.underlying t = some .bool) (h : DataW.trod enc P w base spare held n t [v] = some x) : ∃ b, v = .bool b := by
  cases n with
  | zero => simp [DataW.trod] at h
  | succ n => cases v <;> simp only [DataW.trod, ht] at h <;> first | (cases h; done) | exact ⟨_, rfl⟩
theorem trod_int1 {H : Type} {enc : TypeId × Value → H} {P : Program} {w : World} {base : Nat} {spare : Nat → Bool} {held : Bool} {n : Nat} {t : TypeId} {v : Value} {x : DataW H × List MemPlace}
    (ht : P.underlying t = some (.int .i64)) (h : DataW.trod enc P w base spare held n t [v] = some x) : ∃ q, v = .int .i64 q ∧ -9223372036854775808 ≤ q ∧ q ≤ 9223372036854775807 := by
  obtain ⟨q, hq, _, hw⟩ := DataW.trod_int ht h
  have h2 : IntKind.i64.min ≤ q ∧ q ≤ IntKind.i64.max := by simpa [Lit.wf] using hw
  exact ⟨q, by simpa using hq, h2⟩
theorem trod_bytes1 {H : Type} {enc : TypeId × Value → H} {P : Program} {w : World} {base : Nat} {spare : Nat → Bool} {held : Bool} {n : Nat} {t e : TypeId} {v : Value} {x : DataW H × List MemPlace}
    (ht : P.underlying t = some (.slice e)) (he : P.underlying e = some (.int .u8)) (hc : P.cellsOf e = 1) (h : DataW.trod enc P w base spare held n t [v] = some x) : ∃ a len cap, v = .slice a len cap ∧ BytesIn w a len cap := by
  have hv : ∃ a len cap, v = .slice a len cap := by
    rcases open_slice1 ht hc h with ⟨h1, _⟩ | ⟨x, len', cap', m, n, V, D, Pl, h1, _⟩
    · exact ⟨_, _, _, by simpa using h1⟩
    · exact ⟨_, _, _, by simpa using h1⟩
  obtain ⟨a, len, cap, rfl⟩ := hv
  exact ⟨a, len, cap, rfl, in_bytes (d := x.1) (ps := x.2) ht he hc ⟨n, h⟩⟩
/-- marks that may be read -/
def BoolsAt (w : World) (a : Option Addr) (cap : Nat) (l : List Bool) : Prop := ∃ b, SrcV w b a cap (l.map Value.bool)
theorem BoolsAt.kept {w w' : World} {a : Option Addr} {cap : Nat} {l : List Bool} (h : BoolsAt w a cap l) (hk : Kept None w w') : BoolsAt w' a cap l := by
  obtain ⟨b, h⟩ := h
  exact ⟨b, h.kept hk (fun _ h => h)⟩
theorem BoolsAt.at_ {w : World} {a : Option Addr} {cap : Nat} {l : List Bool} (h : BoolsAt w a cap l) (i : Nat) (hi : i < l.length) : ∃ b off, a = some ⟨b, off, none⟩ ∧ w.cell? ⟨b, off + i, none⟩ = some (.bool (l.getD i false)) := by
  obtain ⟨b, h⟩ := h
  obtain ⟨off, ha, hc⟩ := h.at_ (by rw [List.length_map]; omega)
  refine ⟨b, off, ha, ?_⟩
  rw [hc i (by rw [List.length_map]; exact hi)]
  simp [hi]
def BoolsIn (w : World) (a : Option Addr) (len cap : Nat) : Prop := ∃ l : List Bool, l.length = len ∧ BoolsAt w a cap l ∧ l.length ≤ 9223372036854775807
theorem in_bools {H : Type} {enc : TypeId × Value → H} {P : Program} {w : World} {base : Nat} {spare : Nat → Bool} {held : Bool} {t e : TypeId} {a : Option Addr} {len cap : Nat} {d : DataW H} {ps : List MemPlace}
    (ht : P.underlying t = some (.slice e)) (he : P.underlying e = some .bool) (hc : P.cellsOf e = 1) (h : DataW.Trod enc P w base spare held t (.slice a len cap) d ps) : BoolsIn w a len cap := by
  obtain ⟨fuel, hf⟩ := h
  rcases open_slice1 ht hc hf with ⟨h1, _⟩ | ⟨x, len', cap', m, n, V, D, Pl, h1, _, hl, hm, hmm, _, hx⟩
  · simp [Value.cells] at h1
    obtain ⟨rfl, rfl, rfl⟩ := h1
    exact ⟨[], rfl, ⟨0, .inl ⟨Nat.le_refl _, by decide, .inl ⟨rfl, rfl, rfl⟩⟩⟩, by decide⟩
  · simp [Value.cells] at h1
    obtain ⟨rfl, rfl, rfl⟩ := h1
    have hle : len ≤ m := by rw [hmm]; split <;> omega
    have hV : ∀ i, i < len → ∃ b : Bool, V i = .bool b := fun i hi => trod_bool1 he (x := (D i, Pl i)) (hx i (by omega)).2
    obtain ⟨f, hf2⟩ := choose_lt (p := fun i (b : Bool) => V i = .bool b) hV
    have hlen : ((List.range len).map f).length = len := by simp
    have hmx : len ≤ 9223372036854775807 := by unfold maxLen at hm; omega
    by_cases h0 : len = 0
    · subst h0
      exact ⟨[], rfl, ⟨0, .inr ⟨rfl, by simp⟩⟩, by decide⟩
    · obtain ⟨b, off, spot⟩ := x
      have c0 := (hx 0 (by omega)).1
      have hspot : spot = none := by simpa [Addr.add] using World.cell?_spot c0
      subst hspot
      refine ⟨(List.range len).map f, hlen, ⟨b, .inl ⟨by simpa using hl, by unfold maxLen at hm; exact hm, .inr ⟨off, rfl, fun i hi => ?_⟩⟩⟩, by rw [hlen]; exact hmx⟩
      simp at hi
      rw [← Go.WideShapes.add_plain, (hx i (by omega)).1, hf2 i hi]
      simp [hi]
end Go.Proofs.Ytaogpchjkbcjoaa.Kp
