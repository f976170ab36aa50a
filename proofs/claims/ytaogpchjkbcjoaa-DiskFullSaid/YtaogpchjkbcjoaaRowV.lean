/- Rows of bytes (slices of slices) that are read: what comes in, what a call has told. -/
import Derived.Test.YtaogpchjkbcjoaaKeepB
import Derived.Test.YtaogpchjkbcjoaaOwnV
namespace Go.Proofs.Ytaogpchjkbcjoaa.Kp
open Go Go.RowKit Mem
/-- a row: the block, where it begins, its room, its bytes -/
structure Row where
  b : Nat
  a : Option Addr
  cap : Nat
  l : List Nat
def Row.val (r : Row) : Value := .slice r.a r.l.length r.cap
instance : Inhabited Row := ⟨⟨0, none, 0, []⟩⟩
/-- a slice shows values: where it has cells, they lie in block b -/
def ShowsV (w : World) (b : Nat) (a : Option Addr) (cap : Nat) (xs : List Value) : Prop :=
  xs.length ≤ cap ∧ cap ≤ 9223372036854775807 ∧ ((a = none ∧ xs = [] ∧ cap = 0) ∨ ∃ off, a = some ⟨b, off, none⟩ ∧ ∀ i, i < xs.length → w.cell? ⟨b, off + i, none⟩ = some (xs.getD i undef))
def SrcV (w : World) (b : Nat) (a : Option Addr) (cap : Nat) (xs : List Value) : Prop := ShowsV w b a cap xs ∨ (xs = [] ∧ a ≠ none)
theorem SrcV.at_ {w : World} {b : Nat} {a : Option Addr} {cap : Nat} {xs : List Value} (h : SrcV w b a cap xs) (h0 : 0 < xs.length) : ∃ off, a = some ⟨b, off, none⟩ ∧ ∀ i, i < xs.length → w.cell? ⟨b, off + i, none⟩ = some (xs.getD i undef) := by
  rcases h with ⟨_, _, ⟨_, rfl, _⟩ | h⟩ | ⟨rfl, _⟩
  · simp at h0
  · exact h
  · simp at h0
theorem ShowsV.kept {S : Nat → Prop} {w w' : World} {b : Nat} {a : Option Addr} {cap : Nat} {xs : List Value} (h : ShowsV w b a cap xs) (hk : Kept S w w') (hs : xs ≠ [] → ¬ S b) : ShowsV w' b a cap xs := by
  obtain ⟨h1, h2, h3⟩ := h
  refine ⟨h1, h2, ?_⟩
  rcases h3 with h3 | ⟨off, ha, hc⟩
  · exact .inl h3
  · refine .inr ⟨off, ha, fun i hi => ?_⟩
    have hlt := World.block_lt_of_cell? w _ (hc i hi)
    exact (hk.cell (p := ⟨b, off + i, none⟩) hlt (hs (by intro e; subst e; simp at hi))).trans (hc i hi)
theorem SrcV.kept {S : Nat → Prop} {w w' : World} {b : Nat} {a : Option Addr} {cap : Nat} {xs : List Value} (h : SrcV w b a cap xs) (hk : Kept S w w') (hs : xs ≠ [] → ¬ S b) : SrcV w' b a cap xs := by
  rcases h with h | h
  · exact .inl (h.kept hk hs)
  · exact .inr h
theorem ownV_shows {e : TypeId} {w : World} {b : Nat} {a : Option Addr} {cap : Nat} {xs : List Value} (h : OwnV e w b a cap xs) : ShowsV w b a cap xs := by
  have hc := h
  rcases h with ⟨rfl, rfl, rfl⟩ | ⟨rfl, h1, h2, _⟩
  · exact ⟨Nat.le_refl _, by decide, .inl ⟨rfl, rfl, rfl⟩⟩
  · unfold maxLen at h2
    exact ⟨h1, h2, .inr ⟨0, rfl, fun i hi => by rw [Nat.zero_add]; exact (hc.cellAt i hi).2⟩⟩
/-- rows that may be read -/
def RowsAt (w : World) (a : Option Addr) (cap : Nat) (R : List Row) : Prop := ∃ b, SrcV w b a cap (R.map Row.val) ∧ ∀ r ∈ R, Src w r.b r.a r.cap r.l
/-- what they hold -/
def bytesOf (R : List Row) : List (List Nat) := R.map Row.l
theorem RowsAt.kept {w w' : World} {a : Option Addr} {cap : Nat} {R : List Row} (h : RowsAt w a cap R) (hk : Kept None w w') : RowsAt w' a cap R := by
  obtain ⟨b, h1, h2⟩ := h
  exact ⟨b, h1.kept hk (fun _ h => h), fun r hr => (h2 r hr).kept hk (fun _ h => h)⟩
theorem RowsAt.at_ {w : World} {a : Option Addr} {cap : Nat} {R : List Row} (h : RowsAt w a cap R) (i : Nat) (hi : i < R.length) : ∃ b off bi ai ci, a = some ⟨b, off, none⟩ ∧ w.cell? ⟨b, off + i, none⟩ = some (.slice ai ((bytesOf R).getD i []).length ci) ∧ Src w bi ai ci ((bytesOf R).getD i []) := by
  obtain ⟨b, h1, h2⟩ := h
  obtain ⟨off, ha, hc⟩ := h1.at_ (by rw [List.length_map]; omega)
  have hl : (bytesOf R).getD i [] = R[i].l := by simp [bytesOf, hi]
  refine ⟨b, off, R[i].b, R[i].a, R[i].cap, ha, ?_, by rw [hl]; exact h2 _ (List.getElem_mem hi)⟩
  rw [hc i (by rw [List.length_map]; exact hi), hl]
  simp [hi, Row.val]
/-- what the comparison of rows answers -/
def SameR (L M : List (List Nat)) (w : World) (x : Ending) (w' : World) : Prop := x = .returned (.bool (decide (L = M))) ∧ ∃ n, w' = w.drewN n
theorem rows_next {L M : List (List Nat)} {k : Nat} (hk : k < L.length) (hm : k < M.length) (h : L.take k = M.take k) (he : L.getD k [] = M.getD k []) : L.take (k + 1) = M.take (k + 1) := by
  rw [List.take_succ_eq_append_getElem hk, List.take_succ_eq_append_getElem hm, h]
  simp [hk, hm] at he
  rw [he]
theorem rows_not {L M : List (List Nat)} {k : Nat} (h : ¬ L.getD k [] = M.getD k []) : decide (L = M) = false := by
  simp only [decide_eq_false_iff_not]
  intro e; subst e; exact h rfl
def Short (R : List Row) : Prop := ∀ r ∈ R, r.l.length ≤ 35184372088832
theorem Short.at_ {R : List Row} (h : Short R) {i : Nat} (hi : i < R.length) : ((bytesOf R).getD i []).length ≤ 35184372088832 := by
  have hl : (bytesOf R).getD i [] = R[i].l := by simp [bytesOf, hi]
  rw [hl]; exact h _ (List.getElem_mem hi)
end Go.Proofs.Ytaogpchjkbcjoaa.Kp
