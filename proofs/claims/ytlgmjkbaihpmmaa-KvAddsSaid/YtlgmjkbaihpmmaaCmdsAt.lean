/- Commands in memory. -/
import Derived.Test.YtlgmjkbaihpmmaaBeh
namespace Go.Proofs.Ytlgmjkbaihpmmaa.Kv
open Go Go.RowKit Vl Nm Mem

/-! ### commands -/
def Cm.zero : Cm := ⟨0, ⟨#[]⟩, V.zero, V.zero⟩
instance : Inhabited Cm := ⟨Cm.zero⟩
def Cm.ok (c : Cm) : Prop := c.old.num < 18446744073709551616 ∧ c.val.num < 18446744073709551616
def Cm.cells (c : Cm) : List Value := [.int .i64 c.kind, .string c.key, .int .i64 c.old.kind, .float .f64 c.old.num, .string c.old.text, .int .i64 c.val.kind, .float .f64 c.val.num, .string c.val.text]
def Cm.cell (c : Cm) (j : Nat) : Option Value := c.cells[j]?
def Cm.at_ (w : World) (b o : Nat) (c : Cm) : Prop :=
  w.cell? ⟨b, o, none⟩ = some (.int .i64 c.kind) ∧ w.cell? ⟨b, o + 1, none⟩ = some (.string c.key) ∧ w.cell? ⟨b, o + 2, none⟩ = some (.int .i64 c.old.kind) ∧ w.cell? ⟨b, o + 3, none⟩ = some (.float .f64 c.old.num) ∧ w.cell? ⟨b, o + 4, none⟩ = some (.string c.old.text) ∧
  w.cell? ⟨b, o + 5, none⟩ = some (.int .i64 c.val.kind) ∧ w.cell? ⟨b, o + 6, none⟩ = some (.float .f64 c.val.num) ∧ w.cell? ⟨b, o + 7, none⟩ = some (.string c.val.text)
structure CmdsAt (w : World) (a : Option Addr) (C : List Cm) : Prop where
  ok : ∀ c ∈ C, c.ok
  at_ : 0 < C.length → ∃ b off, a = some ⟨b, off, none⟩ ∧ ∀ i, i < C.length → (C.getD i Cm.zero).at_ w b (off + i * 8)
theorem Cm.at_.below {w w' : World} {c : Cm} {b o : Nat} (h : c.at_ w b o) (hk : Below w.heap.size w w') : c.at_ w' b o := by
  have g : ∀ j v, w.cell? ⟨b, j, none⟩ = some v → w'.cell? ⟨b, j, none⟩ = some v := fun j v hc => (World.cell?_of_block (w := w) (hk.block b (World.block_lt_of_cell? w _ hc))).trans hc
  exact ⟨g _ _ h.1, g _ _ h.2.1, g _ _ h.2.2.1, g _ _ h.2.2.2.1, g _ _ h.2.2.2.2.1, g _ _ h.2.2.2.2.2.1, g _ _ h.2.2.2.2.2.2.1, g _ _ h.2.2.2.2.2.2.2⟩
theorem CmdsAt.below {w w' : World} {a : Option Addr} {C : List Cm} (h : CmdsAt w a C) (hk : Below w.heap.size w w') : CmdsAt w' a C := by
  refine ⟨h.ok, fun h0 => ?_⟩
  obtain ⟨b, off, ha, hc⟩ := h.at_ h0
  exact ⟨b, off, ha, fun i hi => (hc i hi).below hk⟩
theorem CmdsAt.get {w : World} {a : Option Addr} {C : List Cm} (h : CmdsAt w a C) {i : Nat} (hi : i < C.length) : (C.getD i Cm.zero).ok := h.ok _ (by simp [hi])
end Go.Proofs.Ytlgmjkbaihpmmaa.Kv
