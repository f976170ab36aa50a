import Derived.Test.YtaifjkilmdnfbaaMergeLgP
import Derived.Test.YtaifjkilmdnfbaaMergeLgM
import Derived.Test.YtaifjkilmdnfbaaBoxes0
import Derived.WideShapes
/- Pairs in memory: read, appended to. No program's function. -/
namespace Go.Proofs.Ytaifjkilmdnfbaa.Kv
open Go Go.RowKit Vl Nm Mem
def Pr.cells (p : Pr) : List Value := [.string p.key, .int .i64 p.val.kind, .float .f64 p.val.num, .string p.val.text]
@[reducible] def Pr.agg (p : Pr) : Value := .agg #[.string p.key, .int .i64 p.val.kind, .float .f64 p.val.num, .string p.val.text]
@[reducible] def Cm.agg (c : Cm) : Value := .agg #[.int .i64 c.kind, .string c.key, .int .i64 c.old.kind, .float .f64 c.old.num, .string c.old.text, .int .i64 c.val.kind, .float .f64 c.val.num, .string c.val.text]
/-- a reply -/
@[reducible] def rep (code : Int) (v : V) : Value := .agg #[.int .i64 code, .int .i64 v.kind, .float .f64 v.num, .string v.text]
def flat (L : List Pr) : List Value := L.flatMap Pr.cells
theorem flat_nil : flat [] = [] := rfl
theorem flat_append (L M : List Pr) : flat (L ++ M) = flat L ++ flat M := by unfold flat; rw [List.flatMap_append]
theorem flat_length (L : List Pr) : (flat L).length = L.length * 4 := by
  induction L with
  | nil => rfl
  | cons p r ih =>
    show (p.cells ++ flat r).length = _
    rw [List.length_append, ih, List.length_cons]
    show 4 + _ = _
    omega
theorem flat_at (L : List Pr) : ∀ i j, i < L.length → j < 4 → (flat L)[i * 4 + j]? = (L.getD i Pr.zero).cells[j]? := by
  induction L with
  | nil => intro i j hi; simp at hi
  | cons p r ih =>
    intro i j hi hj
    show (p.cells ++ flat r)[i * 4 + j]? = _
    have hl : p.cells.length = 4 := rfl
    cases i with
    | zero => rw [Nat.zero_mul, Nat.zero_add, List.getElem?_append_left (by omega)]; rfl
    | succ i =>
      rw [List.getElem?_append_right (by omega), hl, show (i + 1) * 4 + j - 4 = i * 4 + j by omega, ih i j (by simpa using hi) hj]
      rfl
theorem flat_one {L : List Pr} : ∀ u ∈ flat L, u.oneCell' = true := by
  intro u hu
  obtain ⟨p, _, h⟩ := List.mem_flatMap.1 hu
  simp only [Pr.cells, List.mem_cons, List.not_mem_nil, or_false] at h
  rcases h with rfl | rfl | rfl | rfl <;> rfl
/-- the cells of a pair at an address -/
def Pr.at_ (w : World) (b o : Nat) (p : Pr) : Prop :=
  w.cell? ⟨b, o, none⟩ = some (.string p.key) ∧ w.cell? ⟨b, o + 1, none⟩ = some (.int .i64 p.val.kind) ∧ w.cell? ⟨b, o + 2, none⟩ = some (.float .f64 p.val.num) ∧ w.cell? ⟨b, o + 3, none⟩ = some (.string p.val.text)
structure PairsAt (w : World) (a : Option Addr) (cap : Nat) (L : List Pr) : Prop where
  len : L.length ≤ cap
  max : cap ≤ 9223372036854775807
  nil : a = none → cap = 0
  at_ : 0 < L.length → ∃ b off, a = some ⟨b, off, none⟩ ∧ ∀ i, i < L.length → (L.getD i Pr.zero).at_ w b (off + i * 4)
theorem Pr.at_.below {w w' : World} {p : Pr} {b o : Nat} (h : p.at_ w b o) (hk : Below w.heap.size w w') : p.at_ w' b o := by
  have g : ∀ j v, w.cell? ⟨b, j, none⟩ = some v → w'.cell? ⟨b, j, none⟩ = some v := fun j v hc => (World.cell?_of_block (w := w) (hk.block b (World.block_lt_of_cell? w _ hc))).trans hc
  exact ⟨g _ _ h.1, g _ _ h.2.1, g _ _ h.2.2.1, g _ _ h.2.2.2⟩
theorem PairsAt.below {w w' : World} {a : Option Addr} {cap : Nat} {L : List Pr} (h : PairsAt w a cap L) (hk : Below w.heap.size w w') : PairsAt w' a cap L := by
  refine ⟨h.len, h.max, h.nil, fun h0 => ?_⟩
  obtain ⟨b, off, ha, hc⟩ := h.at_ h0
  exact ⟨b, off, ha, fun i hi => (hc i hi).below hk⟩
theorem PairsAt.alloc {w : World} {a : Option Addr} {cap : Nat} {L : List Pr} (h : PairsAt w a cap L) (o : Obj) : PairsAt (w.alloc o) a cap L := h.below (below_alloc _ _)
theorem PairsAt.empty (w : World) : PairsAt w none 0 [] := ⟨Nat.le_refl _, by omega, fun _ => rfl, fun h => by simp at h⟩
theorem PairsAt.bare {w : World} {cap : Nat} {L : List Pr} (h : PairsAt w none cap L) : L = [] ∧ cap = 0 := by
  have := h.nil rfl
  have := h.len
  exact ⟨List.eq_nil_of_length_eq_zero (by omega), by omega⟩
theorem PairsAt.src {w : World} {a : Option Addr} {cap : Nat} {L : List Pr} (h : PairsAt w a cap L) : SrcC 4 w a cap L.length (flat L) := by
  refine ⟨flat_length L, fun ha => ⟨by have := h.nil ha; have := h.len; omega, h.nil ha⟩, fun ad ha j u hu => ?_⟩
  obtain ⟨hj, _⟩ := List.getElem?_eq_some_iff.1 hu
  rw [flat_length] at hj
  obtain ⟨b, off, ha2, hc⟩ := h.at_ (by omega)
  rw [ha] at ha2
  injection ha2 with ha2
  subst ha2
  have hadd : (⟨b, off, Option.none⟩ : Addr).add j = ⟨b, off + j, Option.none⟩ := by unfold Addr.add; split <;> simp_all
  rw [hadd]
  have hd : j = j / 4 * 4 + j % 4 := by omega
  have hi : j / 4 < L.length := by omega
  have h4 : j % 4 < 4 := Nat.mod_lt _ (by decide)
  have hcc := hc (j / 4) hi
  rw [hd, flat_at L (j / 4) (j % 4) hi h4] at hu
  have e : off + j = off + j / 4 * 4 + j % 4 := by omega
  rw [e]
  generalize j % 4 = q at *
  generalize L.getD (j / 4) Pr.zero = p at *
  match q, h4 with
  | 0, _ => simp [Pr.cells] at hu; subst hu; exact hcc.1
  | 1, _ => simp [Pr.cells] at hu; subst hu; exact hcc.2.1
  | 2, _ => simp [Pr.cells] at hu; subst hu; exact hcc.2.2.1
  | 3, _ => simp [Pr.cells] at hu; subst hu; exact hcc.2.2.2
/-- pairs that the call has made itself -/
@[reducible] def OwnP (e : TypeId) (w : World) (b : Nat) (a : Option Addr) (cap : Nat) (L : List Pr) : Prop := OwnC e 4 w b a cap L.length (flat L)
theorem OwnP.pairs {e : TypeId} {w : World} {b : Nat} {a : Option Addr} {cap : Nat} {L : List Pr} (h : OwnP e w b a cap L) : PairsAt w a cap L := by
  have hl := flat_length L
  refine ⟨?_, ?_, fun ha => ?_, fun h0 => ?_⟩
  · rcases h.2 with ⟨_, h1, h2⟩ | ⟨_, h1, _⟩ <;> omega
  · rcases h.2 with ⟨_, h1, h2⟩ | ⟨_, _, h1, _⟩
    · omega
    · unfold maxLen at h1; omega
  · rcases h.2 with ⟨_, h1, h2⟩ | ⟨h1, _⟩
    · exact h1
    · rw [h1] at ha; cases ha
  · have hf := (h.cell (j := 0) (by omega)).1
    refine ⟨b, 0, hf, fun i hi => ?_⟩
    have g : ∀ j, j < 4 → w.cell? ⟨b, 0 + i * 4 + j, Option.none⟩ = (L.getD i Pr.zero).cells[j]? := fun j hj => by
      have hlt : i * 4 + j < (flat L).length := by omega
      have := (h.cell hlt).2.1
      rw [Nat.zero_add, this, ← List.getElem?_eq_getElem hlt, flat_at L i j hi hj]
    exact ⟨g 0 (by decide), g 1 (by decide), g 2 (by decide), g 3 (by decide)⟩
theorem getD_lt {L : List Pr} {i : Nat} (h : i < L.length) : L.getD i Pr.zero = L[i] := by simp [h]
theorem getD_mem {L : List Pr} {i : Nat} (h : i < L.length) : L.getD i Pr.zero ∈ L := by rw [getD_lt h]; exact List.getElem_mem h
/-- one pair more -/
theorem take_next {L : List Pr} {i : Nat} (h : i < L.length) : L.take (i + 1) = L.take i ++ [L.getD i Pr.zero] := by rw [List.take_succ_eq_append_getElem h, getD_lt h]
/-- a part of pairs -/
theorem PairsAt.take {w : World} {a : Option Addr} {cap : Nat} {L : List Pr} (h : PairsAt w a cap L) {n : Nat} (hn : n ≤ L.length) : PairsAt w a cap (L.take n) := by
  refine ⟨by rw [List.length_take]; have := h.len; omega, h.max, h.nil, fun h0 => ?_⟩
  rw [List.length_take] at h0
  obtain ⟨b, off, ha, hc⟩ := h.at_ (by omega)
  refine ⟨b, off, ha, fun i hi => ?_⟩
  rw [List.length_take] at hi
  have := hc i (by omega)
  rw [getD_lt (by omega)] at this
  rw [getD_lt (by rw [List.length_take]; omega), List.getElem_take]
  exact this
theorem PairsAt.drop {w : World} {ad : Addr} {cap : Nat} {L : List Pr} (h : PairsAt w (some ad) cap L) {n : Nat} (hn : n ≤ L.length) : PairsAt w (some (ad.add (n * 4))) (cap - n) (L.drop n) := by
  refine ⟨by rw [List.length_drop]; have := h.len; omega, by have := h.max; omega, fun e => (by cases e), fun h0 => ?_⟩
  rw [List.length_drop] at h0
  obtain ⟨b, off, ha, hc⟩ := h.at_ (by omega)
  injection ha with ha
  subst ha
  refine ⟨b, off + n * 4, by rw [Go.WideShapes.add_plain], fun i hi => ?_⟩
  rw [List.length_drop] at hi
  have := hc (n + i) (by omega)
  rw [getD_lt (by omega)] at this
  rw [getD_lt (by rw [List.length_drop]; omega), List.getElem_drop]
  rw [show off + n * 4 + i * 4 = off + (n + i) * 4 by omega]
  exact this
end Go.Proofs.Ytaifjkilmdnfbaa.Kv
