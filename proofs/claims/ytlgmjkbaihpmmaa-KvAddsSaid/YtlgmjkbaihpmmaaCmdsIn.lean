/- Pairs, a command, a value that are handed in. -/
import Derived.Test.YtlgmjkbaihpmmaaCmdsAt
import Derived.WideShapes
import Derived.ChangeArms
import Derived.OpenShut
import Derived.Deep.Fields
namespace Go.Proofs.Ytlgmjkbaihpmmaa.Kv
open Go Go.ChangeShapes Go.WideShapes Go.RowKit Go.Deep Vl Nm Mem

theorem choose_lt {α : Type} [Inhabited α] {n : Nat} {p : Nat → α → Prop} (h : ∀ i, i < n → ∃ x, p i x) : ∃ f : Nat → α, ∀ i, i < n → p i (f i) :=
  ⟨fun i => if hi : i < n then Classical.choose (h i hi) else default, fun i hi => by
    show p i (if hi : i < n then Classical.choose (h i hi) else default)
    rw [dif_pos hi]; exact Classical.choose_spec (h i hi)⟩
theorem trod_float1 {H : Type} {enc : TypeId × Value → H} {P : Program} {w : World} {base : Nat} {spare : Nat → Bool} {held : Bool} {n : Nat} {t : TypeId} {v : Value} {x : DataW H × List MemPlace}
    (ht : P.underlying t = some (.float .f64)) (h : DataW.trod enc P w base spare held n t [v] = some x) : ∃ b, v = .float .f64 b ∧ b < 18446744073709551616 := by
  cases n with
  | zero => simp [DataW.trod] at h
  | succ n =>
    cases v <;> simp only [DataW.trod, ht] at h <;> first | (cases h; done) | skip
    rename_i k' b
    split at h
    · rename_i hk
      obtain ⟨rfl, hw⟩ := hk
      exact ⟨b, rfl, by simpa [Lit.wf] using hw⟩
    · cases h
theorem trod_int1 {H : Type} {enc : TypeId × Value → H} {P : Program} {w : World} {base : Nat} {spare : Nat → Bool} {held : Bool} {n : Nat} {t : TypeId} {v : Value} {x : DataW H × List MemPlace}
    (ht : P.underlying t = some (.int .i64)) (h : DataW.trod enc P w base spare held n t [v] = some x) : ∃ q, v = .int .i64 q := by
  obtain ⟨q, hq, _, _⟩ := DataW.trod_int ht h
  exact ⟨q, by simpa using hq⟩
theorem trod_string1 {H : Type} {enc : TypeId × Value → H} {P : Program} {w : World} {base : Nat} {spare : Nat → Bool} {held : Bool} {n : Nat} {t : TypeId} {v : Value} {x : DataW H × List MemPlace}
    (ht : P.underlying t = some .string) (h : DataW.trod enc P w base spare held n t [v] = some x) : ∃ s, v = .string s := by
  obtain ⟨s, hs, _, _⟩ := DataW.trod_string ht h
  exact ⟨s, by simpa using hs⟩
set_option maxRecDepth 100000 in
theorem trod_value {H : Type} {enc : TypeId × Value → H} {w : World} {base : Nat} {spare : Nat → Bool} {held : Bool} {n : Nat} {v0 v1 v2 : Value} {x : DataW H × List MemPlace}
    (h : DataW.trod enc Try.prog w base spare held n 25 [v0, v1, v2] = some x) : ∃ v : V, v0 = .int .i64 v.kind ∧ v1 = .float .f64 v.num ∧ v2 = .string v.text ∧ v.num < 18446744073709551616 := by
  obtain ⟨ys, n', _, _, _, hyl, hf⟩ := DataW.trod_struct Try.underlying25 h
  have c3 : Try.prog.cellsOf 3 = 1 := by kernel_rfl
  have c30 : Try.prog.cellsOf 23 = 1 := by kernel_rfl
  have c9 : Try.prog.cellsOf 9 = 1 := by kernel_rfl
  match ys, hyl with
  | [y0, y1, y2], _ =>
    have t0 : DataW.trod enc Try.prog w base spare held n' 3 (([v0, v1, v2].drop 0).take (Try.prog.cellsOf 3)) = some y0 := hf 0 _ rfl
    rw [c3] at t0
    have t1 : DataW.trod enc Try.prog w base spare held n' 23 (([v0, v1, v2].drop 1).take (Try.prog.cellsOf 23)) = some y1 := hf 1 _ rfl
    rw [c30] at t1
    have t2 : DataW.trod enc Try.prog w base spare held n' 9 (([v0, v1, v2].drop 2).take (Try.prog.cellsOf 9)) = some y2 := hf 2 _ rfl
    rw [c9] at t2
    obtain ⟨q0, rfl⟩ := trod_int1 Try.underlying3 (x := y0) t0
    obtain ⟨q1, rfl, b1⟩ := trod_float1 Try.underlying23 (x := y1) t1
    obtain ⟨s, rfl⟩ := trod_string1 Try.underlying9 (x := y2) t2
    exact ⟨⟨q0, q1, s⟩, rfl, rfl, rfl, b1⟩
def Pr.cell (p : Pr) (j : Nat) : Option Value := p.cells[j]?
set_option maxRecDepth 100000 in
theorem pair_of {H : Type} {enc : TypeId × Value → H} {w : World} {base : Nat} {spare : Nat → Bool} {held : Bool} {a : Addr} {n : Nat} {cs : List Value} {z : DataW H × List MemPlace}
    (hcs : w.cells? base a 4 = some cs) (ht : DataW.trod enc Try.prog w base spare held n 70 cs = some z) : ∃ y : Pr, y.val.num < 18446744073709551616 ∧ ∀ j : Nat, j < 4 → w.cell? (a.add j) = y.cell j := by
  obtain ⟨_, hlen, hat⟩ := World.cells?_some hcs
  obtain ⟨ys, n', _, _, _, hyl, hf⟩ := DataW.trod_struct Try.underlying70 ht
  have c9 : Try.prog.cellsOf 9 = 1 := by kernel_rfl
  have cv : Try.prog.cellsOf 25 = 3 := by kernel_rfl
  match cs, hlen, ys, hyl with
  | [v0, v1, v2, v3], _, [y0, y1], _ =>
    have t0 : DataW.trod enc Try.prog w base spare held n' 9 (([v0, v1, v2, v3].drop 0).take (Try.prog.cellsOf 9)) = some y0 := hf 0 _ rfl
    rw [c9] at t0
    have t1 : DataW.trod enc Try.prog w base spare held n' 25 (([v0, v1, v2, v3].drop 1).take (Try.prog.cellsOf 25)) = some y1 := hf 1 _ rfl
    rw [cv] at t1
    obtain ⟨s, rfl⟩ := trod_string1 Try.underlying9 (x := y0) t0
    obtain ⟨v, rfl, rfl, rfl, hv⟩ := trod_value (x := y1) t1
    refine ⟨⟨s, v⟩, hv, fun j hj => ?_⟩
    rw [hat j hj]
    match j, hj with
    | 0, _ => rfl
    | 1, _ => rfl
    | 2, _ => rfl
    | 3, _ => rfl
/-- pairs that came in -/
def PairsIn (w : World) (a : Option Addr) (len cap : Nat) : Prop := ∃ L : List Pr, L.length = len ∧ PairsAt w a cap L ∧ Fits L
set_option maxRecDepth 100000 in
theorem in_pairs {H : Type} {enc : TypeId × Value → H} {w : World} {base : Nat} {spare : Nat → Bool} {held : Bool} {a : Option Addr} {len cap : Nat} {d : DataW H} {ps : List MemPlace}
    (h : DataW.Trod enc Try.prog w base spare held 31 (.slice a len cap) d ps) : PairsIn w a len cap := by
  obtain ⟨fuel, hf⟩ := h
  have hC : Try.prog.cellsOf 70 = 4 := by kernel_rfl
  rcases open_slice Try.underlying31 hf with ⟨h1, _⟩ | ⟨x, len', cap', m, n, D, Pl, h1, _, hl, hm, hmm, _, hx⟩
  · simp [Value.cells] at h1
    obtain ⟨rfl, rfl, rfl⟩ := h1
    exact ⟨[], rfl, PairsAt.empty _, Fits.nil⟩
  · simp [Value.cells] at h1
    obtain ⟨rfl, rfl, rfl⟩ := h1
    rw [hC] at hx
    have hle : len ≤ m := by rw [hmm]; split <;> omega
    have hV : ∀ i, i < len → ∃ y : Pr, y.val.num < 18446744073709551616 ∧ ∀ j : Nat, j < 4 → w.cell? ((x.add (i * 4)).add j) = y.cell j := fun i hi => by
      obtain ⟨cs, hcs, ht⟩ := hx i (by omega)
      exact pair_of hcs ht
    obtain ⟨f, hf2⟩ := choose_lt hV
    refine ⟨(List.range len).map f, by simp, ⟨by simpa using hl, by unfold maxLen at hm; omega, fun h => (by cases h), fun h0 => ?_⟩, fun y hy => ?_⟩
    · simp at h0
      obtain ⟨b, off, spot⟩ := x
      have c0 := (hf2 0 (by omega)).2 0 (by decide)
      have hspot : spot = Option.none := by
        have : w.cell? (((⟨b, off, spot⟩ : Addr).add (0 * 4)).add 0) = some (.string (f 0).key) := c0
        simpa [Addr.add] using World.cell?_spot this
      subst hspot
      refine ⟨b, off, rfl, fun i hi => ?_⟩
      simp at hi
      have hg : ((List.range len).map f).getD i Pr.zero = f i := by simp [hi]
      rw [hg]
      have hc := (hf2 i hi).2
      have e : ∀ j, ((⟨b, off, Option.none⟩ : Addr).add (i * 4)).add j = ⟨b, off + i * 4 + j, Option.none⟩ := fun j => by
        rw [Go.WideShapes.add_plain, Go.WideShapes.add_plain]
      simp only [e] at hc
      exact ⟨hc 0 (by decide), hc 1 (by decide), hc 2 (by decide), hc 3 (by decide)⟩
    · obtain ⟨i, hi, rfl⟩ := List.mem_map.1 hy
      exact (hf2 i (List.mem_range.1 hi)).1
set_option maxRecDepth 100000 in
theorem trod_cmd {H : Type} {enc : TypeId × Value → H} {w : World} {base : Nat} {spare : Nat → Bool} {held : Bool} {n : Nat} {cs : List Value} {z : DataW H × List MemPlace} (hlen : cs.length = 8)
    (ht : DataW.trod enc Try.prog w base spare held n 27 cs = some z) : ∃ c : Cm, c.ok ∧ cs = c.cells := by
  obtain ⟨ys, n', _, _, _, hyl, hf⟩ := DataW.trod_struct Try.underlying27 ht
  have c3 : Try.prog.cellsOf 3 = 1 := by kernel_rfl
  have c9 : Try.prog.cellsOf 9 = 1 := by kernel_rfl
  have cv : Try.prog.cellsOf 25 = 3 := by kernel_rfl
  match cs, hlen, ys, hyl with
  | [v0, v1, v2, v3, v4, v5, v6, v7], _, [y0, y1, y2, y3], _ =>
    have t0 : DataW.trod enc Try.prog w base spare held n' 3 (([v0, v1, v2, v3, v4, v5, v6, v7].drop 0).take (Try.prog.cellsOf 3)) = some y0 := hf 0 _ rfl
    rw [c3] at t0
    have t1 : DataW.trod enc Try.prog w base spare held n' 9 (([v0, v1, v2, v3, v4, v5, v6, v7].drop 1).take (Try.prog.cellsOf 9)) = some y1 := hf 1 _ rfl
    rw [c9] at t1
    have t2 : DataW.trod enc Try.prog w base spare held n' 25 (([v0, v1, v2, v3, v4, v5, v6, v7].drop 2).take (Try.prog.cellsOf 25)) = some y2 := hf 2 _ rfl
    rw [cv] at t2
    have t3 : DataW.trod enc Try.prog w base spare held n' 25 (([v0, v1, v2, v3, v4, v5, v6, v7].drop 5).take (Try.prog.cellsOf 25)) = some y3 := hf 3 _ rfl
    rw [cv] at t3
    obtain ⟨q, rfl⟩ := trod_int1 Try.underlying3 (x := y0) t0
    obtain ⟨s, rfl⟩ := trod_string1 Try.underlying9 (x := y1) t1
    obtain ⟨u, rfl, rfl, rfl, hu⟩ := trod_value (x := y2) t2
    obtain ⟨v, rfl, rfl, rfl, hv⟩ := trod_value (x := y3) t3
    exact ⟨⟨q, s, u, v⟩, ⟨hu, hv⟩, rfl⟩
set_option maxRecDepth 100000 in
theorem in_cmd {H : Type} {enc : TypeId × Value → H} {w w0 : World} {r : Reach} {b0 base : Nat} {spare : Nat → Bool} {held : Bool} {x : Value} {d : DataW H} {ps : List MemPlace}
    (hv : Value.okWide Try.prog w0 r b0 27 x) (h : DataW.Trod enc Try.prog w base spare held 27 x d ps) : ∃ c : Cm, x = c.agg ∧ c.ok := by
  obtain ⟨cs, rfl, hsz⟩ := okWide_struct Try.underlying27 hv
  obtain ⟨fuel, hf⟩ := h
  have hC : Try.prog.cellsOf 27 = 8 := by kernel_rfl
  rw [hC] at hsz
  obtain ⟨l⟩ := cs
  obtain ⟨c, hc, hl⟩ := trod_cmd hsz hf
  have hl : l = c.cells := hl
  subst hl
  exact ⟨c, rfl, hc⟩
set_option maxRecDepth 100000 in
theorem in_value {H : Type} {enc : TypeId × Value → H} {w w0 : World} {r : Reach} {b0 base : Nat} {spare : Nat → Bool} {held : Bool} {x : Value} {d : DataW H} {ps : List MemPlace}
    (hv : Value.okWide Try.prog w0 r b0 25 x) (h : DataW.Trod enc Try.prog w base spare held 25 x d ps) : ∃ v : V, x = v.val ∧ v.num < 18446744073709551616 := by
  obtain ⟨cs, rfl, hsz⟩ := okWide_struct Try.underlying25 hv
  obtain ⟨fuel, hf⟩ := h
  have hC : Try.prog.cellsOf 25 = 3 := by kernel_rfl
  rw [hC] at hsz
  obtain ⟨l⟩ := cs
  match l, hsz with
  | [v0, v1, v2], _ =>
    obtain ⟨v, rfl, rfl, rfl, hb⟩ := trod_value hf
    exact ⟨v, rfl, hb⟩
end Go.Proofs.Ytlgmjkbaihpmmaa.Kv
