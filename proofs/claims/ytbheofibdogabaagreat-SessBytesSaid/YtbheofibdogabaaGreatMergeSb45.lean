import Derived.Test.YtbheofibdogabaaGreatMergeSb41
import Derived.WideShapes
import Derived.ChangeArms
import Derived.OpenShut
import Derived.Deep.Fields
import Derived.Test.YtbheofibdogabaaGreatMergeSb3
import Derived.Test.YtbheofibdogabaaGreatMergeSb12
section
/- A command, a value that are handed in. -/
namespace Go.Proofs.YtbheofibdogabaaGreat.Kv
open Go Go.ChangeShapes Go.WideShapes Go.RowKit Go.Deep Vl Nm Mem
theorem choose_lt {α : Type} [Inhabited α] {n : Nat} {p : Nat → α → Prop} (h : ∀ i, i < n → ∃ x, p i x) : ∃ f : Nat → α, ∀ i, i < n → p i (f i) :=
  ⟨fun i => if hi : i < n then Classical.choose (h i hi) else default, fun i hi => by
    show p i (if hi : i < n then Classical.choose (h i hi) else default)
    rw [dif_pos hi]; exact Classical.choose_spec (h i hi)⟩
theorem trod_float1 {H : Type} {enc : TypeId × Value → H} {P : Program} {w : World} {base : Nat} {spare : Nat → Bool} {held : Bool} {n : Nat} {t : TypeId} {v : Value} {x : DataW H × List MemPlace}
    (ht : P.underlying t = some (.float .f64)) (h : DataW.trod enc P w base spare held n t [v] = some x) : ∃ b, v = .float .f64 b ∧ b < 18446744073709551616 := by
  cases n with
  | zero => simp [DataW.trod] at h
  | succ n =>
    cases v <;> simp only [DataW.trod, ht] at h <;> first | (cases h; done) | skip
    rename_i k' b
    split at h
    · rename_i hk
      obtain ⟨rfl, hw⟩ := hk
      exact ⟨b, rfl, by simpa [Lit.wf] using hw⟩
    · cases h
theorem trod_int1 {H : Type} {enc : TypeId × Value → H} {P : Program} {w : World} {base : Nat} {spare : Nat → Bool} {held : Bool} {n : Nat} {t : TypeId} {v : Value} {x : DataW H × List MemPlace}
    (ht : P.underlying t = some (.int .i64)) (h : DataW.trod enc P w base spare held n t [v] = some x) : ∃ q, v = .int .i64 q := by
  obtain ⟨q, hq, _, _⟩ := DataW.trod_int ht h
  exact ⟨q, by simpa using hq⟩
theorem trod_string1 {H : Type} {enc : TypeId × Value → H} {P : Program} {w : World} {base : Nat} {spare : Nat → Bool} {held : Bool} {n : Nat} {t : TypeId} {v : Value} {x : DataW H × List MemPlace}
    (ht : P.underlying t = some .string) (h : DataW.trod enc P w base spare held n t [v] = some x) : ∃ s, v = .string s := by
  obtain ⟨s, hs, _, _⟩ := DataW.trod_string ht h
  exact ⟨s, by simpa using hs⟩
set_option maxRecDepth 100000 in
theorem trod_value {H : Type} {enc : TypeId × Value → H} {w : World} {base : Nat} {spare : Nat → Bool} {held : Bool} {n : Nat} {v0 v1 v2 : Value} {x : DataW H × List MemPlace}
    (h : DataW.trod enc Tryz.prog w base spare held n 50 [v0, v1, v2] = some x) : ∃ v : V, v0 = .int .i64 v.kind ∧ v1 = .float .f64 v.num ∧ v2 = .string v.text ∧ v.num < 18446744073709551616 := by
  obtain ⟨ys, n', _, _, _, hyl, hf⟩ := DataW.trod_struct Tryz.underlying50 h
  have c3 : Tryz.prog.cellsOf 3 = 1 := by kernel_rfl
  have c30 : Tryz.prog.cellsOf 48 = 1 := by kernel_rfl
  have c9 : Tryz.prog.cellsOf 9 = 1 := by kernel_rfl
  match ys, hyl with
  | [y0, y1, y2], _ =>
    have t0 : DataW.trod enc Tryz.prog w base spare held n' 3 (([v0, v1, v2].drop 0).take (Tryz.prog.cellsOf 3)) = some y0 := hf 0 _ rfl
    rw [c3] at t0
    have t1 : DataW.trod enc Tryz.prog w base spare held n' 48 (([v0, v1, v2].drop 1).take (Tryz.prog.cellsOf 48)) = some y1 := hf 1 _ rfl
    rw [c30] at t1
    have t2 : DataW.trod enc Tryz.prog w base spare held n' 9 (([v0, v1, v2].drop 2).take (Tryz.prog.cellsOf 9)) = some y2 := hf 2 _ rfl
    rw [c9] at t2
    obtain ⟨q0, rfl⟩ := trod_int1 Tryz.underlying3 (x := y0) t0
    obtain ⟨q1, rfl, b1⟩ := trod_float1 Tryz.underlying48 (x := y1) t1
    obtain ⟨s, rfl⟩ := trod_string1 Tryz.underlying9 (x := y2) t2
    exact ⟨⟨q0, q1, s⟩, rfl, rfl, rfl, b1⟩
set_option maxRecDepth 100000 in
theorem trod_cmd {H : Type} {enc : TypeId × Value → H} {w : World} {base : Nat} {spare : Nat → Bool} {held : Bool} {n : Nat} {cs : List Value} {z : DataW H × List MemPlace} (hlen : cs.length = 8)
    (ht : DataW.trod enc Tryz.prog w base spare held n 82 cs = some z) : ∃ c : Cm, c.ok ∧ cs = c.cells := by
  obtain ⟨ys, n', _, _, _, hyl, hf⟩ := DataW.trod_struct Tryz.underlying82 ht
  have c3 : Tryz.prog.cellsOf 3 = 1 := by kernel_rfl
  have c9 : Tryz.prog.cellsOf 9 = 1 := by kernel_rfl
  have cv : Tryz.prog.cellsOf 50 = 3 := by kernel_rfl
  match cs, hlen, ys, hyl with
  | [v0, v1, v2, v3, v4, v5, v6, v7], _, [y0, y1, y2, y3], _ =>
    have t0 : DataW.trod enc Tryz.prog w base spare held n' 3 (([v0, v1, v2, v3, v4, v5, v6, v7].drop 0).take (Tryz.prog.cellsOf 3)) = some y0 := hf 0 _ rfl
    rw [c3] at t0
    have t1 : DataW.trod enc Tryz.prog w base spare held n' 9 (([v0, v1, v2, v3, v4, v5, v6, v7].drop 1).take (Tryz.prog.cellsOf 9)) = some y1 := hf 1 _ rfl
    rw [c9] at t1
    have t2 : DataW.trod enc Tryz.prog w base spare held n' 50 (([v0, v1, v2, v3, v4, v5, v6, v7].drop 2).take (Tryz.prog.cellsOf 50)) = some y2 := hf 2 _ rfl
    rw [cv] at t2
    have t3 : DataW.trod enc Tryz.prog w base spare held n' 50 (([v0, v1, v2, v3, v4, v5, v6, v7].drop 5).take (Tryz.prog.cellsOf 50)) = some y3 := hf 3 _ rfl
    rw [cv] at t3
    obtain ⟨q, rfl⟩ := trod_int1 Tryz.underlying3 (x := y0) t0
    obtain ⟨s, rfl⟩ := trod_string1 Tryz.underlying9 (x := y1) t1
    obtain ⟨u, rfl, rfl, rfl, hu⟩ := trod_value (x := y2) t2
    obtain ⟨v, rfl, rfl, rfl, hv⟩ := trod_value (x := y3) t3
    exact ⟨⟨q, s, u, v⟩, ⟨hu, hv⟩, rfl⟩
set_option maxRecDepth 100000 in
theorem in_cmd {H : Type} {enc : TypeId × Value → H} {w w0 : World} {r : Reach} {b0 base : Nat} {spare : Nat → Bool} {held : Bool} {x : Value} {d : DataW H} {ps : List MemPlace}
    (hv : Value.okWide Tryz.prog w0 r b0 82 x) (h : DataW.Trod enc Tryz.prog w base spare held 82 x d ps) : ∃ c : Cm, x = c.agg ∧ c.ok := by
  obtain ⟨cs, rfl, hsz⟩ := okWide_struct Tryz.underlying82 hv
  obtain ⟨fuel, hf⟩ := h
  have hC : Tryz.prog.cellsOf 82 = 8 := by kernel_rfl
  rw [hC] at hsz
  obtain ⟨l⟩ := cs
  obtain ⟨c, hc, hl⟩ := trod_cmd hsz hf
  have hl : l = c.cells := hl
  subst hl
  exact ⟨c, rfl, hc⟩
set_option maxRecDepth 100000 in
theorem in_value {H : Type} {enc : TypeId × Value → H} {w w0 : World} {r : Reach} {b0 base : Nat} {spare : Nat → Bool} {held : Bool} {x : Value} {d : DataW H} {ps : List MemPlace}
    (hv : Value.okWide Tryz.prog w0 r b0 50 x) (h : DataW.Trod enc Tryz.prog w base spare held 50 x d ps) : ∃ v : V, x = v.val ∧ v.num < 18446744073709551616 := by
  obtain ⟨cs, rfl, hsz⟩ := okWide_struct Tryz.underlying50 hv
  obtain ⟨fuel, hf⟩ := h
  have hC : Tryz.prog.cellsOf 50 = 3 := by kernel_rfl
  rw [hC] at hsz
  obtain ⟨l⟩ := cs
  match l, hsz with
  | [v0, v1, v2], _ =>
    obtain ⟨v, rfl, rfl, rfl, hb⟩ := trod_value hf
    exact ⟨v, rfl, hb⟩
end Go.Proofs.YtbheofibdogabaaGreat.Kv
end
section
/- A call in memory, and what comes in of one. -/
namespace Go.Proofs.YtbheofibdogabaaGreat.Ss
open Go Go.ChangeShapes Go.WideShapes Go.RowKit Go.Deep Vl Nm Mem Kv
def Cl.ok (c : Cl) : Prop := c.cmd.ok
def Cl.cells (c : Cl) : List Value := [.int .i64 c.client, .int .i64 c.seq, .int .i64 c.cmd.kind, .string c.cmd.key, .int .i64 c.cmd.old.kind, .float .f64 c.cmd.old.num, .string c.cmd.old.text, .int .i64 c.cmd.val.kind, .float .f64 c.cmd.val.num, .string c.cmd.val.text]
def Cl.cell (c : Cl) (j : Nat) : Option Value := c.cells[j]?
def Cl.at_ (w : World) (b o : Nat) (c : Cl) : Prop :=
  w.cell? ⟨b, o, none⟩ = some (.int .i64 c.client) ∧ w.cell? ⟨b, o + 1, none⟩ = some (.int .i64 c.seq) ∧ w.cell? ⟨b, o + 2, none⟩ = some (.int .i64 c.cmd.kind) ∧ w.cell? ⟨b, o + 3, none⟩ = some (.string c.cmd.key) ∧ w.cell? ⟨b, o + 4, none⟩ = some (.int .i64 c.cmd.old.kind) ∧
  w.cell? ⟨b, o + 5, none⟩ = some (.float .f64 c.cmd.old.num) ∧ w.cell? ⟨b, o + 6, none⟩ = some (.string c.cmd.old.text) ∧ w.cell? ⟨b, o + 7, none⟩ = some (.int .i64 c.cmd.val.kind) ∧ w.cell? ⟨b, o + 8, none⟩ = some (.float .f64 c.cmd.val.num) ∧ w.cell? ⟨b, o + 9, none⟩ = some (.string c.cmd.val.text)
theorem Cl.at_.below {w w' : World} {c : Cl} {b o : Nat} (h : c.at_ w b o) (hk : Below w.heap.size w w') : c.at_ w' b o := by
  have g : ∀ j v, w.cell? ⟨b, j, none⟩ = some v → w'.cell? ⟨b, j, none⟩ = some v := fun j v hc => (World.cell?_of_block (w := w) (hk.block b (World.block_lt_of_cell? w _ hc))).trans hc
  obtain ⟨h0, h1, h2, h3, h4, h5, h6, h7, h8, h9⟩ := h
  exact ⟨g _ _ h0, g _ _ h1, g _ _ h2, g _ _ h3, g _ _ h4, g _ _ h5, g _ _ h6, g _ _ h7, g _ _ h8, g _ _ h9⟩
set_option maxRecDepth 100000 in
theorem trod_call {H : Type} {enc : TypeId × Value → H} {w : World} {base : Nat} {spare : Nat → Bool} {held : Bool} {n : Nat} {cs : List Value} {z : DataW H × List MemPlace} (hlen : cs.length = 10)
    (ht : DataW.trod enc Tryz.prog w base spare held n 84 cs = some z) : ∃ c : Cl, c.ok ∧ cs = c.cells := by
  obtain ⟨ys, n', _, _, _, hyl, hf⟩ := DataW.trod_struct Tryz.underlying84 ht
  have c3 : Tryz.prog.cellsOf 3 = 1 := by kernel_rfl
  have cc : Tryz.prog.cellsOf 82 = 8 := by kernel_rfl
  match cs, hlen, ys, hyl with
  | [v0, v1, v2, v3, v4, v5, v6, v7, v8, v9], _, [y0, y1, y2], _ =>
    have t0 : DataW.trod enc Tryz.prog w base spare held n' 3 (([v0, v1, v2, v3, v4, v5, v6, v7, v8, v9].drop 0).take (Tryz.prog.cellsOf 3)) = some y0 := hf 0 _ rfl
    rw [c3] at t0
    have t1 : DataW.trod enc Tryz.prog w base spare held n' 3 (([v0, v1, v2, v3, v4, v5, v6, v7, v8, v9].drop 1).take (Tryz.prog.cellsOf 3)) = some y1 := hf 1 _ rfl
    rw [c3] at t1
    have t2 : DataW.trod enc Tryz.prog w base spare held n' 82 (([v0, v1, v2, v3, v4, v5, v6, v7, v8, v9].drop 2).take (Tryz.prog.cellsOf 82)) = some y2 := hf 2 _ rfl
    rw [cc] at t2
    obtain ⟨q, rfl⟩ := trod_int1 Tryz.underlying3 (x := y0) t0
    obtain ⟨r, rfl⟩ := trod_int1 Tryz.underlying3 (x := y1) t1
    obtain ⟨c, hc, he⟩ := trod_cmd (z := y2) rfl t2
    have he : [v2, v3, v4, v5, v6, v7, v8, v9] = c.cells := he
    simp only [Cm.cells, List.cons.injEq, and_true] at he
    obtain ⟨rfl, rfl, rfl, rfl, rfl, rfl, rfl, rfl⟩ := he
    exact ⟨⟨q, r, c⟩, hc, rfl⟩
end Go.Proofs.YtbheofibdogabaaGreat.Ss
end
section
/- Pairs, a command, a value that are handed in. -/
namespace Go.Proofs.YtbheofibdogabaaGreat.Kv
open Go Go.ChangeShapes Go.WideShapes Go.RowKit Go.Deep Vl Nm Mem
def Pr.cell (p : Pr) (j : Nat) : Option Value := p.cells[j]?
set_option maxRecDepth 100000 in
theorem pair_of {H : Type} {enc : TypeId × Value → H} {w : World} {base : Nat} {spare : Nat → Bool} {held : Bool} {a : Addr} {n : Nat} {cs : List Value} {z : DataW H × List MemPlace}
    (hcs : w.cells? base a 4 = some cs) (ht : DataW.trod enc Tryz.prog w base spare held n 61 cs = some z) : ∃ y : Pr, y.val.num < 18446744073709551616 ∧ ∀ j : Nat, j < 4 → w.cell? (a.add j) = y.cell j := by
  obtain ⟨_, hlen, hat⟩ := World.cells?_some hcs
  obtain ⟨ys, n', _, _, _, hyl, hf⟩ := DataW.trod_struct Tryz.underlying61 ht
  have c9 : Tryz.prog.cellsOf 9 = 1 := by kernel_rfl
  have cv : Tryz.prog.cellsOf 50 = 3 := by kernel_rfl
  match cs, hlen, ys, hyl with
  | [v0, v1, v2, v3], _, [y0, y1], _ =>
    have t0 : DataW.trod enc Tryz.prog w base spare held n' 9 (([v0, v1, v2, v3].drop 0).take (Tryz.prog.cellsOf 9)) = some y0 := hf 0 _ rfl
    rw [c9] at t0
    have t1 : DataW.trod enc Tryz.prog w base spare held n' 50 (([v0, v1, v2, v3].drop 1).take (Tryz.prog.cellsOf 50)) = some y1 := hf 1 _ rfl
    rw [cv] at t1
    obtain ⟨s, rfl⟩ := trod_string1 Tryz.underlying9 (x := y0) t0
    obtain ⟨v, rfl, rfl, rfl, hv⟩ := trod_value (x := y1) t1
    refine ⟨⟨s, v⟩, hv, fun j hj => ?_⟩
    rw [hat j hj]
    match j, hj with
    | 0, _ => rfl
    | 1, _ => rfl
    | 2, _ => rfl
    | 3, _ => rfl
/-- pairs that came in -/
def PairsIn (w : World) (a : Option Addr) (len cap : Nat) : Prop := ∃ L : List Pr, L.length = len ∧ PairsAt w a cap L ∧ Fits L
set_option maxRecDepth 100000 in
theorem in_pairs {H : Type} {enc : TypeId × Value → H} {w : World} {base : Nat} {spare : Nat → Bool} {held : Bool} {a : Option Addr} {len cap : Nat} {d : DataW H} {ps : List MemPlace}
    (h : DataW.Trod enc Tryz.prog w base spare held 22 (.slice a len cap) d ps) : PairsIn w a len cap := by
  obtain ⟨fuel, hf⟩ := h
  have hC : Tryz.prog.cellsOf 61 = 4 := by kernel_rfl
  rcases open_slice Tryz.underlying22 hf with ⟨h1, _⟩ | ⟨x, len', cap', m, n, D, Pl, h1, _, hl, hm, hmm, _, hx⟩
  · simp [Value.cells] at h1
    obtain ⟨rfl, rfl, rfl⟩ := h1
    exact ⟨[], rfl, PairsAt.empty _, Fits.nil⟩
  · simp [Value.cells] at h1
    obtain ⟨rfl, rfl, rfl⟩ := h1
    rw [hC] at hx
    have hle : len ≤ m := by rw [hmm]; split <;> omega
    have hV : ∀ i, i < len → ∃ y : Pr, y.val.num < 18446744073709551616 ∧ ∀ j : Nat, j < 4 → w.cell? ((x.add (i * 4)).add j) = y.cell j := fun i hi => by
      obtain ⟨cs, hcs, ht⟩ := hx i (by omega)
      exact pair_of hcs ht
    obtain ⟨f, hf2⟩ := choose_lt hV
    refine ⟨(List.range len).map f, by simp, ⟨by simpa using hl, by unfold maxLen at hm; omega, fun h => (by cases h), fun h0 => ?_⟩, fun y hy => ?_⟩
    · simp at h0
      obtain ⟨b, off, spot⟩ := x
      have c0 := (hf2 0 (by omega)).2 0 (by decide)
      have hspot : spot = Option.none := by
        have : w.cell? (((⟨b, off, spot⟩ : Addr).add (0 * 4)).add 0) = some (.string (f 0).key) := c0
        simpa [Addr.add] using World.cell?_spot this
      subst hspot
      refine ⟨b, off, rfl, fun i hi => ?_⟩
      simp at hi
      have hg : ((List.range len).map f).getD i Pr.zero = f i := by simp [hi]
      rw [hg]
      have hc := (hf2 i hi).2
      have e : ∀ j, ((⟨b, off, Option.none⟩ : Addr).add (i * 4)).add j = ⟨b, off + i * 4 + j, Option.none⟩ := fun j => by
        rw [Go.WideShapes.add_plain, Go.WideShapes.add_plain]
      simp only [e] at hc
      exact ⟨hc 0 (by decide), hc 1 (by decide), hc 2 (by decide), hc 3 (by decide)⟩
    · obtain ⟨i, hi, rfl⟩ := List.mem_map.1 hy
      exact (hf2 i (List.mem_range.1 hi)).1
end Go.Proofs.YtbheofibdogabaaGreat.Kv
end
section
/- Calls that are handed in. -/
namespace Go.Proofs.YtbheofibdogabaaGreat.Ss
open Go Go.ChangeShapes Go.WideShapes Go.RowKit Go.Deep Vl Nm Mem Kv
structure CallsAt (w : World) (a : Option Addr) (C : List Cl) : Prop where
  ok : ∀ c ∈ C, c.ok
  at_ : 0 < C.length → ∃ b off, a = some ⟨b, off, none⟩ ∧ ∀ i, i < C.length → (C.getD i Cl.zero).at_ w b (off + i * 10)
theorem CallsAt.below {w w' : World} {a : Option Addr} {C : List Cl} (h : CallsAt w a C) (hk : Below w.heap.size w w') : CallsAt w' a C := by
  refine ⟨h.ok, fun h0 => ?_⟩
  obtain ⟨b, off, ha, hc⟩ := h.at_ h0
  exact ⟨b, off, ha, fun i hi => (hc i hi).below hk⟩
theorem CallsAt.get {w : World} {a : Option Addr} {C : List Cl} (h : CallsAt w a C) {i : Nat} (hi : i < C.length) : (C.getD i Cl.zero).ok := h.ok _ (by simp [hi])
set_option maxRecDepth 100000 in
theorem in_calls {H : Type} {enc : TypeId × Value → H} {w : World} {base : Nat} {spare : Nat → Bool} {held : Bool} {a : Option Addr} {len cap : Nat} {d : DataW H} {ps : List MemPlace}
    (h : DataW.Trod enc Tryz.prog w base spare held 42 (.slice a len cap) d ps) : ∃ C : List Cl, C.length = len ∧ CallsAt w a C := by
  obtain ⟨fuel, hf⟩ := h
  have hC : Tryz.prog.cellsOf 84 = 10 := by kernel_rfl
  rcases open_slice Tryz.underlying42 hf with ⟨h1, _⟩ | ⟨x, len', cap', m, n, D, Pl, h1, _, hl, hm, hmm, _, hx⟩
  · simp [Value.cells] at h1
    obtain ⟨rfl, rfl, rfl⟩ := h1
    exact ⟨[], rfl, fun _ h => by simp at h, fun h => by simp at h⟩
  · simp [Value.cells] at h1
    obtain ⟨rfl, rfl, rfl⟩ := h1
    rw [hC] at hx
    have hle : len ≤ m := by rw [hmm]; split <;> omega
    have hV : ∀ i, i < len → ∃ y : Cl, y.ok ∧ ∀ j : Nat, j < 10 → w.cell? ((x.add (i * 10)).add j) = y.cell j := fun i hi => by
      obtain ⟨cs, hcs, ht⟩ := hx i (by omega)
      obtain ⟨_, hlen, hat⟩ := World.cells?_some hcs
      obtain ⟨c, hc, rfl⟩ := trod_call hlen ht
      refine ⟨c, hc, fun j hj => ?_⟩
      rw [hat j hj]
      match j, hj with
      | 0, _ => rfl
      | 1, _ => rfl
      | 2, _ => rfl
      | 3, _ => rfl
      | 4, _ => rfl
      | 5, _ => rfl
      | 6, _ => rfl
      | 7, _ => rfl
      | 8, _ => rfl
      | 9, _ => rfl
    obtain ⟨f, hf2⟩ := Kv.choose_lt hV
    refine ⟨(List.range len).map f, by simp, ⟨fun y hy => ?_, fun h0 => ?_⟩⟩
    · obtain ⟨i, hi, rfl⟩ := List.mem_map.1 hy
      exact (hf2 i (List.mem_range.1 hi)).1
    · simp at h0
      obtain ⟨b, off, spot⟩ := x
      have c0 := (hf2 0 (by omega)).2 0 (by decide)
      have hspot : spot = Option.none := by
        have : w.cell? (((⟨b, off, spot⟩ : Addr).add (0 * 10)).add 0) = some (.int .i64 (f 0).client) := c0
        simpa [Addr.add] using World.cell?_spot this
      subst hspot
      refine ⟨b, off, rfl, fun i hi => ?_⟩
      simp at hi
      have hg : ((List.range len).map f).getD i Cl.zero = f i := by simp [hi]
      rw [hg]
      have hc := (hf2 i hi).2
      have e : ∀ j, ((⟨b, off, Option.none⟩ : Addr).add (i * 10)).add j = ⟨b, off + i * 10 + j, Option.none⟩ := fun j => by
        rw [Go.WideShapes.add_plain, Go.WideShapes.add_plain]
      simp only [e] at hc
      exact ⟨hc 0 (by decide), hc 1 (by decide), hc 2 (by decide), hc 3 (by decide), hc 4 (by decide), hc 5 (by decide), hc 6 (by decide), hc 7 (by decide), hc 8 (by decide), hc 9 (by decide)⟩
end Go.Proofs.YtbheofibdogabaaGreat.Ss
end
section
/- A machine that is handed in. -/
namespace Go.Proofs.YtbheofibdogabaaGreat.Ss
open Go Go.ChangeShapes Go.WideShapes Go.RowKit Go.Deep Vl Nm Mem Kv

def Se.cell (p : Se) (j : Nat) : Option Value := p.cells[j]?
set_option maxRecDepth 100000 in
theorem trod_sess {H : Type} {enc : TypeId × Value → H} {w : World} {base : Nat} {spare : Nat → Bool} {held : Bool} {n : Nat} {cs : List Value} {z : DataW H × List MemPlace} (hlen : cs.length = 6)
    (ht : DataW.trod enc Tryz.prog w base spare held n 54 cs = some z) : ∃ p : Se, p.val.num < 18446744073709551616 ∧ cs = p.cells := by
  obtain ⟨ys, n', _, _, _, hyl, hf⟩ := DataW.trod_struct Tryz.underlying54 ht
  have c3 : Tryz.prog.cellsOf 3 = 1 := by kernel_rfl
  have ce : Tryz.prog.cellsOf 28 = 1 := by kernel_rfl
  have cv : Tryz.prog.cellsOf 50 = 3 := by kernel_rfl
  have cr : Tryz.prog.cellsOf 52 = 4 := by kernel_rfl
  match cs, hlen, ys, hyl with
  | [v0, v1, v2, v3, v4, v5], _, [y0, y1, y2], _ =>
    have t0 : DataW.trod enc Tryz.prog w base spare held n' 3 (([v0, v1, v2, v3, v4, v5].drop 0).take (Tryz.prog.cellsOf 3)) = some y0 := hf 0 _ rfl
    rw [c3] at t0
    have t1 : DataW.trod enc Tryz.prog w base spare held n' 3 (([v0, v1, v2, v3, v4, v5].drop 1).take (Tryz.prog.cellsOf 3)) = some y1 := hf 1 _ rfl
    rw [c3] at t1
    have t2 : DataW.trod enc Tryz.prog w base spare held n' 52 (([v0, v1, v2, v3, v4, v5].drop 2).take (Tryz.prog.cellsOf 52)) = some y2 := hf 2 _ rfl
    rw [cr] at t2
    have t2 : DataW.trod enc Tryz.prog w base spare held n' 52 [v2, v3, v4, v5] = some y2 := t2
    obtain ⟨q, rfl⟩ := trod_int1 Tryz.underlying3 (x := y0) t0
    obtain ⟨r, rfl⟩ := trod_int1 Tryz.underlying3 (x := y1) t1
    obtain ⟨zs, n2, _, _, _, hzl, hg⟩ := DataW.trod_struct Tryz.underlying52 t2
    match zs, hzl with
    | [z0, z1], _ =>
      have s0 : DataW.trod enc Tryz.prog w base spare held n2 28 (([v2, v3, v4, v5].drop 0).take (Tryz.prog.cellsOf 28)) = some z0 := hg 0 _ rfl
      rw [ce] at s0
      have s1 : DataW.trod enc Tryz.prog w base spare held n2 50 (([v2, v3, v4, v5].drop 1).take (Tryz.prog.cellsOf 50)) = some z1 := hg 1 _ rfl
      rw [cv] at s1
      obtain ⟨c, rfl⟩ := trod_int1 Tryz.underlying28 (x := z0) s0
      obtain ⟨v, rfl, rfl, rfl, hv⟩ := trod_value (x := z1) s1
      exact ⟨⟨q, r, c, v⟩, hv, rfl⟩
def SessIn (w : World) (a : Option Addr) (len cap : Nat) : Prop := ∃ S : List Se, S.length = len ∧ SessAt w a cap S ∧ ∀ p ∈ S, p.val.num < 18446744073709551616
set_option maxRecDepth 100000 in
theorem in_sess {H : Type} {enc : TypeId × Value → H} {w : World} {base : Nat} {spare : Nat → Bool} {held : Bool} {a : Option Addr} {len cap : Nat} {d : DataW H} {ps : List MemPlace}
    (h : DataW.Trod enc Tryz.prog w base spare held 23 (.slice a len cap) d ps) : SessIn w a len cap := by
  obtain ⟨fuel, hf⟩ := h
  have hC : Tryz.prog.cellsOf 54 = 6 := by kernel_rfl
  rcases open_slice Tryz.underlying23 hf with ⟨h1, _⟩ | ⟨x, len', cap', m, n, D, Pl, h1, _, hl, hm, hmm, _, hx⟩
  · simp [Value.cells] at h1
    obtain ⟨rfl, rfl, rfl⟩ := h1
    exact ⟨[], rfl, SessAt.empty _, fun _ h => by cases h⟩
  · simp [Value.cells] at h1
    obtain ⟨rfl, rfl, rfl⟩ := h1
    rw [hC] at hx
    have hle : len ≤ m := by rw [hmm]; split <;> omega
    have hV : ∀ i, i < len → ∃ y : Se, y.val.num < 18446744073709551616 ∧ ∀ j : Nat, j < 6 → w.cell? ((x.add (i * 6)).add j) = y.cell j := fun i hi => by
      obtain ⟨cs, hcs, ht⟩ := hx i (by omega)
      obtain ⟨_, hlen, hat⟩ := World.cells?_some hcs
      obtain ⟨c, hc, rfl⟩ := trod_sess hlen ht
      refine ⟨c, hc, fun j hj => ?_⟩
      rw [hat j hj]
      match j, hj with
      | 0, _ => rfl
      | 1, _ => rfl
      | 2, _ => rfl
      | 3, _ => rfl
      | 4, _ => rfl
      | 5, _ => rfl
    obtain ⟨f, hf2⟩ := Kv.choose_lt hV
    refine ⟨(List.range len).map f, by simp, ⟨by simpa using hl, by unfold maxLen at hm; omega, fun h => (by cases h), fun h0 => ?_⟩, fun y hy => ?_⟩
    · simp at h0
      obtain ⟨b, off, spot⟩ := x
      have c0 := (hf2 0 (by omega)).2 0 (by decide)
      have hspot : spot = Option.none := by
        have : w.cell? (((⟨b, off, spot⟩ : Addr).add (0 * 6)).add 0) = some (.int .i64 (f 0).client) := c0
        simpa [Addr.add] using World.cell?_spot this
      subst hspot
      refine ⟨b, off, rfl, fun i hi => ?_⟩
      simp at hi
      have hg : ((List.range len).map f).getD i Se.zero = f i := by simp [hi]
      rw [hg]
      have hc := (hf2 i hi).2
      have e : ∀ j, ((⟨b, off, Option.none⟩ : Addr).add (i * 6)).add j = ⟨b, off + i * 6 + j, Option.none⟩ := fun j => by
        rw [Go.WideShapes.add_plain, Go.WideShapes.add_plain]
      simp only [e] at hc
      exact ⟨hc 0 (by decide), hc 1 (by decide), hc 2 (by decide), hc 3 (by decide), hc 4 (by decide), hc 5 (by decide)⟩
    · obtain ⟨i, hi, rfl⟩ := List.mem_map.1 hy
      exact (hf2 i (List.mem_range.1 hi)).1
set_option maxRecDepth 100000 in
theorem in_machine {H : Type} {enc : TypeId × Value → H} {w w0 : World} {r : Reach} {b0 base : Nat} {spare : Nat → Bool} {held : Bool} {x : Value} {d : DataW H} {ps : List MemPlace}
    (hv : Value.okWide Tryz.prog w0 r b0 25 x) (h : DataW.Trod enc Tryz.prog w base spare held 25 x d ps) : ∃ (s : Ms) (m : Ma), x = s.agg m ∧ MaAt w s m ∧ FitM m := by
  obtain ⟨cs, rfl, hsz⟩ := okWide_struct Tryz.underlying25 hv
  obtain ⟨fuel, hf⟩ := h
  have hC : Tryz.prog.cellsOf 25 = 2 := by kernel_rfl
  rw [hC] at hsz
  obtain ⟨l⟩ := cs
  obtain ⟨ys, n', _, _, _, hyl, hg⟩ := DataW.trod_struct Tryz.underlying25 hf
  have cp : Tryz.prog.cellsOf 22 = 1 := by kernel_rfl
  have cs' : Tryz.prog.cellsOf 23 = 1 := by kernel_rfl
  match l, hsz, ys, hyl with
  | [v0, v1], _, [y0, y1], _ =>
    have t0 : DataW.trod enc Tryz.prog w base spare held n' 22 (([v0, v1].drop 0).take (Tryz.prog.cellsOf 22)) = some y0 := hg 0 _ rfl
    rw [cp] at t0
    have t0 : DataW.trod enc Tryz.prog w base spare held n' 22 [v0] = some y0 := t0
    have t1 : DataW.trod enc Tryz.prog w base spare held n' 23 (([v0, v1].drop 1).take (Tryz.prog.cellsOf 23)) = some y1 := hg 1 _ rfl
    rw [cs'] at t1
    have t1 : DataW.trod enc Tryz.prog w base spare held n' 23 [v1] = some y1 := t1
    obtain ⟨a, len, cap, rfl⟩ : ∃ a len cap, v0 = .slice a len cap := by
      rcases open_slice Tryz.underlying22 t0 with ⟨h1, _⟩ | ⟨x, len', cap', _, _, _, _, h1, _⟩
      · exact ⟨_, _, _, by simpa using h1⟩
      · exact ⟨_, _, _, by simpa using h1⟩
    obtain ⟨a2, len2, cap2, rfl⟩ : ∃ a len cap, v1 = .slice a len cap := by
      rcases open_slice Tryz.underlying23 t1 with ⟨h1, _⟩ | ⟨x, len', cap', _, _, _, _, h1, _⟩
      · exact ⟨_, _, _, by simpa using h1⟩
      · exact ⟨_, _, _, by simpa using h1⟩
    obtain ⟨L, rfl, hL, hfL⟩ := in_pairs (d := y0.1) (ps := y0.2) ⟨n', t0⟩
    obtain ⟨S, rfl, hS, hfS⟩ := in_sess (d := y1.1) (ps := y1.2) ⟨n', t1⟩
    exact ⟨⟨a, cap, a2, cap2⟩, ⟨L, S⟩, rfl, ⟨hL, hS⟩, ⟨hfL, hfS⟩⟩
end Go.Proofs.YtbheofibdogabaaGreat.Ss
end
