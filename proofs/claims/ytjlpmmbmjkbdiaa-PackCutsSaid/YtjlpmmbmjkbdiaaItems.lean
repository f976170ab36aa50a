/- Items that are handed in: a slice of structs of five fields; the walk of heavy. -/
import Derived.Test.YtjlpmmbmjkbdiaaSticks
import Derived.Deep.Fields
namespace Go.Proofs.Ytjlpmmbmjkbdiaa.Pk
open Go Go.ChangeShapes Go.WideShapes Go.RowKit Go.Deep Mem

/-- one thing that is written: its kind, a number, a mark, a float, a text (in block tb) -/
structure It where
  K : Int
  N : Int
  I : Bool
  X : Nat
  tb : Nat
  ta : Option Addr
  tc : Nat
  t : List Nat
def It.agg (x : It) : Value := .agg #[.int .i64 x.K, .int .i64 x.N, .bool x.I, .float .f64 x.X, .slice x.ta x.t.length x.tc]
def It.ok (w : World) (x : It) : Prop :=
  (-9223372036854775808 ≤ x.K ∧ x.K ≤ 9223372036854775807) ∧ (-9223372036854775808 ≤ x.N ∧ x.N ≤ 9223372036854775807) ∧ x.X < 18446744073709551616 ∧ Src w x.tb x.ta x.tc x.t ∧ B8 x.t
def It.none : It := ⟨0, 0, false, 0, 0, Option.none, 0, []⟩
instance : Inhabited It := ⟨It.none⟩
/-- the cells of an item at an address -/
def It.at_ (w : World) (b o : Nat) (x : It) : Prop :=
  w.cell? ⟨b, o, Option.none⟩ = some (.int .i64 x.K) ∧ w.cell? ⟨b, o + 1, Option.none⟩ = some (.int .i64 x.N) ∧ w.cell? ⟨b, o + 2, Option.none⟩ = some (.bool x.I) ∧ w.cell? ⟨b, o + 3, Option.none⟩ = some (.float .f64 x.X) ∧ w.cell? ⟨b, o + 4, Option.none⟩ = some (.slice x.ta x.t.length x.tc)
def Items (w : World) (a : Option Addr) (L : List It) : Prop :=
  (∀ x ∈ L, x.ok w) ∧ L.length ≤ 9223372036854775807 ∧ (0 < L.length → ∃ b off, a = some ⟨b, off, Option.none⟩ ∧ ∀ i, i < L.length → (L.getD i It.none).at_ w b (off + i * 5))
theorem It.ok.kept {w w' : World} {x : It} (h : x.ok w) (hk : Kept Mem.None w w') : x.ok w' := ⟨h.1, h.2.1, h.2.2.1, h.2.2.2.1.kept hk (fun _ h => h), h.2.2.2.2⟩
theorem It.at_.kept {w w' : World} {x : It} {b o : Nat} (h : x.at_ w b o) (hk : Kept Mem.None w w') : x.at_ w' b o := by
  have g : ∀ j v, w.cell? ⟨b, j, Option.none⟩ = some v → w'.cell? ⟨b, j, Option.none⟩ = some v := fun j v hc => (hk.cell (p := ⟨b, j, Option.none⟩) (World.block_lt_of_cell? w _ hc) (fun h => h)).trans hc
  exact ⟨g _ _ h.1, g _ _ h.2.1, g _ _ h.2.2.1, g _ _ h.2.2.2.1, g _ _ h.2.2.2.2⟩
theorem Items.kept {w w' : World} {a : Option Addr} {L : List It} (h : Items w a L) (hk : Kept Mem.None w w') : Items w' a L := by
  refine ⟨fun x hx => (h.1 x hx).kept hk, h.2.1, fun h0 => ?_⟩
  obtain ⟨b, off, ha, hc⟩ := h.2.2 h0
  exact ⟨b, off, ha, fun i hi => (hc i hi).kept hk⟩
theorem Items.get {w : World} {a : Option Addr} {L : List It} (h : Items w a L) {i : Nat} (hi : i < L.length) : (L.getD i It.none).ok w := h.1 _ (by simp [hi])

def ItemsIn (w : World) (a : Option Addr) (len cap : Nat) : Prop := len ≤ cap ∧ ∃ L, L.length = len ∧ Items w a L
theorem trod_float1 {H : Type} {enc : TypeId × Value → H} {P : Program} {w : World} {base : Nat} {spare : Nat → Bool} {held : Bool} {n : Nat} {t : TypeId} {v : Value} {x : DataW H × List MemPlace}
    (ht : P.underlying t = some (.float .f64)) (h : DataW.trod enc P w base spare held n t [v] = some x) : ∃ b, v = .float .f64 b ∧ b < 18446744073709551616 := by
  cases n with
  | zero => simp [DataW.trod] at h
  | succ n =>
    cases v <;> simp only [DataW.trod, ht] at h <;> first | (cases h; done) | skip
    rename_i k' b
    split at h
    · rename_i hk
      obtain ⟨rfl, hw⟩ := hk
      exact ⟨b, rfl, by simpa [Lit.wf] using hw⟩
    · cases h
theorem trod_bool1 {H : Type} {enc : TypeId × Value → H} {P : Program} {w : World} {base : Nat} {spare : Nat → Bool} {held : Bool} {n : Nat} {t : TypeId} {v : Value} {x : DataW H × List MemPlace}
    (ht : P.underlying t = some .bool) (h : DataW.trod enc P w base spare held n t [v] = some x) : ∃ b, v = .bool b := by
  cases n with
  | zero => simp [DataW.trod] at h
  | succ n => cases v <;> simp only [DataW.trod, ht] at h <;> first | (cases h; done) | exact ⟨_, rfl⟩
theorem trod_int1 {H : Type} {enc : TypeId × Value → H} {P : Program} {w : World} {base : Nat} {spare : Nat → Bool} {held : Bool} {n : Nat} {t : TypeId} {v : Value} {x : DataW H × List MemPlace}
    (ht : P.underlying t = some (.int .i64)) (h : DataW.trod enc P w base spare held n t [v] = some x) : ∃ q, v = .int .i64 q ∧ -9223372036854775808 ≤ q ∧ q ≤ 9223372036854775807 := by
  obtain ⟨q, hq, _, hw⟩ := DataW.trod_int ht h
  have h2 : IntKind.i64.min ≤ q ∧ q ≤ IntKind.i64.max := by simpa [Lit.wf] using hw
  exact ⟨q, by simpa using hq, h2⟩
theorem trod_bytes1 {H : Type} {enc : TypeId × Value → H} {P : Program} {w : World} {base : Nat} {spare : Nat → Bool} {held : Bool} {n : Nat} {t e : TypeId} {v : Value} {x : DataW H × List MemPlace}
    (ht : P.underlying t = some (.slice e)) (he : P.underlying e = some (.int .u8)) (hc : P.cellsOf e = 1) (h : DataW.trod enc P w base spare held n t [v] = some x) : ∃ a len cap, v = .slice a len cap ∧ BytesIn w a len cap := by
  have hv : ∃ a len cap, v = .slice a len cap := by
    rcases open_slice1 ht hc h with ⟨h1, _⟩ | ⟨x, len', cap', m, n, V, D, Pl, h1, _⟩
    · exact ⟨_, _, _, by simpa using h1⟩
    · exact ⟨_, _, _, by simpa using h1⟩
  obtain ⟨a, len, cap, rfl⟩ := hv
  exact ⟨a, len, cap, rfl, in_bytes (d := x.1) (ps := x.2) ht he hc ⟨n, h⟩⟩
def It.cell (x : It) (j : Nat) : Option Value := match j with
  | 0 => some (.int .i64 x.K)
  | 1 => some (.int .i64 x.N)
  | 2 => some (.bool x.I)
  | 3 => some (.float .f64 x.X)
  | _ => some (.slice x.ta x.t.length x.tc)
theorem item_of {H : Type} {enc : TypeId × Value → H} {w : World} {base : Nat} {spare : Nat → Bool} {held : Bool} {a : Addr} {n : Nat} {cs : List Value} {z : DataW H × List MemPlace}
    (hcs : w.cells? base a 5 = some cs) (ht : DataW.trod enc Try.prog w base spare held n 32 cs = some z) : ∃ y : It, y.ok w ∧ ∀ j : Nat, j < 5 → w.cell? (a.add j) = y.cell j := by
  obtain ⟨_, hlen, hat⟩ := World.cells?_some hcs
  obtain ⟨ys, n', _, _, _, hyl, hf⟩ := DataW.trod_struct Try.underlying32 ht
  have c3 : Try.prog.cellsOf 3 = 1 := by kernel_rfl
  have c4 : Try.prog.cellsOf 4 = 1 := by kernel_rfl
  have c30 : Try.prog.cellsOf 30 = 1 := by kernel_rfl
  have c28 : Try.prog.cellsOf 28 = 1 := by kernel_rfl
  match cs, hlen, ys, hyl with
  | [v0, v1, v2, v3, v4], _, [y0, y1, y2, y3, y4], _ =>
    have t0 : DataW.trod enc Try.prog w base spare held n' 3 (([v0, v1, v2, v3, v4].drop 0).take (Try.prog.cellsOf 3)) = some y0 := hf 0 _ rfl
    rw [c3] at t0
    have t1 : DataW.trod enc Try.prog w base spare held n' 3 (([v0, v1, v2, v3, v4].drop 1).take (Try.prog.cellsOf 3)) = some y1 := hf 1 _ rfl
    rw [c3] at t1
    have t2 : DataW.trod enc Try.prog w base spare held n' 4 (([v0, v1, v2, v3, v4].drop 2).take (Try.prog.cellsOf 4)) = some y2 := hf 2 _ rfl
    rw [c4] at t2
    have t3 : DataW.trod enc Try.prog w base spare held n' 30 (([v0, v1, v2, v3, v4].drop 3).take (Try.prog.cellsOf 30)) = some y3 := hf 3 _ rfl
    rw [c30] at t3
    have t4 : DataW.trod enc Try.prog w base spare held n' 28 (([v0, v1, v2, v3, v4].drop 4).take (Try.prog.cellsOf 28)) = some y4 := hf 4 _ rfl
    rw [c28] at t4
    obtain ⟨q0, rfl, b0⟩ := trod_int1 Try.underlying3 (x := y0) t0
    obtain ⟨q1, rfl, b1⟩ := trod_int1 Try.underlying3 (x := y1) t1
    obtain ⟨q2, rfl⟩ := trod_bool1 Try.underlying4 (x := y2) t2
    obtain ⟨q3, rfl, b3⟩ := trod_float1 Try.underlying30 (x := y3) t3
    obtain ⟨ta, len, cap, rfl, tb, t, rfl, hs, h8⟩ := trod_bytes1 Try.underlying28 Try.underlying5 (by kernel_rfl) (x := y4) t4
    refine ⟨⟨q0, q1, q2, q3, tb, ta, cap, t⟩, ⟨b0, b1, b3, hs, h8⟩, fun j hj => ?_⟩
    rw [hat j hj]
    match j, hj with
    | 0, _ => rfl
    | 1, _ => rfl
    | 2, _ => rfl
    | 3, _ => rfl
    | 4, _ => rfl
/-- what is known of a slice of items that came in -/
theorem in_items {H : Type} {enc : TypeId × Value → H} {w : World} {base : Nat} {spare : Nat → Bool} {held : Bool} {a : Option Addr} {len cap : Nat} {d : DataW H} {ps : List MemPlace}
    (h : DataW.Trod enc Try.prog w base spare held 22 (.slice a len cap) d ps) : ItemsIn w a len cap := by
  obtain ⟨fuel, hf⟩ := h
  have hC : Try.prog.cellsOf 32 = 5 := by kernel_rfl
  rcases open_slice Try.underlying22 hf with ⟨h1, _⟩ | ⟨x, len', cap', m, n, D, Pl, h1, _, hl, hm, hmm, _, hx⟩
  · simp [Value.cells] at h1
    obtain ⟨rfl, rfl, rfl⟩ := h1
    exact ⟨Nat.le_refl _, [], rfl, (by simp), by simp, by simp⟩
  · simp [Value.cells] at h1
    obtain ⟨rfl, rfl, rfl⟩ := h1
    rw [hC] at hx
    have hle : len ≤ m := by rw [hmm]; split <;> omega
    have hV : ∀ i, i < len → ∃ y : It, y.ok w ∧ ∀ j : Nat, j < 5 → w.cell? ((x.add (i * 5)).add j) = y.cell j := fun i hi => by
      obtain ⟨cs, hcs, ht⟩ := hx i (by omega)
      exact item_of hcs ht
    obtain ⟨f, hf2⟩ := choose_lt hV
    refine ⟨hl, (List.range len).map f, by simp, fun y hy => ?_, by unfold maxLen at hm; simp; omega, fun h0 => ?_⟩
    · obtain ⟨i, hi, rfl⟩ := List.mem_map.1 hy
      exact (hf2 i (List.mem_range.1 hi)).1
    · simp at h0
      obtain ⟨b, off, spot⟩ := x
      have c0 := (hf2 0 (by omega)).2 0 (by decide)
      have hspot : spot = Option.none := by simpa [Addr.add] using World.cell?_spot c0
      subst hspot
      refine ⟨b, off, rfl, fun i hi => ?_⟩
      simp at hi
      have hg : ((List.range len).map f).getD i It.none = f i := by simp [hi]
      rw [hg]
      have hc := (hf2 i hi).2
      have e : ∀ j, ((⟨b, off, Option.none⟩ : Addr).add (i * 5)).add j = ⟨b, off + i * 5 + j, Option.none⟩ := fun j => by
        rw [Go.WideShapes.add_plain, Go.WideShapes.add_plain]
      simp only [e] at hc
      exact ⟨hc 0 (by decide), hc 1 (by decide), hc 2 (by decide), hc 3 (by decide), hc 4 (by decide)⟩
end Go.Proofs.Ytjlpmmbmjkbdiaa.Pk
