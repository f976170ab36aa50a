/- Acts that are handed in: a slice of structs of four fields; the walk of heavy. -/
import Derived.Test.YtaogpchjkbcjoaaReads4
import Derived.Test.YtaogpchjkbcjoaaOpenF
import Derived.Deep.Fields
namespace Go.Proofs.Ytaogpchjkbcjoaa.Dk
open Go Go.ChangeShapes Go.WideShapes Go.RowKit Go.Deep Mem Kp Pk
/-- an act: which, two numbers, bytes (in block tb) -/
structure Ac where
  D : Int
  N : Int
  K : Int
  tb : Nat
  ta : Option Addr
  tc : Nat
  t : List Nat
def Ac.agg (x : Ac) : Value := .agg #[.int .i64 x.D, .int .i64 x.N, .int .i64 x.K, .slice x.ta x.t.length x.tc]
def Ac.ok (w : World) (x : Ac) : Prop :=
  (-9223372036854775808 ≤ x.D ∧ x.D ≤ 9223372036854775807) ∧ (-9223372036854775808 ≤ x.N ∧ x.N ≤ 9223372036854775807) ∧ (-9223372036854775808 ≤ x.K ∧ x.K ≤ 9223372036854775807) ∧ Src w x.tb x.ta x.tc x.t ∧ B8 x.t
def Ac.none : Ac := ⟨0, 0, 0, 0, Option.none, 0, []⟩
instance : Inhabited Ac := ⟨Ac.none⟩
/-- the cells of an act at an address -/
def Ac.at_ (w : World) (b o : Nat) (x : Ac) : Prop :=
  w.cell? ⟨b, o, Option.none⟩ = some (.int .i64 x.D) ∧ w.cell? ⟨b, o + 1, Option.none⟩ = some (.int .i64 x.N) ∧ w.cell? ⟨b, o + 2, Option.none⟩ = some (.int .i64 x.K) ∧ w.cell? ⟨b, o + 3, Option.none⟩ = some (.slice x.ta x.t.length x.tc)
def Acts (w : World) (a : Option Addr) (L : List Ac) : Prop :=
  (∀ x ∈ L, x.ok w) ∧ L.length ≤ 9223372036854775807 ∧ (0 < L.length → ∃ b off, a = some ⟨b, off, Option.none⟩ ∧ ∀ i, i < L.length → (L.getD i Ac.none).at_ w b (off + i * 4))
theorem Ac.ok.kept {w w' : World} {x : Ac} (h : x.ok w) (hk : Kept Mem.None w w') : x.ok w' := ⟨h.1, h.2.1, h.2.2.1, h.2.2.2.1.kept hk (fun _ h => h), h.2.2.2.2⟩
theorem Ac.at_.kept {w w' : World} {x : Ac} {b o : Nat} (h : x.at_ w b o) (hk : Kept Mem.None w w') : x.at_ w' b o := by
  have g : ∀ j v, w.cell? ⟨b, j, Option.none⟩ = some v → w'.cell? ⟨b, j, Option.none⟩ = some v := fun j v hc => (hk.cell (p := ⟨b, j, Option.none⟩) (World.block_lt_of_cell? w _ hc) (fun h => h)).trans hc
  exact ⟨g _ _ h.1, g _ _ h.2.1, g _ _ h.2.2.1, g _ _ h.2.2.2⟩
theorem Acts.kept {w w' : World} {a : Option Addr} {L : List Ac} (h : Acts w a L) (hk : Kept Mem.None w w') : Acts w' a L := by
  refine ⟨fun x hx => (h.1 x hx).kept hk, h.2.1, fun h0 => ?_⟩
  obtain ⟨b, off, ha, hc⟩ := h.2.2 h0
  exact ⟨b, off, ha, fun i hi => (hc i hi).kept hk⟩
theorem Acts.get {w : World} {a : Option Addr} {L : List Ac} (h : Acts w a L) {i : Nat} (hi : i < L.length) : (L.getD i Ac.none).ok w := h.1 _ (by simp [hi])
def ActsIn (w : World) (a : Option Addr) (len cap : Nat) : Prop := len ≤ cap ∧ ∃ L, L.length = len ∧ Acts w a L
def Ac.cell (x : Ac) (j : Nat) : Option Value := match j with
  | 0 => some (.int .i64 x.D)
  | 1 => some (.int .i64 x.N)
  | 2 => some (.int .i64 x.K)
  | _ => some (.slice x.ta x.t.length x.tc)
theorem act_of {H : Type} {enc : TypeId × Value → H} {w : World} {base : Nat} {spare : Nat → Bool} {held : Bool} {a : Addr} {n : Nat} {cs : List Value} {z : DataW H × List MemPlace}
    (hcs : w.cells? base a 4 = some cs) (ht : DataW.trod enc Try.prog w base spare held n 35 cs = some z) : ∃ y : Ac, y.ok w ∧ ∀ j : Nat, j < 4 → w.cell? (a.add j) = y.cell j := by
  obtain ⟨_, hlen, hat⟩ := World.cells?_some hcs
  obtain ⟨ys, n', _, _, _, hyl, hf⟩ := DataW.trod_struct Try.underlying35 ht
  have c3 : Try.prog.cellsOf 3 = 1 := by kernel_rfl
  have c28 : Try.prog.cellsOf 30 = 1 := by kernel_rfl
  match cs, hlen, ys, hyl with
  | [v0, v1, v2, v3], _, [y0, y1, y2, y3], _ =>
    have t0 : DataW.trod enc Try.prog w base spare held n' 3 (([v0, v1, v2, v3].drop 0).take (Try.prog.cellsOf 3)) = some y0 := hf 0 _ rfl
    rw [c3] at t0
    have t1 : DataW.trod enc Try.prog w base spare held n' 3 (([v0, v1, v2, v3].drop 1).take (Try.prog.cellsOf 3)) = some y1 := hf 1 _ rfl
    rw [c3] at t1
    have t2 : DataW.trod enc Try.prog w base spare held n' 3 (([v0, v1, v2, v3].drop 2).take (Try.prog.cellsOf 3)) = some y2 := hf 2 _ rfl
    rw [c3] at t2
    have t3 : DataW.trod enc Try.prog w base spare held n' 30 (([v0, v1, v2, v3].drop 3).take (Try.prog.cellsOf 30)) = some y3 := hf 3 _ rfl
    rw [c28] at t3
    obtain ⟨q0, rfl, b0⟩ := trod_int1 Try.underlying3 (x := y0) t0
    obtain ⟨q1, rfl, b1⟩ := trod_int1 Try.underlying3 (x := y1) t1
    obtain ⟨q2, rfl, b2⟩ := trod_int1 Try.underlying3 (x := y2) t2
    obtain ⟨ta, len, cap, rfl, tb, t, rfl, hs, h8⟩ := trod_bytes1 Try.underlying30 Try.underlying5 (by kernel_rfl) (x := y3) t3
    refine ⟨⟨q0, q1, q2, tb, ta, cap, t⟩, ⟨b0, b1, b2, hs, h8⟩, fun j hj => ?_⟩
    rw [hat j hj]
    match j, hj with
    | 0, _ => rfl
    | 1, _ => rfl
    | 2, _ => rfl
    | 3, _ => rfl
/-- what is known of a slice of acts that came in -/
theorem in_acts {H : Type} {enc : TypeId × Value → H} {w : World} {base : Nat} {spare : Nat → Bool} {held : Bool} {a : Option Addr} {len cap : Nat} {d : DataW H} {ps : List MemPlace}
    (h : DataW.Trod enc Try.prog w base spare held 22 (.slice a len cap) d ps) : ActsIn w a len cap := by
  obtain ⟨fuel, hf⟩ := h
  have hC : Try.prog.cellsOf 35 = 4 := by kernel_rfl
  rcases open_slice Try.underlying22 hf with ⟨h1, _⟩ | ⟨x, len', cap', m, n, D, Pl, h1, _, hl, hm, hmm, _, hx⟩
  · simp [Value.cells] at h1
    obtain ⟨rfl, rfl, rfl⟩ := h1
    exact ⟨Nat.le_refl _, [], rfl, (by simp), by simp, by simp⟩
  · simp [Value.cells] at h1
    obtain ⟨rfl, rfl, rfl⟩ := h1
    rw [hC] at hx
    have hle : len ≤ m := by rw [hmm]; split <;> omega
    have hV : ∀ i, i < len → ∃ y : Ac, y.ok w ∧ ∀ j : Nat, j < 4 → w.cell? ((x.add (i * 4)).add j) = y.cell j := fun i hi => by
      obtain ⟨cs, hcs, ht⟩ := hx i (by omega)
      exact act_of hcs ht
    obtain ⟨f, hf2⟩ := choose_lt hV
    refine ⟨hl, (List.range len).map f, by simp, fun y hy => ?_, by unfold maxLen at hm; simp; omega, fun h0 => ?_⟩
    · obtain ⟨i, hi, rfl⟩ := List.mem_map.1 hy
      exact (hf2 i (List.mem_range.1 hi)).1
    · simp at h0
      obtain ⟨b, off, spot⟩ := x
      have c0 := (hf2 0 (by omega)).2 0 (by decide)
      have hspot : spot = Option.none := by simpa [Addr.add] using World.cell?_spot c0
      subst hspot
      refine ⟨b, off, rfl, fun i hi => ?_⟩
      simp at hi
      have hg : ((List.range len).map f).getD i Ac.none = f i := by simp [hi]
      rw [hg]
      have hc := (hf2 i hi).2
      have e : ∀ j, ((⟨b, off, Option.none⟩ : Addr).add (i * 4)).add j = ⟨b, off + i * 4 + j, Option.none⟩ := fun j => by
        rw [Go.WideShapes.add_plain, Go.WideShapes.add_plain]
      simp only [e] at hc
      exact ⟨hc 0 (by decide), hc 1 (by decide), hc 2 (by decide), hc 3 (by decide)⟩
def big (x : Ac) : Bool := decide (2000 < x.t.length)
def heavyB (L : List Ac) : Bool := decide (1200 < L.length) || (L.take 300).any big
theorem heavy_no {L : List Ac} (h : heavyB L = false) : L.length ≤ 1200 ∧ ∀ i, i < 300 → i < L.length → (L.getD i Ac.none).t.length ≤ 2000 := by
  unfold heavyB at h
  rw [Bool.or_eq_false_iff] at h
  refine ⟨by have := h.1; simp at this; omega, fun i hi hl => ?_⟩
  have hm : L.getD i Ac.none ∈ L.take 300 := by
    have e : L.getD i Ac.none = (L.take 300)[i]'(by rw [List.length_take]; omega) := by simp [hl]
    rw [e]; exact List.getElem_mem _
  have := List.any_eq_false.1 h.2 _ hm
  have h3 : ¬ 2000 < (L.getD i Ac.none).t.length := fun hh => this (by unfold big; exact decide_eq_true hh)
  omega
set_option maxHeartbeats 1000000 in
set_option maxRecDepth 100000 in
theorem heavy_any (a : Option Addr) (cap : Nat) (L : List Ac) (w : World) (h : Acts w a L) :
    Calls Try.prog 10 #[.slice a L.length cap] w fun e w' => e = .returned (.bool (heavyB L)) ∧ w = w' := by
  have HI := Lib.hid h
  have hm := h.2.1
  clear h
  by_cases hbig : 1200 < L.length
  · have d1 : decide (1200 < L.length) = true := decide_eq_true hbig
    have d1' : decide ((1200 : Int) < (L.length : Int)) = true := decide_eq_true (by omega)
    go_enter Try.func10, Try.ntmps10
    go_wp2
    go_ret
    exact ⟨ret_bool (by simp [heavyB, hbig]), rfl⟩
  · have d1 : decide (1200 < L.length) = false := decide_eq_false hbig
    have d1' : decide ((1200 : Int) < (L.length : Int)) = false := decide_eq_false (by omega)
    go_enter Try.func10, Try.ntmps10
    go_wp2
    go_loop [3] (fun i => ∃ k : Nat, k ≤ L.length ∧ k ≤ 300 ∧ i = .int .i64 k ∧ Hid ((L.take k).any big = false)) (fun i => 300 - (intOf i).toNat)
    case atStart => exact ⟨0, by omega, by omega, rfl, rfl⟩
    case round =>
      obtain ⟨k, hk, hk3, rfl, hw⟩ := hrel
      by_cases hlt : k < L.length ∧ k < 300
      · obtain ⟨hlt, hlt3⟩ := hlt
        obtain ⟨b, off, rfl, hc⟩ := HI.out.2.2 (by omega)
        have h4 := (hc k hlt).2.2.2
        have hsn : Hid (L.take (k + 1) = L.take k ++ [L.getD k Ac.none]) := by
          show _ = _
          rw [List.take_succ_eq_append_getElem hlt]; simp [hlt]
        have hmem : L.getD k Ac.none ∈ L.take 300 := by
          have e : L.getD k Ac.none = (L.take 300)[k]'(by rw [List.length_take]; omega) := by simp [hlt]
          rw [e]; exact List.getElem_mem _
        have HM := Lib.hid hmem
        clear hc hmem
        generalize L.getD k Ac.none = x at *
        by_cases hx : 2000 < x.t.length
        · have d2 : decide (2000 < x.t.length) = true := decide_eq_true hx
          have d2' : decide ((2000 : Int) < (x.t.length : Int)) = true := decide_eq_true (by omega)
          go_wp2
          go_ret
          exact ⟨ret_bool (by unfold heavyB; rw [show (L.take 300).any big = true from List.any_eq_true.2 ⟨x, HM.out, by simp [big, hx]⟩]; simp), rfl⟩
        · have d2 : decide (2000 < x.t.length) = false := decide_eq_false hx
          have d2' : decide ((2000 : Int) < (x.t.length : Int)) = false := decide_eq_false (by omega)
          go_wp2
          go_round
          case rel => exact ⟨k + 1, by omega, by omega, by go_num, by show _ = _; rw [hsn.out, List.any_append, hw.out]; simp [big]; omega⟩
          case measure => simp [intOf]; omega
      · have hend : (k = L.length) ∨ (k < L.length ∧ k = 300) := by omega
        have hfin : heavyB L = false := by
          unfold heavyB
          rw [decide_eq_false hbig, Bool.false_or]
          rcases hend with e | ⟨_, e⟩
          · rw [List.take_of_length_le (by omega), ← List.take_length (l := L), ← e]; exact hw.out
          · rw [← e]; exact hw.out
        have HF := Lib.hid hfin
        have hstop : (decide ((k : Int) < (L.length : Int)) = false ∧ decide (k < L.length) = false) ∨ (decide ((k : Int) < (L.length : Int)) = true ∧ decide (k < L.length) = true ∧ decide ((k : Int) < 300) = false ∧ decide (k < 300) = false) := by
          rcases hend with e | ⟨h1, e⟩
          · exact .inl ⟨decide_eq_false (by omega), decide_eq_false (by omega)⟩
          · exact .inr ⟨decide_eq_true (by omega), decide_eq_true h1, decide_eq_false (by omega), decide_eq_false (by omega)⟩
        clear hfin hend hlt hw
        rcases hstop with ⟨e1, e2⟩ | ⟨e1, e2, e3, e4⟩
        · go_wp2
          go_ret
          exact ⟨ret_bool HF.out.symm, rfl⟩
        · go_wp2
          go_ret
          exact ⟨ret_bool HF.out.symm, rfl⟩
end Go.Proofs.Ytaogpchjkbcjoaa.Dk
