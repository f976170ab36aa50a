import Derived.Test.YtaengjgmchpabaaGreatWireEncM
import Derived.Test.YtaengjgmchpabaaGreatMergeWr2
import Derived.WideShapes
import Derived.ChangeArms
import Derived.OpenShut
import Derived.Deep.Fields
import Derived.Test.YtaengjgmchpabaaGreatMergeWr3
import Derived.Test.YtaengjgmchpabaaGreatMergeWr1
import Derived.ProofKit
import Derived.Deep.Slices
import Derived.ChangeShapes
import Derived.Test.YtaengjgmchpabaaGreatMergeWr10
import Derived.Test.YtaengjgmchpabaaGreatMergeWr15
section
/- Cut out of WireLaw so that every seat fills it. -/
namespace Go.Proofs.YtaengjgmchpabaaGreat.Wr
open Go Go.RowKit Vl Kv Ss Cn Mem Lg Nm
theorem cHead_enc {f : Fl} (h : f.ents.length ≤ 8) : cHead.enc f = mHead f ++ Pk.textB f.snap := by
  show Pk.intB f.kind ++ (Pk.intB f.from_ ++ (Pk.intB f.to ++ (Pk.intB f.term ++ (Pk.intB f.index ++ (Pk.intB f.logt ++ (Pk.intB f.commit ++ (Pk.intB f.round ++ (Pk.markB f.yes ++ ((cList cEnt (fun n => decide (n ≤ 8))).enc f.ents ++ (cConf.enc f.conf ++ Pk.textB f.snap)))))))))) = _
  rw [listB_enc (decide_eq_true (by omega))]
  unfold mHead mNums
  simp only [List.append_assoc]
theorem cInner_enc {f : Fl} (h : f.ents.length ≤ 8) : cInner.enc f = mHead f ++ (Pk.textB f.snap ++ Pk.intB 0) := by
  show cHead.enc f ++ (Pk.intB 0 ++ (if (0 : Int) = 0 then Cod.one () else Cod.non).enc ()) = _
  rw [cHead_enc h, if_pos rfl]
  show _ ++ (Pk.intB 0 ++ []) = _
  simp only [List.append_assoc, List.append_nil]
/-- a message, its inner ones in a list -/
def me (x : Mr) (L : List Mr) : Me := ⟨x.1, L.map Prod.fst⟩
theorem okF_len {f : Fl} (h : okF f = true) : f.ents.length ≤ 8 := by
  unfold okF at h
  rw [Bool.and_eq_true, decide_eq_true_eq] at h
  omega
theorem mI_some {l : List Nat} {f : Fl} (hk : okF f = true) (hs : f.snap.length ≤ 16384) : mI (some l) f = some (l ++ cInner.enc f) := by
  unfold mI mS appT
  rw [if_pos hs, cInner_enc (okF_len hk)]
  show some (((l ++ mHead f) ++ Pk.textB f.snap) ++ Pk.intB 0) = _
  simp only [List.append_assoc]
theorem mI_long {o : Option (List Nat)} {f : Fl} (hs : ¬ f.snap.length ≤ 16384) : mI o f = none := by
  unfold mI mS appT
  rw [if_neg hs]; rfl
theorem mI_none (f : Fl) : mI none f = none := by
  unfold mI mS appT
  by_cases hs : f.snap.length ≤ 16384
  · rw [if_pos hs]; rfl
  · rw [if_neg hs]; rfl
theorem fold_none (L : List Mr) : L.foldl (fun o y => mI o y.1) none = none := by
  induction L with
  | nil => rfl
  | cons y r ih => rw [List.foldl_cons, mI_none]; exact ih
theorem fold_some {L : List Mr} (l : List Nat) (hk : ∀ y ∈ L, okF y.1 = true) (hs : ∀ y ∈ L, y.1.snap.length ≤ 16384) : L.foldl (fun o y => mI o y.1) (some l) = some (l ++ (L.map Prod.fst).flatMap cInner.enc) := by
  induction L generalizing l with
  | nil => simp
  | cons y r ih =>
    rw [List.foldl_cons, mI_some (hk y (List.mem_cons_self ..)) (hs y (List.mem_cons_self ..)), ih _ (fun z hz => hk z (List.mem_cons_of_mem _ hz)) (fun z hz => hs z (List.mem_cons_of_mem _ hz))]
    simp
theorem fold_long {L : List Mr} (o : Option (List Nat)) (hs : ¬ ∀ y ∈ L, y.1.snap.length ≤ 16384) : L.foldl (fun o y => mI o y.1) o = none := by
  induction L generalizing o with
  | nil => exact absurd (fun y hy => nomatch hy) hs
  | cons y r ih =>
    rw [List.foldl_cons]
    by_cases h1 : y.1.snap.length ≤ 16384
    · refine ih _ fun h2 => hs fun z hz => ?_
      rcases List.mem_cons.1 hz with rfl | hz
      · exact h1
      · exact h2 z hz
    · rw [mI_long h1]; exact fold_none r
def snapsOk (x : Mr) (L : List Mr) : Prop := x.1.snap.length ≤ 16384 ∧ ∀ y ∈ L, y.1.snap.length ≤ 16384
def mayM (x : Mr) (L : List Mr) : Prop := okF x.1 = true ∧ (x.2.n : Int) ≤ 16 ∧ L.all okI = true
theorem okI_flat {L : List Mr} (h : L.all okI = true) : ∀ y ∈ L, okF y.1 = true ∧ y.2.n = 0 := fun y hy => by
  have := List.all_eq_true.1 h y hy
  unfold okI at this
  rw [Bool.and_eq_true, decide_eq_true_eq] at this
  exact this
theorem mR_yes {x : Mr} {L : List Mr} (hn : L.length = x.2.n) (h : mayM x L) (hs : snapsOk x L) : mR (some []) x L 16 = some (some (cMsg.enc (me x L))) := by
  unfold mR
  rw [if_pos (c := okF x.1 = true ∧ (x.2.n : Int) ≤ 16 ∧ L.all okI = true) h]
  obtain ⟨h1, h2, h3⟩ := h
  have e0 : app (mS (some []) x.1) (Pk.intB x.2.n) = some (cHead.enc x.1 ++ Pk.intB x.2.n) := by
    unfold mS appT
    rw [if_pos hs.1, cHead_enc (okF_len h1)]
    rfl
  rw [e0, fold_some _ (fun y hy => (okI_flat h3 y hy).1) hs.2]
  have e1 : cMsg.enc (me x L) = cHead.enc x.1 ++ (Pk.intB x.2.n ++ (L.map Prod.fst).flatMap cInner.enc) := by
    show cHead.enc x.1 ++ (cList cInner (fun n => decide (n ≤ 16))).enc (L.map Prod.fst) = _
    rw [cList_enc cInner (by rw [List.length_map]; exact decide_eq_true (by omega)), List.length_map, hn]
  rw [e1, List.append_assoc]
theorem mR_long {x : Mr} {L : List Mr} (h : mayM x L) (hs : ¬ snapsOk x L) : mR (some []) x L 16 = some none := by
  unfold mR
  rw [if_pos (c := okF x.1 = true ∧ (x.2.n : Int) ≤ 16 ∧ L.all okI = true) h]
  by_cases h1 : x.1.snap.length ≤ 16384
  · rw [fold_long _ (fun h2 => hs ⟨h1, h2⟩)]
  · have e0 : app (mS (some []) x.1) (Pk.intB x.2.n) = none := by
      unfold mS appT
      rw [if_neg h1]; rfl
    rw [e0, fold_none]
theorem mR_no {x : Mr} {L : List Mr} (h : ¬ mayM x L) : mR (some []) x L 16 = none := if_neg h
end Go.Proofs.YtaengjgmchpabaaGreat.Wr
end
section
/- Commands in memory. -/
namespace Go.Proofs.YtaengjgmchpabaaGreat.Kv
open Go Go.RowKit Vl Nm Mem
def Cm.zero : Cm := ⟨0, ⟨#[]⟩, V.zero, V.zero⟩
instance : Inhabited Cm := ⟨Cm.zero⟩
def Cm.ok (c : Cm) : Prop := c.old.num < 18446744073709551616 ∧ c.val.num < 18446744073709551616
def Cm.cells (c : Cm) : List Value := [.int .i64 c.kind, .string c.key, .int .i64 c.old.kind, .float .f64 c.old.num, .string c.old.text, .int .i64 c.val.kind, .float .f64 c.val.num, .string c.val.text]
def Cm.cell (c : Cm) (j : Nat) : Option Value := c.cells[j]?
def Cm.at_ (w : World) (b o : Nat) (c : Cm) : Prop :=
  w.cell? ⟨b, o, none⟩ = some (.int .i64 c.kind) ∧ w.cell? ⟨b, o + 1, none⟩ = some (.string c.key) ∧ w.cell? ⟨b, o + 2, none⟩ = some (.int .i64 c.old.kind) ∧ w.cell? ⟨b, o + 3, none⟩ = some (.float .f64 c.old.num) ∧ w.cell? ⟨b, o + 4, none⟩ = some (.string c.old.text) ∧
  w.cell? ⟨b, o + 5, none⟩ = some (.int .i64 c.val.kind) ∧ w.cell? ⟨b, o + 6, none⟩ = some (.float .f64 c.val.num) ∧ w.cell? ⟨b, o + 7, none⟩ = some (.string c.val.text)
structure CmdsAt (w : World) (a : Option Addr) (C : List Cm) : Prop where
  ok : ∀ c ∈ C, c.ok
  at_ : 0 < C.length → ∃ b off, a = some ⟨b, off, none⟩ ∧ ∀ i, i < C.length → (C.getD i Cm.zero).at_ w b (off + i * 8)
theorem Cm.at_.below {w w' : World} {c : Cm} {b o : Nat} (h : c.at_ w b o) (hk : Below w.heap.size w w') : c.at_ w' b o := by
  have g : ∀ j v, w.cell? ⟨b, j, none⟩ = some v → w'.cell? ⟨b, j, none⟩ = some v := fun j v hc => (World.cell?_of_block (w := w) (hk.block b (World.block_lt_of_cell? w _ hc))).trans hc
  exact ⟨g _ _ h.1, g _ _ h.2.1, g _ _ h.2.2.1, g _ _ h.2.2.2.1, g _ _ h.2.2.2.2.1, g _ _ h.2.2.2.2.2.1, g _ _ h.2.2.2.2.2.2.1, g _ _ h.2.2.2.2.2.2.2⟩
theorem CmdsAt.below {w w' : World} {a : Option Addr} {C : List Cm} (h : CmdsAt w a C) (hk : Below w.heap.size w w') : CmdsAt w' a C := by
  refine ⟨h.ok, fun h0 => ?_⟩
  obtain ⟨b, off, ha, hc⟩ := h.at_ h0
  exact ⟨b, off, ha, fun i hi => (hc i hi).below hk⟩
theorem CmdsAt.get {w : World} {a : Option Addr} {C : List Cm} (h : CmdsAt w a C) {i : Nat} (hi : i < C.length) : (C.getD i Cm.zero).ok := h.ok _ (by simp [hi])
end Go.Proofs.YtaengjgmchpabaaGreat.Kv
end
section
/- A command, a value that are handed in. -/
namespace Go.Proofs.YtaengjgmchpabaaGreat.Kv
open Go Go.ChangeShapes Go.WideShapes Go.RowKit Go.Deep Vl Nm Mem
theorem choose_lt {α : Type} [Inhabited α] {n : Nat} {p : Nat → α → Prop} (h : ∀ i, i < n → ∃ x, p i x) : ∃ f : Nat → α, ∀ i, i < n → p i (f i) :=
  ⟨fun i => if hi : i < n then Classical.choose (h i hi) else default, fun i hi => by
    show p i (if hi : i < n then Classical.choose (h i hi) else default)
    rw [dif_pos hi]; exact Classical.choose_spec (h i hi)⟩
theorem trod_float1 {H : Type} {enc : TypeId × Value → H} {P : Program} {w : World} {base : Nat} {spare : Nat → Bool} {held : Bool} {n : Nat} {t : TypeId} {v : Value} {x : DataW H × List MemPlace}
    (ht : P.underlying t = some (.float .f64)) (h : DataW.trod enc P w base spare held n t [v] = some x) : ∃ b, v = .float .f64 b ∧ b < 18446744073709551616 := by
  cases n with
  | zero => simp [DataW.trod] at h
  | succ n =>
    cases v <;> simp only [DataW.trod, ht] at h <;> first | (cases h; done) | skip
    rename_i k' b
    split at h
    · rename_i hk
      obtain ⟨rfl, hw⟩ := hk
      exact ⟨b, rfl, by simpa [Lit.wf] using hw⟩
    · cases h
theorem trod_int1 {H : Type} {enc : TypeId × Value → H} {P : Program} {w : World} {base : Nat} {spare : Nat → Bool} {held : Bool} {n : Nat} {t : TypeId} {v : Value} {x : DataW H × List MemPlace}
    (ht : P.underlying t = some (.int .i64)) (h : DataW.trod enc P w base spare held n t [v] = some x) : ∃ q, v = .int .i64 q := by
  obtain ⟨q, hq, _, _⟩ := DataW.trod_int ht h
  exact ⟨q, by simpa using hq⟩
theorem trod_string1 {H : Type} {enc : TypeId × Value → H} {P : Program} {w : World} {base : Nat} {spare : Nat → Bool} {held : Bool} {n : Nat} {t : TypeId} {v : Value} {x : DataW H × List MemPlace}
    (ht : P.underlying t = some .string) (h : DataW.trod enc P w base spare held n t [v] = some x) : ∃ s, v = .string s := by
  obtain ⟨s, hs, _, _⟩ := DataW.trod_string ht h
  exact ⟨s, by simpa using hs⟩
set_option maxRecDepth 100000 in
theorem trod_value {H : Type} {enc : TypeId × Value → H} {w : World} {base : Nat} {spare : Nat → Bool} {held : Bool} {n : Nat} {v0 v1 v2 : Value} {x : DataW H × List MemPlace}
    (h : DataW.trod enc Tryz.prog w base spare held n 64 [v0, v1, v2] = some x) : ∃ v : V, v0 = .int .i64 v.kind ∧ v1 = .float .f64 v.num ∧ v2 = .string v.text ∧ v.num < 18446744073709551616 := by
  obtain ⟨ys, n', _, _, _, hyl, hf⟩ := DataW.trod_struct Tryz.underlying64 h
  have c3 : Tryz.prog.cellsOf 3 = 1 := by kernel_rfl
  have c30 : Tryz.prog.cellsOf 62 = 1 := by kernel_rfl
  have c9 : Tryz.prog.cellsOf 9 = 1 := by kernel_rfl
  match ys, hyl with
  | [y0, y1, y2], _ =>
    have t0 : DataW.trod enc Tryz.prog w base spare held n' 3 (([v0, v1, v2].drop 0).take (Tryz.prog.cellsOf 3)) = some y0 := hf 0 _ rfl
    rw [c3] at t0
    have t1 : DataW.trod enc Tryz.prog w base spare held n' 62 (([v0, v1, v2].drop 1).take (Tryz.prog.cellsOf 62)) = some y1 := hf 1 _ rfl
    rw [c30] at t1
    have t2 : DataW.trod enc Tryz.prog w base spare held n' 9 (([v0, v1, v2].drop 2).take (Tryz.prog.cellsOf 9)) = some y2 := hf 2 _ rfl
    rw [c9] at t2
    obtain ⟨q0, rfl⟩ := trod_int1 Tryz.underlying3 (x := y0) t0
    obtain ⟨q1, rfl, b1⟩ := trod_float1 Tryz.underlying62 (x := y1) t1
    obtain ⟨s, rfl⟩ := trod_string1 Tryz.underlying9 (x := y2) t2
    exact ⟨⟨q0, q1, s⟩, rfl, rfl, rfl, b1⟩
set_option maxRecDepth 100000 in
theorem trod_cmd {H : Type} {enc : TypeId × Value → H} {w : World} {base : Nat} {spare : Nat → Bool} {held : Bool} {n : Nat} {cs : List Value} {z : DataW H × List MemPlace} (hlen : cs.length = 8)
    (ht : DataW.trod enc Tryz.prog w base spare held n 66 cs = some z) : ∃ c : Cm, c.ok ∧ cs = c.cells := by
  obtain ⟨ys, n', _, _, _, hyl, hf⟩ := DataW.trod_struct Tryz.underlying66 ht
  have c3 : Tryz.prog.cellsOf 3 = 1 := by kernel_rfl
  have c9 : Tryz.prog.cellsOf 9 = 1 := by kernel_rfl
  have cv : Tryz.prog.cellsOf 64 = 3 := by kernel_rfl
  match cs, hlen, ys, hyl with
  | [v0, v1, v2, v3, v4, v5, v6, v7], _, [y0, y1, y2, y3], _ =>
    have t0 : DataW.trod enc Tryz.prog w base spare held n' 3 (([v0, v1, v2, v3, v4, v5, v6, v7].drop 0).take (Tryz.prog.cellsOf 3)) = some y0 := hf 0 _ rfl
    rw [c3] at t0
    have t1 : DataW.trod enc Tryz.prog w base spare held n' 9 (([v0, v1, v2, v3, v4, v5, v6, v7].drop 1).take (Tryz.prog.cellsOf 9)) = some y1 := hf 1 _ rfl
    rw [c9] at t1
    have t2 : DataW.trod enc Tryz.prog w base spare held n' 64 (([v0, v1, v2, v3, v4, v5, v6, v7].drop 2).take (Tryz.prog.cellsOf 64)) = some y2 := hf 2 _ rfl
    rw [cv] at t2
    have t3 : DataW.trod enc Tryz.prog w base spare held n' 64 (([v0, v1, v2, v3, v4, v5, v6, v7].drop 5).take (Tryz.prog.cellsOf 64)) = some y3 := hf 3 _ rfl
    rw [cv] at t3
    obtain ⟨q, rfl⟩ := trod_int1 Tryz.underlying3 (x := y0) t0
    obtain ⟨s, rfl⟩ := trod_string1 Tryz.underlying9 (x := y1) t1
    obtain ⟨u, rfl, rfl, rfl, hu⟩ := trod_value (x := y2) t2
    obtain ⟨v, rfl, rfl, rfl, hv⟩ := trod_value (x := y3) t3
    exact ⟨⟨q, s, u, v⟩, ⟨hu, hv⟩, rfl⟩
set_option maxRecDepth 100000 in
theorem in_cmd {H : Type} {enc : TypeId × Value → H} {w w0 : World} {r : Reach} {b0 base : Nat} {spare : Nat → Bool} {held : Bool} {x : Value} {d : DataW H} {ps : List MemPlace}
    (hv : Value.okWide Tryz.prog w0 r b0 66 x) (h : DataW.Trod enc Tryz.prog w base spare held 66 x d ps) : ∃ c : Cm, x = c.agg ∧ c.ok := by
  obtain ⟨cs, rfl, hsz⟩ := okWide_struct Tryz.underlying66 hv
  obtain ⟨fuel, hf⟩ := h
  have hC : Tryz.prog.cellsOf 66 = 8 := by kernel_rfl
  rw [hC] at hsz
  obtain ⟨l⟩ := cs
  obtain ⟨c, hc, hl⟩ := trod_cmd hsz hf
  have hl : l = c.cells := hl
  subst hl
  exact ⟨c, rfl, hc⟩
set_option maxRecDepth 100000 in
theorem in_value {H : Type} {enc : TypeId × Value → H} {w w0 : World} {r : Reach} {b0 base : Nat} {spare : Nat → Bool} {held : Bool} {x : Value} {d : DataW H} {ps : List MemPlace}
    (hv : Value.okWide Tryz.prog w0 r b0 64 x) (h : DataW.Trod enc Tryz.prog w base spare held 64 x d ps) : ∃ v : V, x = v.val ∧ v.num < 18446744073709551616 := by
  obtain ⟨cs, rfl, hsz⟩ := okWide_struct Tryz.underlying64 hv
  obtain ⟨fuel, hf⟩ := h
  have hC : Tryz.prog.cellsOf 64 = 3 := by kernel_rfl
  rw [hC] at hsz
  obtain ⟨l⟩ := cs
  match l, hsz with
  | [v0, v1, v2], _ =>
    obtain ⟨v, rfl, rfl, rfl, hb⟩ := trod_value hf
    exact ⟨v, rfl, hb⟩
end Go.Proofs.YtaengjgmchpabaaGreat.Kv
end
section
/- A call in memory, and what comes in of one. -/
namespace Go.Proofs.YtaengjgmchpabaaGreat.Ss
open Go Go.ChangeShapes Go.WideShapes Go.RowKit Go.Deep Vl Nm Mem Kv
def Cl.ok (c : Cl) : Prop := c.cmd.ok
def Cl.cells (c : Cl) : List Value := [.int .i64 c.client, .int .i64 c.seq, .int .i64 c.cmd.kind, .string c.cmd.key, .int .i64 c.cmd.old.kind, .float .f64 c.cmd.old.num, .string c.cmd.old.text, .int .i64 c.cmd.val.kind, .float .f64 c.cmd.val.num, .string c.cmd.val.text]
def Cl.cell (c : Cl) (j : Nat) : Option Value := c.cells[j]?
def Cl.at_ (w : World) (b o : Nat) (c : Cl) : Prop :=
  w.cell? ⟨b, o, none⟩ = some (.int .i64 c.client) ∧ w.cell? ⟨b, o + 1, none⟩ = some (.int .i64 c.seq) ∧ w.cell? ⟨b, o + 2, none⟩ = some (.int .i64 c.cmd.kind) ∧ w.cell? ⟨b, o + 3, none⟩ = some (.string c.cmd.key) ∧ w.cell? ⟨b, o + 4, none⟩ = some (.int .i64 c.cmd.old.kind) ∧
  w.cell? ⟨b, o + 5, none⟩ = some (.float .f64 c.cmd.old.num) ∧ w.cell? ⟨b, o + 6, none⟩ = some (.string c.cmd.old.text) ∧ w.cell? ⟨b, o + 7, none⟩ = some (.int .i64 c.cmd.val.kind) ∧ w.cell? ⟨b, o + 8, none⟩ = some (.float .f64 c.cmd.val.num) ∧ w.cell? ⟨b, o + 9, none⟩ = some (.string c.cmd.val.text)
theorem Cl.at_.below {w w' : World} {c : Cl} {b o : Nat} (h : c.at_ w b o) (hk : Below w.heap.size w w') : c.at_ w' b o := by
  have g : ∀ j v, w.cell? ⟨b, j, none⟩ = some v → w'.cell? ⟨b, j, none⟩ = some v := fun j v hc => (World.cell?_of_block (w := w) (hk.block b (World.block_lt_of_cell? w _ hc))).trans hc
  obtain ⟨h0, h1, h2, h3, h4, h5, h6, h7, h8, h9⟩ := h
  exact ⟨g _ _ h0, g _ _ h1, g _ _ h2, g _ _ h3, g _ _ h4, g _ _ h5, g _ _ h6, g _ _ h7, g _ _ h8, g _ _ h9⟩
set_option maxRecDepth 100000 in
theorem trod_call {H : Type} {enc : TypeId × Value → H} {w : World} {base : Nat} {spare : Nat → Bool} {held : Bool} {n : Nat} {cs : List Value} {z : DataW H × List MemPlace} (hlen : cs.length = 10)
    (ht : DataW.trod enc Tryz.prog w base spare held n 68 cs = some z) : ∃ c : Cl, c.ok ∧ cs = c.cells := by
  obtain ⟨ys, n', _, _, _, hyl, hf⟩ := DataW.trod_struct Tryz.underlying68 ht
  have c3 : Tryz.prog.cellsOf 3 = 1 := by kernel_rfl
  have cc : Tryz.prog.cellsOf 66 = 8 := by kernel_rfl
  match cs, hlen, ys, hyl with
  | [v0, v1, v2, v3, v4, v5, v6, v7, v8, v9], _, [y0, y1, y2], _ =>
    have t0 : DataW.trod enc Tryz.prog w base spare held n' 3 (([v0, v1, v2, v3, v4, v5, v6, v7, v8, v9].drop 0).take (Tryz.prog.cellsOf 3)) = some y0 := hf 0 _ rfl
    rw [c3] at t0
    have t1 : DataW.trod enc Tryz.prog w base spare held n' 3 (([v0, v1, v2, v3, v4, v5, v6, v7, v8, v9].drop 1).take (Tryz.prog.cellsOf 3)) = some y1 := hf 1 _ rfl
    rw [c3] at t1
    have t2 : DataW.trod enc Tryz.prog w base spare held n' 66 (([v0, v1, v2, v3, v4, v5, v6, v7, v8, v9].drop 2).take (Tryz.prog.cellsOf 66)) = some y2 := hf 2 _ rfl
    rw [cc] at t2
    obtain ⟨q, rfl⟩ := trod_int1 Tryz.underlying3 (x := y0) t0
    obtain ⟨r, rfl⟩ := trod_int1 Tryz.underlying3 (x := y1) t1
    obtain ⟨c, hc, he⟩ := trod_cmd (z := y2) rfl t2
    have he : [v2, v3, v4, v5, v6, v7, v8, v9] = c.cells := he
    simp only [Cm.cells, List.cons.injEq, and_true] at he
    obtain ⟨rfl, rfl, rfl, rfl, rfl, rfl, rfl, rfl⟩ := he
    exact ⟨⟨q, r, c⟩, hc, rfl⟩
end Go.Proofs.YtaengjgmchpabaaGreat.Ss
end
section
/- What is handed in, opened: slices of bytes, of ints. -/
namespace Go.Proofs.YtaengjgmchpabaaGreat.Pk
open Go Go.ChangeShapes Go.WideShapes Go.RowKit Go.Deep Mem

/-- what is known of a slice of bytes that came in -/
def BytesIn (w : World) (a : Option Addr) (len cap : Nat) : Prop := ∃ b l, l.length = len ∧ Mem.Src w b a cap l ∧ B8 l
theorem in_bytes {H : Type} {enc : TypeId × Value → H} {P : Program} {w : World} {base : Nat} {spare : Nat → Bool} {held : Bool} {t e : TypeId} {a : Option Addr} {len cap : Nat} {d : DataW H} {ps : List MemPlace}
    (ht : P.underlying t = some (.slice e)) (he : P.underlying e = some (.int .u8)) (hc : P.cellsOf e = 1) (h : DataW.Trod enc P w base spare held t (.slice a len cap) d ps) : BytesIn w a len cap := by
  obtain ⟨fuel, hf⟩ := h
  rcases open_slice1 ht hc hf with ⟨h1, _⟩ | ⟨x, len', cap', m, n, V, D, Pl, h1, _, hl, hm, hmm, _, hx⟩
  · simp [Value.cells] at h1
    obtain ⟨rfl, rfl, rfl⟩ := h1
    exact ⟨0, [], rfl, .inl ⟨Nat.le_refl _, by decide, .inl ⟨rfl, rfl, rfl⟩⟩, B8.nil⟩
  · simp [Value.cells] at h1
    obtain ⟨rfl, rfl, rfl⟩ := h1
    have hle : len ≤ m := by rw [hmm]; split <;> omega
    have hV : ∀ i, i < len → ∃ b : Nat, b < 256 ∧ V i = .int .u8 b := fun i hi => by
      obtain ⟨q, hq, _, hw⟩ := DataW.trod_int he (hx i (by omega)).2
      have h2 : IntKind.u8.min ≤ q ∧ q ≤ IntKind.u8.max := by simpa [Lit.wf] using hw
      have h3 : (0 : Int) ≤ q ∧ q ≤ 255 := h2
      exact ⟨q.toNat, by omega, by simp at hq; rw [hq]; congr 1; omega⟩
    obtain ⟨f, hf2⟩ := choose_lt (p := fun i (b : Nat) => b < 256 ∧ V i = .int .u8 b) hV
    have h8 : B8 ((List.range len).map f) := by
      intro y hy
      obtain ⟨i, hi, rfl⟩ := List.mem_map.1 hy
      exact (hf2 i (List.mem_range.1 hi)).1
    by_cases h0 : len = 0
    · subst h0
      exact ⟨0, [], rfl, .inr ⟨rfl, by simp⟩, B8.nil⟩
    · obtain ⟨b, off, spot⟩ := x
      have c0 := (hx 0 (by omega)).1
      have hspot : spot = none := by simpa [Addr.add] using World.cell?_spot c0
      subst hspot
      refine ⟨b, (List.range len).map f, by simp, .inl ⟨by simpa using hl, by unfold maxLen at hm; exact hm, .inr ⟨off, rfl, fun i hi => ?_⟩⟩, h8⟩
      simp at hi
      rw [← Go.WideShapes.add_plain, (hx i (by omega)).1, (hf2 i hi).2]
      simp [hi]

/-- the ints that a slice shows -/
def Ints (w : World) (a : Option Addr) (L : List Int) : Prop :=
  (∀ x ∈ L, -9223372036854775808 ≤ x ∧ x ≤ 9223372036854775807) ∧ L.length ≤ 9223372036854775807 ∧ (0 < L.length → ∃ b off, a = some ⟨b, off, none⟩ ∧ ∀ i, i < L.length → w.cell? ⟨b, off + i, none⟩ = some (.int .i64 (L.getD i 0)))
theorem Ints.kept {w w' : World} {a : Option Addr} {L : List Int} (h : Ints w a L) (hk : Kept None w w') : Ints w' a L := by
  refine ⟨h.1, h.2.1, fun h0 => ?_⟩
  obtain ⟨b, off, ha, hc⟩ := h.2.2 h0
  exact ⟨b, off, ha, fun i hi => (hk.cell (p := ⟨b, off + i, none⟩) (World.block_lt_of_cell? w _ (hc i hi)) (fun h => h)).trans (hc i hi)⟩
def IntsIn (w : World) (a : Option Addr) (len cap : Nat) : Prop := len ≤ cap ∧ ∃ L, L.length = len ∧ Ints w a L
theorem in_ints {H : Type} {enc : TypeId × Value → H} {P : Program} {w : World} {base : Nat} {spare : Nat → Bool} {held : Bool} {t e : TypeId} {a : Option Addr} {len cap : Nat} {d : DataW H} {ps : List MemPlace}
    (ht : P.underlying t = some (.slice e)) (he : P.underlying e = some (.int .i64)) (hc : P.cellsOf e = 1) (h : DataW.Trod enc P w base spare held t (.slice a len cap) d ps) : IntsIn w a len cap := by
  obtain ⟨fuel, hf⟩ := h
  rcases open_slice1 ht hc hf with ⟨h1, _⟩ | ⟨x, len', cap', m, n, V, D, Pl, h1, _, hl, hm, hmm, _, hx⟩
  · simp [Value.cells] at h1
    obtain ⟨rfl, rfl, rfl⟩ := h1
    exact ⟨Nat.le_refl _, [], rfl, (by simp), by simp, by simp⟩
  · simp [Value.cells] at h1
    obtain ⟨rfl, rfl, rfl⟩ := h1
    have hle : len ≤ m := by rw [hmm]; split <;> omega
    have hV : ∀ i, i < len → ∃ q : Int, (-9223372036854775808 ≤ q ∧ q ≤ 9223372036854775807) ∧ V i = .int .i64 q := fun i hi => by
      obtain ⟨q, hq, _, hw⟩ := DataW.trod_int he (hx i (by omega)).2
      have h2 : IntKind.i64.min ≤ q ∧ q ≤ IntKind.i64.max := by simpa [Lit.wf] using hw
      exact ⟨q, h2, by simp at hq; rw [hq]⟩
    obtain ⟨f, hf2⟩ := choose_lt (p := fun i (q : Int) => (-9223372036854775808 ≤ q ∧ q ≤ 9223372036854775807) ∧ V i = .int .i64 q) hV
    refine ⟨hl, (List.range len).map f, by simp, fun y hy => ?_, by unfold maxLen at hm; simp; omega, fun h0 => ?_⟩
    · obtain ⟨i, hi, rfl⟩ := List.mem_map.1 hy
      exact (hf2 i (List.mem_range.1 hi)).1
    · simp at h0
      obtain ⟨b, off, spot⟩ := x
      have c0 := (hx 0 (by omega)).1
      have hspot : spot = none := by simpa [Addr.add] using World.cell?_spot c0
      subst hspot
      refine ⟨b, off, rfl, fun i hi => ?_⟩
      simp at hi
      rw [← Go.WideShapes.add_plain, (hx i (by omega)).1, (hf2 i hi).2]
      simp [hi]
end Go.Proofs.YtaengjgmchpabaaGreat.Pk
end
section
/- A configuration that is handed in. -/
namespace Go.Proofs.YtaengjgmchpabaaGreat.Cn
open Go Go.ChangeShapes Go.WideShapes Go.RowKit
theorem trod_int1 {H : Type} {enc : TypeId × Value → H} {P : Program} {w : World} {base : Nat} {spare : Nat → Bool} {held : Bool} {n : Nat} {t : TypeId} {v : Value} {x : DataW H × List MemPlace}
    (ht : P.underlying t = some (.int .i64)) (h : DataW.trod enc P w base spare held n t [v] = some x) : ∃ q, v = .int .i64 q ∧ -9223372036854775808 ≤ q ∧ q ≤ 9223372036854775807 := by
  obtain ⟨q, hq, _, hw⟩ := DataW.trod_int ht h
  have h2 : IntKind.i64.min ≤ q ∧ q ≤ IntKind.i64.max := by simpa [Lit.wf] using hw
  exact ⟨q, by simpa using hq, h2⟩
def I64 (q : Int) : Prop := -9223372036854775808 ≤ q ∧ q ≤ 9223372036854775807
/-- what is known of a configuration that came in -/
structure C.Came (c : C) : Prop where
  f : I64 c.f
  w : I64 c.w
  l : I64 c.l
  x : I64 c.x
set_option maxRecDepth 100000 in
theorem in_conf {H : Type} {enc : TypeId × Value → H} {w w0 : World} {r : Reach} {b0 base : Nat} {spare : Nat → Bool} {held : Bool} {x : Value} {d : DataW H} {ps : List MemPlace}
    (hv : Value.okWide Tryz.prog w0 r b0 24 x) (h : DataW.Trod enc Tryz.prog w base spare held 24 x d ps) : ∃ c : C, x = c.val ∧ c.Came := by
  obtain ⟨cs, rfl, hsz⟩ := okWide_struct Tryz.underlying24 hv
  obtain ⟨fuel, hf⟩ := h
  obtain ⟨ys, n', _, _, hlen, hyl, hat⟩ := DataW.trod_struct Tryz.underlying24 hf
  have hC : Tryz.prog.cellsOf 24 = 4 := by kernel_rfl
  have c3 : Tryz.prog.cellsOf 3 = 1 := by kernel_rfl
  rw [hC] at hsz
  obtain ⟨l⟩ := cs
  match l, hsz, ys, hyl with
  | [v0, v1, v2, v3], _, [y0, y1, y2, y3], _ =>
    have t0 : DataW.trod enc Tryz.prog w base spare held n' 3 (([v0, v1, v2, v3].drop 0).take (Tryz.prog.cellsOf 3)) = some y0 := hat 0 _ rfl
    have t1 : DataW.trod enc Tryz.prog w base spare held n' 3 (([v0, v1, v2, v3].drop 1).take (Tryz.prog.cellsOf 3)) = some y1 := hat 1 _ rfl
    have t2 : DataW.trod enc Tryz.prog w base spare held n' 3 (([v0, v1, v2, v3].drop 2).take (Tryz.prog.cellsOf 3)) = some y2 := hat 2 _ rfl
    have t3 : DataW.trod enc Tryz.prog w base spare held n' 3 (([v0, v1, v2, v3].drop 3).take (Tryz.prog.cellsOf 3)) = some y3 := hat 3 _ rfl
    rw [c3] at t0 t1 t2 t3
    obtain ⟨q0, rfl, b0, e0⟩ := trod_int1 Tryz.underlying3 (x := y0) t0
    obtain ⟨q1, rfl, b1, e1⟩ := trod_int1 Tryz.underlying3 (x := y1) t1
    obtain ⟨q2, rfl, b2, e2⟩ := trod_int1 Tryz.underlying3 (x := y2) t2
    obtain ⟨q3, rfl, b3, e3⟩ := trod_int1 Tryz.underlying3 (x := y3) t3
    exact ⟨⟨q0, q1, q2, q3⟩, rfl, ⟨b0, e0⟩, ⟨b1, e1⟩, ⟨b2, e2⟩, ⟨b3, e3⟩⟩
end Go.Proofs.YtaengjgmchpabaaGreat.Cn
end
section
/- Cut out of LogIn so that every seat fills it. -/
namespace Go.Proofs.YtaengjgmchpabaaGreat.Lg
def EntsIn (w : World) (a : Option Addr) (len cap : Nat) : Prop := ∃ L : List E, L.length = len ∧ EntAt w a cap L
open Go Go.ChangeShapes Go.WideShapes Go.RowKit Go.Deep Vl Kv Ss Cn Mem Li
set_option maxRecDepth 100000 in
theorem trod_conf {H : Type} {enc : TypeId × Value → H} {w : World} {base : Nat} {spare : Nat → Bool} {held : Bool} {n : Nat} {v0 v1 v2 v3 : Value} {x : DataW H × List MemPlace}
    (h : DataW.trod enc Tryz.prog w base spare held n 24 [v0, v1, v2, v3] = some x) : ∃ c : C, v0 = .int .i64 c.f ∧ v1 = .int .i64 c.w ∧ v2 = .int .i64 c.l ∧ v3 = .int .i64 c.x := by
  obtain ⟨ys, n', _, _, _, hyl, hf⟩ := DataW.trod_struct Tryz.underlying24 h
  have c3 : Tryz.prog.cellsOf 3 = 1 := by kernel_rfl
  match ys, hyl with
  | [y0, y1, y2, y3], _ =>
    have t0 : DataW.trod enc Tryz.prog w base spare held n' 3 (([v0, v1, v2, v3].drop 0).take (Tryz.prog.cellsOf 3)) = some y0 := hf 0 _ rfl
    have t1 : DataW.trod enc Tryz.prog w base spare held n' 3 (([v0, v1, v2, v3].drop 1).take (Tryz.prog.cellsOf 3)) = some y1 := hf 1 _ rfl
    have t2 : DataW.trod enc Tryz.prog w base spare held n' 3 (([v0, v1, v2, v3].drop 2).take (Tryz.prog.cellsOf 3)) = some y2 := hf 2 _ rfl
    have t3 : DataW.trod enc Tryz.prog w base spare held n' 3 (([v0, v1, v2, v3].drop 3).take (Tryz.prog.cellsOf 3)) = some y3 := hf 3 _ rfl
    rw [c3] at t0 t1 t2 t3
    obtain ⟨q0, rfl⟩ := Kv.trod_int1 Tryz.underlying3 (x := y0) t0
    obtain ⟨q1, rfl⟩ := Kv.trod_int1 Tryz.underlying3 (x := y1) t1
    obtain ⟨q2, rfl⟩ := Kv.trod_int1 Tryz.underlying3 (x := y2) t2
    obtain ⟨q3, rfl⟩ := Kv.trod_int1 Tryz.underlying3 (x := y3) t3
    exact ⟨⟨q0, q1, q2, q3⟩, rfl, rfl, rfl, rfl⟩
set_option maxRecDepth 100000 in
theorem trod_entry {H : Type} {enc : TypeId × Value → H} {w : World} {base : Nat} {spare : Nat → Bool} {held : Bool} {n : Nat} {cs : List Value} {z : DataW H × List MemPlace} (hlen : cs.length = 16)
    (ht : DataW.trod enc Tryz.prog w base spare held n 70 cs = some z) : ∃ x : E, cs = x.cells := by
  obtain ⟨ys, n', _, _, _, hyl, hf⟩ := DataW.trod_struct Tryz.underlying70 ht
  have c3 : Tryz.prog.cellsOf 3 = 1 := by kernel_rfl
  have cc : Tryz.prog.cellsOf 68 = 10 := by kernel_rfl
  have cf : Tryz.prog.cellsOf 24 = 4 := by kernel_rfl
  match cs, hlen, ys, hyl with
  | [v0, v1, v2, v3, v4, v5, v6, v7, v8, v9, u0, u1, u2, u3, u4, u5], _, [y0, y1, y2, y3], _ =>
    have t0 : DataW.trod enc Tryz.prog w base spare held n' 3 (([v0, v1, v2, v3, v4, v5, v6, v7, v8, v9, u0, u1, u2, u3, u4, u5].drop 0).take (Tryz.prog.cellsOf 3)) = some y0 := hf 0 _ rfl
    have t1 : DataW.trod enc Tryz.prog w base spare held n' 3 (([v0, v1, v2, v3, v4, v5, v6, v7, v8, v9, u0, u1, u2, u3, u4, u5].drop 1).take (Tryz.prog.cellsOf 3)) = some y1 := hf 1 _ rfl
    have t2 : DataW.trod enc Tryz.prog w base spare held n' 68 (([v0, v1, v2, v3, v4, v5, v6, v7, v8, v9, u0, u1, u2, u3, u4, u5].drop 2).take (Tryz.prog.cellsOf 68)) = some y2 := hf 2 _ rfl
    have t3 : DataW.trod enc Tryz.prog w base spare held n' 24 (([v0, v1, v2, v3, v4, v5, v6, v7, v8, v9, u0, u1, u2, u3, u4, u5].drop 12).take (Tryz.prog.cellsOf 24)) = some y3 := hf 3 _ rfl
    rw [c3] at t0 t1
    rw [cc] at t2
    rw [cf] at t3
    obtain ⟨q, rfl⟩ := Kv.trod_int1 Tryz.underlying3 (x := y0) t0
    obtain ⟨r, rfl⟩ := Kv.trod_int1 Tryz.underlying3 (x := y1) t1
    obtain ⟨c, hc, he⟩ := trod_call (z := y2) rfl t2
    have he : [v2, v3, v4, v5, v6, v7, v8, v9, u0, u1] = c.cells := he
    simp only [Cl.cells, List.cons.injEq, and_true] at he
    obtain ⟨rfl, rfl, rfl, rfl, rfl, rfl, rfl, rfl, rfl, rfl⟩ := he
    obtain ⟨f, rfl, rfl, rfl, rfl⟩ := trod_conf (x := y3) t3
    exact ⟨⟨q, r, c, f⟩, rfl⟩
set_option maxRecDepth 100000 in
theorem in_ents {H : Type} {enc : TypeId × Value → H} {w : World} {base : Nat} {spare : Nat → Bool} {held : Bool} {a : Option Addr} {len cap : Nat} {d : DataW H} {ps : List MemPlace}
    (h : DataW.Trod enc Tryz.prog w base spare held 22 (.slice a len cap) d ps) : EntsIn w a len cap := by
  obtain ⟨fuel, hf⟩ := h
  have hC : Tryz.prog.cellsOf 70 = 16 := by kernel_rfl
  rcases open_slice Tryz.underlying22 hf with ⟨h1, _⟩ | ⟨x, len', cap', m, n, D, Pl, h1, _, hl, hm, hmm, _, hx⟩
  · simp [Value.cells] at h1
    obtain ⟨rfl, rfl, rfl⟩ := h1
    exact ⟨[], rfl, ListAt.empty _⟩
  · simp [Value.cells] at h1
    obtain ⟨rfl, rfl, rfl⟩ := h1
    rw [hC] at hx
    have hle : len ≤ m := by rw [hmm]; split <;> omega
    have hV : ∀ i, i < len → ∃ y : E, ∀ j u, y.cells[j]? = some u → w.cell? ((x.add (i * 16)).add j) = some u := fun i hi => by
      obtain ⟨cs, hcs, ht⟩ := hx i (by omega)
      obtain ⟨_, hlen, hat⟩ := World.cells?_some hcs
      obtain ⟨y, rfl⟩ := trod_entry hlen ht
      refine ⟨y, fun j u hu => ?_⟩
      have hj : j < 16 := (List.getElem?_eq_some_iff.1 hu).1
      rw [hat j hj]
      exact hu
    obtain ⟨f, hf2⟩ := Kv.choose_lt hV
    refine ⟨(List.range len).map f, by simp, ⟨by simpa using hl, by unfold maxLen at hm; omega, fun h => (by cases h), fun h0 => ?_⟩⟩
    simp at h0
    obtain ⟨b, off, spot⟩ := x
    have c0 := hf2 0 (by omega) 0 _ rfl
    have hspot : spot = Option.none := by
      have : w.cell? (((⟨b, off, spot⟩ : Addr).add (0 * 16)).add 0) = some (.int .i64 (f 0).term) := c0
      simpa [Addr.add] using World.cell?_spot this
    subst hspot
    refine ⟨b, off, rfl, fun i hi j u hu => ?_⟩
    simp at hi
    have hg : ((List.range len).map f)[i]'(by simpa using hi) = f i := by simp
    rw [hg] at hu
    have := hf2 i hi j u hu
    rw [Go.WideShapes.add_plain, Go.WideShapes.add_plain] at this
    exact this
end Go.Proofs.YtaengjgmchpabaaGreat.Lg
end
