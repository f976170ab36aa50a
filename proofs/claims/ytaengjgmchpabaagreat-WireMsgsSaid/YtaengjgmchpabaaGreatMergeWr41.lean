import Derived.Test.YtaengjgmchpabaaGreatMergeWr11
import Derived.Test.YtaengjgmchpabaaGreatMergeWr2
import Derived.Test.YtaengjgmchpabaaGreatMergeWr15
import Derived.WalkKit
import Derived.Test.YtaengjgmchpabaaGreatMergeWr25
import Derived.Test.YtaengjgmchpabaaGreatMergeWr40
section
/- Cut out of WireFit so that every seat fills it. -/
namespace Go.Proofs.YtaengjgmchpabaaGreat.Wr
open Go Go.RowKit Vl Kv Ss Cn Mem Lg Nm
theorem z64 : In64 0 := ⟨by decide, by decide⟩
theorem s0 : (⟨#[]⟩ : ByteArray).size ≤ 16384 := by decide
theorem n0 : (0 : Nat) < 18446744073709551616 := by decide
theorem fitV_zero : FitV V.zero := ⟨z64, by decide, by decide⟩
theorem fitCl_zero : FitCl Cl.zero := ⟨z64, z64, z64, by decide, fitV_zero, fitV_zero⟩
theorem fitC_zero : FitC C.zero := ⟨z64, z64, z64, z64⟩
theorem fitE_zero : FitE E.zero := ⟨z64, z64, fitCl_zero, fitC_zero⟩
theorem fitV_of {v : V} (h : cVal.ok v) : FitV v := by
  obtain ⟨k, n, t⟩ := v
  have h : In64 k ∧ (valPart k).ok (n, t) := h
  obtain ⟨hk, h⟩ := h
  unfold valPart at h
  by_cases h1 : k = 1
  · rw [if_pos h1] at h
    have h : ((n < 18446744073709551616 ∧ Nm.canon n = n) ∧ (n, (⟨#[]⟩ : ByteArray)) = (n, t)) := h
    have ht : (⟨#[]⟩ : ByteArray) = t := congrArg Prod.snd h.2
    exact ⟨hk, h.1.1, by rw [← ht]; exact s0⟩
  · rw [if_neg h1] at h
    by_cases h2 : k = 2
    · rw [if_pos h2] at h
      have h : (cKey.ok t ∧ ((0 : Nat), t) = (n, t)) := h
      have hn : 0 = n := congrArg Prod.fst h.2
      exact ⟨hk, by rw [← hn]; exact n0, cKey_ok.1 h.1⟩
    · rw [if_neg h2] at h
      by_cases h0 : k = 0
      · rw [if_pos h0] at h
        have h : (n, t) = ((0 : Nat), (⟨#[]⟩ : ByteArray)) := h
        have hn : n = 0 := congrArg Prod.fst h
        have ht : t = ⟨#[]⟩ := congrArg Prod.snd h
        exact ⟨hk, by rw [hn]; exact n0, by rw [ht]; exact s0⟩
      · rw [if_neg h0] at h
        exact (h : False).elim
theorem fitCl_of {c : Cl} (h : cCall.ok c) : FitCl c := by
  have h : In64 c.client ∧ In64 c.seq ∧ (In64 c.cmd.kind ∧ cKey.ok c.cmd.key ∧ cVal.ok c.cmd.old ∧ cVal.ok c.cmd.val) := h
  exact ⟨h.1, h.2.1, h.2.2.1, cKey_ok.1 h.2.2.2.1, fitV_of h.2.2.2.2.1, fitV_of h.2.2.2.2.2⟩
theorem fitC_of {c : C} (h : cConf.ok c) : FitC c := by
  have h : In64 c.f ∧ In64 c.w ∧ In64 c.l ∧ In64 c.x := h
  exact ⟨h.1, h.2.1, h.2.2.1, h.2.2.2⟩
theorem fitE_of {x : E} (h : cEnt.ok x) : FitE x := by
  obtain ⟨t, k, c, f⟩ := x
  have h : (In64 t ∧ In64 k) ∧ (entPart k).ok (c, f) := h
  obtain ⟨⟨ht, hk⟩, h⟩ := h
  unfold entPart at h
  by_cases h1 : k = 1
  · rw [if_pos h1] at h
    have h : (cCall.ok c ∧ (c, C.zero) = (c, f)) := h
    have hf : C.zero = f := congrArg Prod.snd h.2
    exact ⟨ht, hk, fitCl_of h.1, hf ▸ fitC_zero⟩
  · rw [if_neg h1] at h
    by_cases h2 : k = 2
    · rw [if_pos h2] at h
      have h : (cConf.ok f ∧ (Cl.zero, f) = (c, f)) := h
      have hc : Cl.zero = c := congrArg Prod.fst h.2
      exact ⟨ht, hk, hc ▸ fitCl_zero, fitC_of h.1⟩
    · rw [if_neg h2] at h
      by_cases h0 : k = 0
      · rw [if_pos h0] at h
        have h : (c, f) = (Cl.zero, C.zero) := h
        have hc : c = Cl.zero := congrArg Prod.fst h
        have hf : f = C.zero := congrArg Prod.snd h
        exact ⟨ht, hk, hc ▸ fitCl_zero, hf ▸ fitC_zero⟩
      · rw [if_neg h0] at h
        exact (h : False).elim
end Go.Proofs.YtaengjgmchpabaaGreat.Wr
end
section
/- Cut out of Cmds60 so that every seat fills it. -/
namespace Go.Proofs.YtaengjgmchpabaaGreat.Kv
open Go Go.RowKit Vl Nm Mem
attribute [local go_sem] run_bits run_frombits run_store_float
def Cm.heavy (c : Cm) : Bool := decide (2000 < c.key.size) || decide (2000 < c.old.text.size) || decide (2000 < c.val.text.size)
set_option maxHeartbeats 800000 in
theorem heavyCmd_any (c : Cm) (w : World) :
    Calls Tryz.prog 66 #[c.agg] w fun e w' => e = .returned (.bool c.heavy) ∧ Below w.heap.size w w' := by
  obtain ⟨k, key, ⟨ok, on, os⟩, ⟨vk, vn, vs⟩⟩ := c
  have HC := Lib.hid (show (Cm.mk k key ⟨ok, on, os⟩ ⟨vk, vn, vs⟩).heavy = (decide ((2000 : Int) < (key.size : Int)) || decide ((2000 : Int) < (os.size : Int)) || decide ((2000 : Int) < (vs.size : Int))) by
    unfold Cm.heavy; rw [← int_gt (n := 2000), ← int_gt (n := 2000), ← int_gt (n := 2000)]; rfl)
  cases h0 : decide ((2000 : Int) < (key.size : Int)) <;> cases h1 : decide ((2000 : Int) < (os.size : Int))
  all_goals
    go_enter Tryz.func66, Tryz.ntmps66
    go_wp2_with fail
    go_ret
    exact ⟨ret_bool (by rw [HC.out, h0, h1]; simp), below_alloc _ _⟩
end Go.Proofs.YtaengjgmchpabaaGreat.Kv
end
section
/- Cut out of LogKeepB so that every seat fills it. -/
namespace Go.Proofs.YtaengjgmchpabaaGreat.Lg
open Go Go.RowKit Vl Kv Ss Cn Mem Li Nm
attribute [local go_sem] Nm.run_bits Nm.run_frombits run_store_float
attribute [local irreducible] wpQuiet
def heavyL (L : List E) : Bool := decide (200 < L.length) || L.any (fun x => x.call.cmd.heavy)
theorem any_next {L : List E} {k : Nat} (hk : k < L.length) (h : (L.take k).any (fun x => x.call.cmd.heavy) = false) (hx : (L.getD k E.zero).call.cmd.heavy = false) : (L.take (k + 1)).any (fun x => x.call.cmd.heavy) = false := by
  have e : L.getD k E.zero = L[k] := by simp [hk]
  rw [e] at hx
  rw [List.take_succ_eq_append_getElem hk, List.any_append, h]
  simp [hx]
theorem any_hit {L : List E} {k : Nat} (hk : k < L.length) (hx : (L.getD k E.zero).call.cmd.heavy = true) : heavyL L = true := by
  have e : L.getD k E.zero = L[k] := by simp [hk]
  rw [e] at hx
  unfold heavyL
  rw [Bool.or_eq_true, List.any_eq_true]
  exact .inr ⟨_, List.getElem_mem hk, hx⟩
set_option maxHeartbeats 1600000 in
set_option maxRecDepth 100000 in
theorem heavyEnts_any (a : Option Addr) (cap : Nat) (L : List E) (w : World) (h : EntAt w a cap L) :
    Calls Tryz.prog 32 #[.slice a L.length cap] w fun e w' => e = .returned (.bool (heavyL L)) ∧ Below w.heap.size w w' := by
  have HI := Lib.hid h
  have hmx : L.length ≤ 9223372036854775807 := Nat.le_trans h.len h.max
  clear h
  by_cases hm : 200 < L.length
  · have d1 : decide ((200 : Int) < (L.length : Int)) = true := decide_eq_true (by omega)
    have HR := Lib.hid (show heavyL L = true by unfold heavyL; rw [decide_eq_true hm]; rfl)
    clear hm
    go_enter Tryz.func32, Tryz.ntmps32
    go_wp2
    go_ret
    exact ⟨ret_bool HR.out.symm, Below.refl _ _⟩
  · have d1 : decide ((200 : Int) < (L.length : Int)) = false := decide_eq_false (by omega)
    have HM := Lib.hid hm
    go_enter Tryz.func32, Tryz.ntmps32
    go_wp2
    go_loopw [3] (fun i wr => ∃ k : Nat, k ≤ L.length ∧ i = .int .i64 k ∧ Hid ((L.take k).any (fun x => x.call.cmd.heavy) = false) ∧ Hid (Beh w wr)) (fun i _ => L.length - (intOf i).toNat)
    case atStart => exact ⟨0, by omega, rfl, rfl, Beh.start _⟩
    case round =>
      obtain ⟨k, hk, rfl, hs, HW⟩ := hrel
      by_cases hlt : k < L.length
      · obtain ⟨b, off, rfl, hc⟩ := EntAt.cells (HI.out.below HW.out) (by omega)
        obtain ⟨c0, c1, c2, c3, c4, c5, c6, c7, c8, c9, c10, c11, c12, c13, c14, c15⟩ := hc k hlt
        have HN := Lib.hid (any_next hlt hs.out)
        have HH := Lib.hid (any_hit hlt)
        clear hc
        generalize L.getD k E.zero = x at *
        have HV := fun w => Lib.hid (heavyCmd_any x.call.cmd w)
        cases hq : x.call.cmd.heavy
        · simp only [hq] at HV
          go_wp2_with (go_at_call 66; refine ((HV _).out).mono ?_; rintro e w' ⟨rfl, hb⟩; (have HW := Lib.hid (HW.out.on hb)); clear hb)
          go_roundw
          case rel => exact ⟨k + 1, by omega, by go_num, HN.out hq, HW.out⟩
          case measure => simp [intOf]; omega
        · simp only [hq] at HV
          go_wp2_with (go_at_call 66; refine ((HV _).out).mono ?_; rintro e w' ⟨rfl, hb⟩; (have HW := Lib.hid (HW.out.on hb)); clear hb)
          go_ret
          exact ⟨ret_bool (HH.out hq).symm, HW.out⟩
      · obtain rfl : k = L.length := by omega
        go_wp2
        go_ret
        refine ⟨ret_bool ?_, HW.out⟩
        have := hs.out
        rw [List.take_length] at this
        unfold heavyL
        rw [this, decide_eq_false HM.out]; rfl
end Go.Proofs.YtaengjgmchpabaaGreat.Lg
end
section
/- Cut out of WireIn so that every seat fills it. -/
namespace Go.Proofs.YtaengjgmchpabaaGreat.Wr
open Go Go.ChangeShapes Go.WideShapes Go.RowKit Go.Deep Vl Kv Ss Cn Lg Li
open Mem (B8)
structure RV (v : V) : Prop where
  kind : In64 v.kind
  num : v.num < 18446744073709551616
structure RE (x : E) : Prop where
  term : In64 x.term
  kind : In64 x.kind
  client : In64 x.call.client
  seq : In64 x.call.seq
  ck : In64 x.call.cmd.kind
  old : RV x.call.cmd.old
  val : RV x.call.cmd.val
  conf : FitC x.conf
structure RF (f : Fl) : Prop where
  kind : In64 f.kind
  from_ : In64 f.from_
  to : In64 f.to
  term : In64 f.term
  index : In64 f.index
  logt : In64 f.logt
  commit : In64 f.commit
  round : In64 f.round
  ents : ∀ x ∈ f.ents, RE x
  conf : FitC f.conf
  b8 : B8 f.snap
/-- a message that came in, so deep -/
def MsgD (w : World) : Nat → Mr → Prop
  | 0, x => FlAt w x ∧ RF x.1
  | k + 1, x => FlAt w x ∧ RF x.1 ∧ ∃ L : List Mr, L.length = x.2.n ∧ MsgsAt w x.2.ia x.2.ic L ∧ ∀ y ∈ L, MsgD w k y
theorem slice_of {HH : Type} {enc : TypeId × Value → HH} {P : Program} {w : World} {base : Nat} {spare : Nat → Bool} {held : Bool} {n : Nat} {t e : TypeId} {v : Value} {x : DataW HH × List MemPlace}
    (ht : P.underlying t = some (.slice e)) (h : DataW.trod enc P w base spare held n t [v] = some x) : ∃ a l c, v = .slice a l c := by
  rcases open_slice ht h with ⟨h1, _⟩ | ⟨x, len', cap', m, n, D, Pl, h1, _⟩
  · exact ⟨_, _, _, by simpa using h1⟩
  · exact ⟨_, _, _, by simpa using h1⟩
theorem list_in {α : Type} [Inhabited α] [Row α] {HH : Type} {enc : TypeId × Value → HH} {P : Program} {w : World} {base : Nat} {spare : Nat → Bool} {held : Bool} {n : Nat} {t e : TypeId} {a : Option Addr} {len cap : Nat} {z : DataW HH × List MemPlace}
    (hT : P.underlying t = some (.slice e)) (hC : P.cellsOf e = Row.k α) {Q : α → Prop}
    (hrow : ∀ n cs z, cs.length = Row.k α → DataW.trod enc P w base spare held n e cs = some z → ∃ x : α, cs = Row.cells x ∧ Q x)
    (h : DataW.trod enc P w base spare held n t [.slice a len cap] = some z) : ∃ L : List α, L.length = len ∧ ListAt w a cap L ∧ ∀ y ∈ L, Q y := by
  rcases open_slice hT h with ⟨h1, _⟩ | ⟨x, len', cap', m, n, D, Pl, h1, _, hl, hm, hmm, _, hx⟩
  · simp at h1
    obtain ⟨rfl, rfl, rfl⟩ := h1
    exact ⟨[], rfl, ListAt.empty _, fun y hy => (nomatch hy)⟩
  · simp at h1
    obtain ⟨rfl, rfl, rfl⟩ := h1
    rw [hC] at hx
    have hle : len ≤ m := by rw [hmm]; split <;> omega
    have hV : ∀ i, i < len → ∃ y : α, (∀ j u, (Row.cells y)[j]? = some u → w.cell? ((x.add (i * Row.k α)).add j) = some u) ∧ Q y := fun i hi => by
      obtain ⟨cs, hcs, ht⟩ := hx i (by omega)
      obtain ⟨_, hlen, hat⟩ := World.cells?_some hcs
      obtain ⟨y, rfl, hq⟩ := hrow _ _ _ hlen ht
      refine ⟨y, fun j u hu => ?_, hq⟩
      have hj : j < Row.k α := by have := (List.getElem?_eq_some_iff.1 hu).1; rwa [Row.len] at this
      rw [hat j hj]
      exact hu
    obtain ⟨f, hf2⟩ := Kv.choose_lt hV
    refine ⟨(List.range len).map f, by simp, ⟨by simpa using hl, by unfold maxLen at hm; omega, fun h => (by cases h), fun h0 => ?_⟩, fun y hy => ?_⟩
    · simp at h0
      obtain ⟨b, off, spot⟩ := x
      have hk0 : 0 < (Row.cells (f 0)).length := by rw [Row.len]; exact Row.pos
      have c0 := (hf2 0 (by omega)).1 0 _ (List.getElem?_eq_getElem hk0)
      have hspot : spot = Option.none := by
        have c0 : w.cell? (((⟨b, off, spot⟩ : Addr).add (0 * Row.k α)).add 0) = some _ := c0
        simpa [Addr.add] using World.cell?_spot c0
      subst hspot
      refine ⟨b, off, rfl, fun i hi j u hu => ?_⟩
      simp at hi
      have hg : ((List.range len).map f)[i]'(by simpa using hi) = f i := by simp
      rw [hg] at hu
      have := (hf2 i hi).1 j u hu
      rw [Go.WideShapes.add_plain, Go.WideShapes.add_plain] at this
      exact this
    · obtain ⟨i, hi, rfl⟩ := List.mem_map.1 hy
      exact (hf2 i (List.mem_range.1 hi)).2
set_option maxRecDepth 100000 in
theorem trodV {HH : Type} {enc : TypeId × Value → HH} {w : World} {base : Nat} {spare : Nat → Bool} {held : Bool} {n : Nat} {cs : List Value} {z : DataW HH × List MemPlace} (hlen : cs.length = 3) (ht : DataW.trod enc Tryz.prog w base spare held n 64 cs = some z) : ∃ v : V, cs = [.int .i64 v.kind, .float .f64 v.num, .string v.text] ∧ RV v := by
  obtain ⟨ys, n1, _, _, _, hyl, hf⟩ := DataW.trod_struct Tryz.underlying64 ht
  have cc0 : Tryz.prog.cellsOf 3 = 1 := by kernel_rfl
  have cc1 : Tryz.prog.cellsOf 62 = 1 := by kernel_rfl
  have cc2 : Tryz.prog.cellsOf 9 = 1 := by kernel_rfl
  match cs, hlen, ys, hyl with
  | [v0, v1, v2], _, [y0, y1, y2], _ =>
    have t0 : DataW.trod enc Tryz.prog w base spare held n1 3 (([v0, v1, v2].drop 0).take (Tryz.prog.cellsOf 3)) = some y0 := hf 0 _ rfl
    rw [cc0] at t0
    have t0 : DataW.trod enc Tryz.prog w base spare held n1 3 [v0] = some y0 := t0
    have t1 : DataW.trod enc Tryz.prog w base spare held n1 62 (([v0, v1, v2].drop 1).take (Tryz.prog.cellsOf 62)) = some y1 := hf 1 _ rfl
    rw [cc1] at t1
    have t1 : DataW.trod enc Tryz.prog w base spare held n1 62 [v1] = some y1 := t1
    have t2 : DataW.trod enc Tryz.prog w base spare held n1 9 (([v0, v1, v2].drop 2).take (Tryz.prog.cellsOf 9)) = some y2 := hf 2 _ rfl
    rw [cc2] at t2
    have t2 : DataW.trod enc Tryz.prog w base spare held n1 9 [v2] = some y2 := t2
    obtain ⟨q0, rfl, b0⟩ := Cn.trod_int1 Tryz.underlying3 (x := y0) t0
    obtain ⟨q1, rfl, b1⟩ := Kv.trod_float1 Tryz.underlying62 (x := y1) t1
    obtain ⟨q2, rfl⟩ := Kv.trod_string1 Tryz.underlying9 (x := y2) t2
    exact ⟨⟨q0, q1, q2⟩, rfl, b0, b1⟩
set_option maxRecDepth 100000 in
theorem trodC {HH : Type} {enc : TypeId × Value → HH} {w : World} {base : Nat} {spare : Nat → Bool} {held : Bool} {n : Nat} {cs : List Value} {z : DataW HH × List MemPlace} (hlen : cs.length = 4) (ht : DataW.trod enc Tryz.prog w base spare held n 24 cs = some z) : ∃ c : C, cs = [.int .i64 c.f, .int .i64 c.w, .int .i64 c.l, .int .i64 c.x] ∧ FitC c := by
  obtain ⟨ys, n1, _, _, _, hyl, hf⟩ := DataW.trod_struct Tryz.underlying24 ht
  have cc0 : Tryz.prog.cellsOf 3 = 1 := by kernel_rfl
  match cs, hlen, ys, hyl with
  | [v0, v1, v2, v3], _, [y0, y1, y2, y3], _ =>
    have t0 : DataW.trod enc Tryz.prog w base spare held n1 3 (([v0, v1, v2, v3].drop 0).take (Tryz.prog.cellsOf 3)) = some y0 := hf 0 _ rfl
    rw [cc0] at t0
    have t0 : DataW.trod enc Tryz.prog w base spare held n1 3 [v0] = some y0 := t0
    have t1 : DataW.trod enc Tryz.prog w base spare held n1 3 (([v0, v1, v2, v3].drop 1).take (Tryz.prog.cellsOf 3)) = some y1 := hf 1 _ rfl
    rw [cc0] at t1
    have t1 : DataW.trod enc Tryz.prog w base spare held n1 3 [v1] = some y1 := t1
    have t2 : DataW.trod enc Tryz.prog w base spare held n1 3 (([v0, v1, v2, v3].drop 2).take (Tryz.prog.cellsOf 3)) = some y2 := hf 2 _ rfl
    rw [cc0] at t2
    have t2 : DataW.trod enc Tryz.prog w base spare held n1 3 [v2] = some y2 := t2
    have t3 : DataW.trod enc Tryz.prog w base spare held n1 3 (([v0, v1, v2, v3].drop 3).take (Tryz.prog.cellsOf 3)) = some y3 := hf 3 _ rfl
    rw [cc0] at t3
    have t3 : DataW.trod enc Tryz.prog w base spare held n1 3 [v3] = some y3 := t3
    obtain ⟨q0, rfl, b0⟩ := Cn.trod_int1 Tryz.underlying3 (x := y0) t0
    obtain ⟨q1, rfl, b1⟩ := Cn.trod_int1 Tryz.underlying3 (x := y1) t1
    obtain ⟨q2, rfl, b2⟩ := Cn.trod_int1 Tryz.underlying3 (x := y2) t2
    obtain ⟨q3, rfl, b3⟩ := Cn.trod_int1 Tryz.underlying3 (x := y3) t3
    exact ⟨⟨q0, q1, q2, q3⟩, rfl, b0, b1, b2, b3⟩
set_option maxRecDepth 100000 in
theorem trodM {HH : Type} {enc : TypeId × Value → HH} {w : World} {base : Nat} {spare : Nat → Bool} {held : Bool} {n : Nat} {cs : List Value} {z : DataW HH × List MemPlace} (hlen : cs.length = 8) (ht : DataW.trod enc Tryz.prog w base spare held n 66 cs = some z) : ∃ c : Cm, cs = c.cells ∧ In64 c.kind ∧ RV c.old ∧ RV c.val := by
  obtain ⟨ys, n1, _, _, _, hyl, hf⟩ := DataW.trod_struct Tryz.underlying66 ht
  have cc0 : Tryz.prog.cellsOf 3 = 1 := by kernel_rfl
  have cc1 : Tryz.prog.cellsOf 9 = 1 := by kernel_rfl
  have cc2 : Tryz.prog.cellsOf 64 = 3 := by kernel_rfl
  match cs, hlen, ys, hyl with
  | [v0, v1, v2, v3, v4, v5, v6, v7], _, [y0, y1, y2, y3], _ =>
    have t0 : DataW.trod enc Tryz.prog w base spare held n1 3 (([v0, v1, v2, v3, v4, v5, v6, v7].drop 0).take (Tryz.prog.cellsOf 3)) = some y0 := hf 0 _ rfl
    rw [cc0] at t0
    have t0 : DataW.trod enc Tryz.prog w base spare held n1 3 [v0] = some y0 := t0
    have t1 : DataW.trod enc Tryz.prog w base spare held n1 9 (([v0, v1, v2, v3, v4, v5, v6, v7].drop 1).take (Tryz.prog.cellsOf 9)) = some y1 := hf 1 _ rfl
    rw [cc1] at t1
    have t1 : DataW.trod enc Tryz.prog w base spare held n1 9 [v1] = some y1 := t1
    have t2 : DataW.trod enc Tryz.prog w base spare held n1 64 (([v0, v1, v2, v3, v4, v5, v6, v7].drop 2).take (Tryz.prog.cellsOf 64)) = some y2 := hf 2 _ rfl
    rw [cc2] at t2
    have t2 : DataW.trod enc Tryz.prog w base spare held n1 64 [v2, v3, v4] = some y2 := t2
    have t3 : DataW.trod enc Tryz.prog w base spare held n1 64 (([v0, v1, v2, v3, v4, v5, v6, v7].drop 5).take (Tryz.prog.cellsOf 64)) = some y3 := hf 3 _ rfl
    rw [cc2] at t3
    have t3 : DataW.trod enc Tryz.prog w base spare held n1 64 [v5, v6, v7] = some y3 := t3
    obtain ⟨q0, rfl, b0⟩ := Cn.trod_int1 Tryz.underlying3 (x := y0) t0
    obtain ⟨q1, rfl⟩ := Kv.trod_string1 Tryz.underlying9 (x := y1) t1
    obtain ⟨q2, hq2, b2⟩ := trodV (z := y2) rfl t2
    have hq2 : [v2, v3, v4] = [.int .i64 q2.kind, .float .f64 q2.num, .string q2.text] := hq2
    simp only [List.cons.injEq, and_true] at hq2
    obtain ⟨rfl, rfl, rfl⟩ := hq2
    obtain ⟨q3, hq3, b3⟩ := trodV (z := y3) rfl t3
    have hq3 : [v5, v6, v7] = [.int .i64 q3.kind, .float .f64 q3.num, .string q3.text] := hq3
    simp only [List.cons.injEq, and_true] at hq3
    obtain ⟨rfl, rfl, rfl⟩ := hq3
    exact ⟨⟨q0, q1, q2, q3⟩, rfl, b0, b2, b3⟩
set_option maxRecDepth 100000 in
theorem trodL {HH : Type} {enc : TypeId × Value → HH} {w : World} {base : Nat} {spare : Nat → Bool} {held : Bool} {n : Nat} {cs : List Value} {z : DataW HH × List MemPlace} (hlen : cs.length = 10) (ht : DataW.trod enc Tryz.prog w base spare held n 68 cs = some z) : ∃ c : Cl, cs = c.cells ∧ In64 c.client ∧ In64 c.seq ∧ In64 c.cmd.kind ∧ RV c.cmd.old ∧ RV c.cmd.val := by
  obtain ⟨ys, n1, _, _, _, hyl, hf⟩ := DataW.trod_struct Tryz.underlying68 ht
  have cc0 : Tryz.prog.cellsOf 3 = 1 := by kernel_rfl
  have cc1 : Tryz.prog.cellsOf 66 = 8 := by kernel_rfl
  match cs, hlen, ys, hyl with
  | [v0, v1, v2, v3, v4, v5, v6, v7, v8, v9], _, [y0, y1, y2], _ =>
    have t0 : DataW.trod enc Tryz.prog w base spare held n1 3 (([v0, v1, v2, v3, v4, v5, v6, v7, v8, v9].drop 0).take (Tryz.prog.cellsOf 3)) = some y0 := hf 0 _ rfl
    rw [cc0] at t0
    have t0 : DataW.trod enc Tryz.prog w base spare held n1 3 [v0] = some y0 := t0
    have t1 : DataW.trod enc Tryz.prog w base spare held n1 3 (([v0, v1, v2, v3, v4, v5, v6, v7, v8, v9].drop 1).take (Tryz.prog.cellsOf 3)) = some y1 := hf 1 _ rfl
    rw [cc0] at t1
    have t1 : DataW.trod enc Tryz.prog w base spare held n1 3 [v1] = some y1 := t1
    have t2 : DataW.trod enc Tryz.prog w base spare held n1 66 (([v0, v1, v2, v3, v4, v5, v6, v7, v8, v9].drop 2).take (Tryz.prog.cellsOf 66)) = some y2 := hf 2 _ rfl
    rw [cc1] at t2
    have t2 : DataW.trod enc Tryz.prog w base spare held n1 66 [v2, v3, v4, v5, v6, v7, v8, v9] = some y2 := t2
    obtain ⟨q0, rfl, b0⟩ := Cn.trod_int1 Tryz.underlying3 (x := y0) t0
    obtain ⟨q1, rfl, b1⟩ := Cn.trod_int1 Tryz.underlying3 (x := y1) t1
    obtain ⟨q2, hq2, b2⟩ := trodM (z := y2) rfl t2
    have hq2 : [v2, v3, v4, v5, v6, v7, v8, v9] = q2.cells := hq2
    simp only [Cm.cells, List.cons.injEq, and_true] at hq2
    obtain ⟨rfl, rfl, rfl, rfl, rfl, rfl, rfl, rfl⟩ := hq2
    exact ⟨⟨q0, q1, q2⟩, rfl, b0, b1, b2⟩
set_option maxRecDepth 100000 in
theorem trodE {HH : Type} {enc : TypeId × Value → HH} {w : World} {base : Nat} {spare : Nat → Bool} {held : Bool} {n : Nat} {cs : List Value} {z : DataW HH × List MemPlace} (hlen : cs.length = 16) (ht : DataW.trod enc Tryz.prog w base spare held n 70 cs = some z) : ∃ x : E, cs = Row.cells x ∧ RE x := by
  obtain ⟨ys, n1, _, _, _, hyl, hf⟩ := DataW.trod_struct Tryz.underlying70 ht
  have cc0 : Tryz.prog.cellsOf 3 = 1 := by kernel_rfl
  have cc1 : Tryz.prog.cellsOf 68 = 10 := by kernel_rfl
  have cc2 : Tryz.prog.cellsOf 24 = 4 := by kernel_rfl
  match cs, hlen, ys, hyl with
  | [v0, v1, v2, v3, v4, v5, v6, v7, v8, v9, v10, v11, v12, v13, v14, v15], _, [y0, y1, y2, y3], _ =>
    have t0 : DataW.trod enc Tryz.prog w base spare held n1 3 (([v0, v1, v2, v3, v4, v5, v6, v7, v8, v9, v10, v11, v12, v13, v14, v15].drop 0).take (Tryz.prog.cellsOf 3)) = some y0 := hf 0 _ rfl
    rw [cc0] at t0
    have t0 : DataW.trod enc Tryz.prog w base spare held n1 3 [v0] = some y0 := t0
    have t1 : DataW.trod enc Tryz.prog w base spare held n1 3 (([v0, v1, v2, v3, v4, v5, v6, v7, v8, v9, v10, v11, v12, v13, v14, v15].drop 1).take (Tryz.prog.cellsOf 3)) = some y1 := hf 1 _ rfl
    rw [cc0] at t1
    have t1 : DataW.trod enc Tryz.prog w base spare held n1 3 [v1] = some y1 := t1
    have t2 : DataW.trod enc Tryz.prog w base spare held n1 68 (([v0, v1, v2, v3, v4, v5, v6, v7, v8, v9, v10, v11, v12, v13, v14, v15].drop 2).take (Tryz.prog.cellsOf 68)) = some y2 := hf 2 _ rfl
    rw [cc1] at t2
    have t2 : DataW.trod enc Tryz.prog w base spare held n1 68 [v2, v3, v4, v5, v6, v7, v8, v9, v10, v11] = some y2 := t2
    have t3 : DataW.trod enc Tryz.prog w base spare held n1 24 (([v0, v1, v2, v3, v4, v5, v6, v7, v8, v9, v10, v11, v12, v13, v14, v15].drop 12).take (Tryz.prog.cellsOf 24)) = some y3 := hf 3 _ rfl
    rw [cc2] at t3
    have t3 : DataW.trod enc Tryz.prog w base spare held n1 24 [v12, v13, v14, v15] = some y3 := t3
    obtain ⟨q0, rfl, b0⟩ := Cn.trod_int1 Tryz.underlying3 (x := y0) t0
    obtain ⟨q1, rfl, b1⟩ := Cn.trod_int1 Tryz.underlying3 (x := y1) t1
    obtain ⟨q2, hq2, b2⟩ := trodL (z := y2) rfl t2
    have hq2 : [v2, v3, v4, v5, v6, v7, v8, v9, v10, v11] = q2.cells := hq2
    simp only [Cl.cells, List.cons.injEq, and_true] at hq2
    obtain ⟨rfl, rfl, rfl, rfl, rfl, rfl, rfl, rfl, rfl, rfl⟩ := hq2
    obtain ⟨q3, hq3, b3⟩ := trodC (z := y3) rfl t3
    have hq3 : [v12, v13, v14, v15] = [.int .i64 q3.f, .int .i64 q3.w, .int .i64 q3.l, .int .i64 q3.x] := hq3
    simp only [List.cons.injEq, and_true] at hq3
    obtain ⟨rfl, rfl, rfl, rfl⟩ := hq3
    exact ⟨⟨q0, q1, q2, q3⟩, rfl, b0, b1, b2.1, b2.2.1, b2.2.2.1, b2.2.2.2.1, b2.2.2.2.2, b3⟩
set_option maxRecDepth 100000 in
theorem trodG {HH : Type} {enc : TypeId × Value → HH} {w : World} {base : Nat} {spare : Nat → Bool} {held : Bool} {n : Nat} {cs : List Value} {z : DataW HH × List MemPlace} (hlen : cs.length = 16) (ht : DataW.trod enc Tryz.prog w base spare held n 28 cs = some z) : ∃ x : Mr, cs = Row.cells x ∧ FlAt w x ∧ RF x.1 ∧ ∃ n1 z1, DataW.trod enc Tryz.prog w base spare held n1 26 [.slice x.2.ia x.2.n x.2.ic] = some z1 := by
  obtain ⟨ys, n1, _, _, _, hyl, hf⟩ := DataW.trod_struct Tryz.underlying28 ht
  have cc0 : Tryz.prog.cellsOf 3 = 1 := by kernel_rfl
  have cc1 : Tryz.prog.cellsOf 4 = 1 := by kernel_rfl
  have cc2 : Tryz.prog.cellsOf 22 = 1 := by kernel_rfl
  have cc3 : Tryz.prog.cellsOf 24 = 4 := by kernel_rfl
  have cc4 : Tryz.prog.cellsOf 25 = 1 := by kernel_rfl
  have cc5 : Tryz.prog.cellsOf 26 = 1 := by kernel_rfl
  match cs, hlen, ys, hyl with
  | [v0, v1, v2, v3, v4, v5, v6, v7, v8, v9, v10, v11, v12, v13, v14, v15], _, [y0, y1, y2, y3, y4, y5, y6, y7, y8, y9, y10, y11, y12], _ =>
    have t0 : DataW.trod enc Tryz.prog w base spare held n1 3 (([v0, v1, v2, v3, v4, v5, v6, v7, v8, v9, v10, v11, v12, v13, v14, v15].drop 0).take (Tryz.prog.cellsOf 3)) = some y0 := hf 0 _ rfl
    rw [cc0] at t0
    have t0 : DataW.trod enc Tryz.prog w base spare held n1 3 [v0] = some y0 := t0
    have t1 : DataW.trod enc Tryz.prog w base spare held n1 3 (([v0, v1, v2, v3, v4, v5, v6, v7, v8, v9, v10, v11, v12, v13, v14, v15].drop 1).take (Tryz.prog.cellsOf 3)) = some y1 := hf 1 _ rfl
    rw [cc0] at t1
    have t1 : DataW.trod enc Tryz.prog w base spare held n1 3 [v1] = some y1 := t1
    have t2 : DataW.trod enc Tryz.prog w base spare held n1 3 (([v0, v1, v2, v3, v4, v5, v6, v7, v8, v9, v10, v11, v12, v13, v14, v15].drop 2).take (Tryz.prog.cellsOf 3)) = some y2 := hf 2 _ rfl
    rw [cc0] at t2
    have t2 : DataW.trod enc Tryz.prog w base spare held n1 3 [v2] = some y2 := t2
    have t3 : DataW.trod enc Tryz.prog w base spare held n1 3 (([v0, v1, v2, v3, v4, v5, v6, v7, v8, v9, v10, v11, v12, v13, v14, v15].drop 3).take (Tryz.prog.cellsOf 3)) = some y3 := hf 3 _ rfl
    rw [cc0] at t3
    have t3 : DataW.trod enc Tryz.prog w base spare held n1 3 [v3] = some y3 := t3
    have t4 : DataW.trod enc Tryz.prog w base spare held n1 3 (([v0, v1, v2, v3, v4, v5, v6, v7, v8, v9, v10, v11, v12, v13, v14, v15].drop 4).take (Tryz.prog.cellsOf 3)) = some y4 := hf 4 _ rfl
    rw [cc0] at t4
    have t4 : DataW.trod enc Tryz.prog w base spare held n1 3 [v4] = some y4 := t4
    have t5 : DataW.trod enc Tryz.prog w base spare held n1 3 (([v0, v1, v2, v3, v4, v5, v6, v7, v8, v9, v10, v11, v12, v13, v14, v15].drop 5).take (Tryz.prog.cellsOf 3)) = some y5 := hf 5 _ rfl
    rw [cc0] at t5
    have t5 : DataW.trod enc Tryz.prog w base spare held n1 3 [v5] = some y5 := t5
    have t6 : DataW.trod enc Tryz.prog w base spare held n1 3 (([v0, v1, v2, v3, v4, v5, v6, v7, v8, v9, v10, v11, v12, v13, v14, v15].drop 6).take (Tryz.prog.cellsOf 3)) = some y6 := hf 6 _ rfl
    rw [cc0] at t6
    have t6 : DataW.trod enc Tryz.prog w base spare held n1 3 [v6] = some y6 := t6
    have t7 : DataW.trod enc Tryz.prog w base spare held n1 3 (([v0, v1, v2, v3, v4, v5, v6, v7, v8, v9, v10, v11, v12, v13, v14, v15].drop 7).take (Tryz.prog.cellsOf 3)) = some y7 := hf 7 _ rfl
    rw [cc0] at t7
    have t7 : DataW.trod enc Tryz.prog w base spare held n1 3 [v7] = some y7 := t7
    have t8 : DataW.trod enc Tryz.prog w base spare held n1 4 (([v0, v1, v2, v3, v4, v5, v6, v7, v8, v9, v10, v11, v12, v13, v14, v15].drop 8).take (Tryz.prog.cellsOf 4)) = some y8 := hf 8 _ rfl
    rw [cc1] at t8
    have t8 : DataW.trod enc Tryz.prog w base spare held n1 4 [v8] = some y8 := t8
    have t9 : DataW.trod enc Tryz.prog w base spare held n1 22 (([v0, v1, v2, v3, v4, v5, v6, v7, v8, v9, v10, v11, v12, v13, v14, v15].drop 9).take (Tryz.prog.cellsOf 22)) = some y9 := hf 9 _ rfl
    rw [cc2] at t9
    have t9 : DataW.trod enc Tryz.prog w base spare held n1 22 [v9] = some y9 := t9
    have t10 : DataW.trod enc Tryz.prog w base spare held n1 24 (([v0, v1, v2, v3, v4, v5, v6, v7, v8, v9, v10, v11, v12, v13, v14, v15].drop 10).take (Tryz.prog.cellsOf 24)) = some y10 := hf 10 _ rfl
    rw [cc3] at t10
    have t10 : DataW.trod enc Tryz.prog w base spare held n1 24 [v10, v11, v12, v13] = some y10 := t10
    have t11 : DataW.trod enc Tryz.prog w base spare held n1 25 (([v0, v1, v2, v3, v4, v5, v6, v7, v8, v9, v10, v11, v12, v13, v14, v15].drop 14).take (Tryz.prog.cellsOf 25)) = some y11 := hf 11 _ rfl
    rw [cc4] at t11
    have t11 : DataW.trod enc Tryz.prog w base spare held n1 25 [v14] = some y11 := t11
    have t12 : DataW.trod enc Tryz.prog w base spare held n1 26 (([v0, v1, v2, v3, v4, v5, v6, v7, v8, v9, v10, v11, v12, v13, v14, v15].drop 15).take (Tryz.prog.cellsOf 26)) = some y12 := hf 12 _ rfl
    rw [cc5] at t12
    have t12 : DataW.trod enc Tryz.prog w base spare held n1 26 [v15] = some y12 := t12
    obtain ⟨q0, rfl, b0⟩ := Cn.trod_int1 Tryz.underlying3 (x := y0) t0
    obtain ⟨q1, rfl, b1⟩ := Cn.trod_int1 Tryz.underlying3 (x := y1) t1
    obtain ⟨q2, rfl, b2⟩ := Cn.trod_int1 Tryz.underlying3 (x := y2) t2
    obtain ⟨q3, rfl, b3⟩ := Cn.trod_int1 Tryz.underlying3 (x := y3) t3
    obtain ⟨q4, rfl, b4⟩ := Cn.trod_int1 Tryz.underlying3 (x := y4) t4
    obtain ⟨q5, rfl, b5⟩ := Cn.trod_int1 Tryz.underlying3 (x := y5) t5
    obtain ⟨q6, rfl, b6⟩ := Cn.trod_int1 Tryz.underlying3 (x := y6) t6
    obtain ⟨q7, rfl, b7⟩ := Cn.trod_int1 Tryz.underlying3 (x := y7) t7
    obtain ⟨q8, hq8, _⟩ := DataW.trod_bool Tryz.underlying4 t8
    obtain rfl : v8 = .bool q8 := by simpa using hq8
    obtain ⟨la, ln, lc, rfl⟩ := slice_of Tryz.underlying22 t9
    obtain ⟨E1, hll, hL, hE⟩ := list_in (α := E) (z := y9) Tryz.underlying22 (by kernel_rfl) (Q := RE) (fun n cs z hl ht => trodE hl ht) t9
    subst hll
    obtain ⟨q10, hq10, b10⟩ := trodC (z := y10) rfl t10
    have hq10 : [v10, v11, v12, v13] = [.int .i64 q10.f, .int .i64 q10.w, .int .i64 q10.l, .int .i64 q10.x] := hq10
    simp only [List.cons.injEq, and_true] at hq10
    obtain ⟨rfl, rfl, rfl, rfl⟩ := hq10
    obtain ⟨sa, sn, sc, rfl⟩ := slice_of Tryz.underlying25 t11
    obtain ⟨sb, s, hsl, hS, hS8⟩ := Pk.in_bytes (a := sa) (len := sn) (cap := sc) (d := y11.1) (ps := y11.2) Tryz.underlying25 Tryz.underlying5 (by kernel_rfl) ⟨n1, t11⟩
    subst hsl
    obtain ⟨ia, im, ic, rfl⟩ := slice_of Tryz.underlying26 t12
    exact ⟨(⟨q0, q1, q2, q3, q4, q5, q6, q7, q8, E1, q10, s⟩, ⟨la, lc, sb, sa, sc, ia, im, ic⟩), rfl, ⟨hL, hS⟩, ⟨b0, b1, b2, b3, b4, b5, b6, b7, hE, b10, hS8⟩, n1, _, t12⟩
theorem trodMsg {HH : Type} {enc : TypeId × Value → HH} {w : World} {base : Nat} {spare : Nat → Bool} {held : Bool} (k : Nat) : ∀ (n : Nat) (cs : List Value) (z : DataW HH × List MemPlace), cs.length = 16 →
    DataW.trod enc Tryz.prog w base spare held n 28 cs = some z → ∃ x : Mr, cs = Row.cells x ∧ MsgD w k x := by
  induction k with
  | zero =>
    intro n cs z hl ht
    obtain ⟨x, e, h1, h2, _⟩ := trodG hl ht
    exact ⟨x, e, h1, h2⟩
  | succ k ih =>
    intro n cs z hl ht
    obtain ⟨x, e, h1, h2, n1, z1, h3⟩ := trodG hl ht
    obtain ⟨L, e1, e2, e3⟩ := list_in (α := Mr) Tryz.underlying26 (by kernel_rfl) (Q := MsgD w k) (fun n cs z hl ht => ih n cs z hl ht) h3
    exact ⟨x, e, h1, h2, L, e1, e2, e3⟩
set_option maxRecDepth 100000 in
theorem in_entry {HH : Type} {enc : TypeId × Value → HH} {w w0 : World} {r : Reach} {b0 base : Nat} {spare : Nat → Bool} {held : Bool} {x : Value} {d : DataW HH} {ps : List MemPlace}
    (hv : Value.okWide Tryz.prog w0 r b0 70 x) (h : DataW.Trod enc Tryz.prog w base spare held 70 x d ps) : ∃ y : E, x = y.agg ∧ RE y := by
  obtain ⟨cs, rfl, hsz⟩ := okWide_struct Tryz.underlying70 hv
  obtain ⟨fuel, hf⟩ := h
  have hC : Tryz.prog.cellsOf 70 = 16 := by kernel_rfl
  rw [hC] at hsz
  obtain ⟨l⟩ := cs
  obtain ⟨y, hl, hr⟩ := trodE hsz hf
  have hl : l = y.cells := hl
  subst hl
  exact ⟨y, rfl, hr⟩
set_option maxRecDepth 100000 in
theorem in_msg {HH : Type} {enc : TypeId × Value → HH} {w w0 : World} {r : Reach} {b0 base : Nat} {spare : Nat → Bool} {held : Bool} {x : Value} {d : DataW HH} {ps : List MemPlace}
    (hv : Value.okWide Tryz.prog w0 r b0 28 x) (h : DataW.Trod enc Tryz.prog w base spare held 28 x d ps) : ∃ y : Mr, x = y.val ∧ MsgD w 2 y := by
  obtain ⟨cs, rfl, hsz⟩ := okWide_struct Tryz.underlying28 hv
  obtain ⟨fuel, hf⟩ := h
  have hC : Tryz.prog.cellsOf 28 = 16 := by kernel_rfl
  rw [hC] at hsz
  obtain ⟨l⟩ := cs
  obtain ⟨y, hl, hr⟩ := trodMsg 2 fuel l _ hsz hf
  have hl : l = y.cells := hl
  subst hl
  exact ⟨y, rfl, hr⟩
theorem RV.fit {v : V} (h : RV v) (ht : v.text.size ≤ 2000) : FitV v := ⟨h.kind, h.num, by omega⟩
theorem heavy_text {c : Cm} (h : c.heavy = false) : c.key.size ≤ 2000 ∧ c.old.text.size ≤ 2000 ∧ c.val.text.size ≤ 2000 := by
  unfold Cm.heavy at h
  simp only [Bool.or_eq_false_iff, decide_eq_false_iff_not] at h
  omega
theorem RE.fit {x : E} (h : RE x) (hh : x.call.cmd.heavy = false) : FitE x := by
  obtain ⟨h1, h2, h3⟩ := heavy_text hh
  exact ⟨h.term, h.kind, ⟨h.client, h.seq, h.ck, by omega, h.old.fit h2, h.val.fit h3⟩, h.conf⟩
theorem light {L : List E} (h : heavyL L = false) : L.length ≤ 200 ∧ ∀ x ∈ L, x.call.cmd.heavy = false := by
  unfold heavyL at h
  rw [Bool.or_eq_false_iff, decide_eq_false_iff_not] at h
  refine ⟨by omega, fun x hx => ?_⟩
  cases hq : x.call.cmd.heavy
  · rfl
  · have : L.any (fun x => x.call.cmd.heavy) = true := List.any_eq_true.2 ⟨x, hx, hq⟩
    rw [h.2] at this; cases this
theorem RF.fit {f : Fl} (r : RF f) (hl : heavyL f.ents = false) (hs : f.snap.length ≤ 32768) : FitR f := by
  obtain ⟨h1, h2⟩ := light hl
  exact ⟨r.kind, r.from_, r.to, r.term, r.index, r.logt, r.commit, r.round, fun x hx => (r.ents x hx).fit (h2 x hx), by omega, r.conf, r.b8, by omega⟩
end Go.Proofs.YtaengjgmchpabaaGreat.Wr
end
