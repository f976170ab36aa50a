/- KvParts' walk. -/
import Derived.Test.YtilebpenfdgdmaaGrown6
import Derived.Test.YtilebpenfdgdmaaRefCmd6
import Derived.Test.YtilebpenfdgdmaaKeep6
import Derived.Test.YtilebpenfdgdmaaParts6
import Derived.Test.YtilebpenfdgdmaaSpoil6
namespace Go.Proofs.Ytilebpenfdgdmaa.Kv
open Go Go.RowKit Vl Nm Mem
attribute [local go_sem] run_bits run_frombits run_store_float

/-- the two boxes of commands -/
structure Ck2 (w0 w : World) (a b : Cm) : Prop where
  b0 : w.heap[w0.heap.size]? = some a.obj
  b1 : w.heap[w0.heap.size + 1]? = some b.obj
  beh : Beh w0 w
theorem Ck2.start (w : World) (a b : Cm) : Ck2 w ((w.alloc a.obj).alloc b.obj) a b := ⟨old_alloc _ (alloc_here _ rfl), alloc_here _ (by simp), ((Beh.start w).alloc _).alloc _⟩
theorem Ck2.on {w0 w w' : World} {a b : Cm} (h : Ck2 w0 w a b) (hb : Below w.heap.size w w') : Ck2 w0 w' a b := ⟨box_on h.b0 hb, box_on h.b1 hb, h.beh.on hb⟩
theorem sameR_refl {c d : Int} {u v : V} (h : c = d) (k : u = v) : sameR c d u v = true := by subst h k; simp [sameR, V.same_refl]
theorem samePs_eq {L M : List Pr} (h : L = M) : samePs L M = true := by subst h; exact samePs_refl _
set_option maxHeartbeats 3200000 in
theorem KvParts_any (a : Option Addr) (cap : Nat) (C : List Cm) (x y : Cm) (w : World) (h : CmdsAt w a C) (hx : x.ok) (hy : y.ok) :
    Calls Try.prog 10 #[.slice a C.length cap, x.agg, y.agg] w fun e w' => e = .returned (.bool true) ∧ Beh w w' := by
  have HI := Lib.hid h
  have HX := Lib.hid hx
  have HY := Lib.hid hy
  have HK := Lib.hid (Ck2.start w x y)
  have HKT := Lib.hid (key_test x.key y.key)
  have HPS : Hid (∀ G : List Pr, rightP G = true → G.length ≤ 30 → x.key ≠ y.key → _) := fun G hG hl hne => parts_same hG hl hne
  have HDX : Hid (∀ (M : List Pr) ma mc wq, PairsAt wq ma mc M → M.length ≤ 32 → Fits M → Calls Try.prog 22 #[.slice ma M.length mc, x.agg] wq (DoTold wq (doing M x))) := fun M ma mc wq hM hl hf => Do_told ma mc M x wq hM (by omega) hf HX.out.2
  have HDY : Hid (∀ (M : List Pr) ma mc wq, PairsAt wq ma mc M → M.length ≤ 32 → Fits M → Calls Try.prog 22 #[.slice ma M.length mc, y.agg] wq (DoTold wq (doing M y))) := fun M ma mc wq hM hl hf => Do_told ma mc M y wq hM (by omega) hf HY.out.2
  have HRX : Hid (∀ (M : List Pr), rightP M = true → rightP (doing M x).L = true ∧ (Fits M → Fits (doing M x).L)) := fun M hM => ⟨doing_right hM x, fun hf => hf.doing HX.out.2⟩
  have HRY : Hid (∀ (M : List Pr), rightP M = true → rightP (doing M y).L = true ∧ (Fits M → Fits (doing M y).L)) := fun M hM => ⟨doing_right hM y, fun hf => hf.doing HY.out.2⟩
  clear h hx hy
  obtain ⟨hvx, hhx⟩ : ∃ v, x.heavy = v := ⟨_, rfl⟩
  obtain ⟨hvy, hhy⟩ : ∃ v, y.heavy = v := ⟨_, rfl⟩
  by_cases hl : C.length ≤ 1000
  case neg =>
    have d1 : decide ((1000 : Int) < (C.length : Int)) = true := decide_eq_true (by omega)
    obtain ⟨k, key, ⟨ok, on, os⟩, ⟨vk, vn, vs⟩⟩ := x
    obtain ⟨l, ley, ⟨pk, pn, ps⟩, ⟨qk, qn, qs⟩⟩ := y
    go_enter Try.func10, Try.ntmps10
    go_wp2_with fail
    go_ret
    exact ⟨rfl, HK.out.beh⟩
  have d1 : decide ((1000 : Int) < (C.length : Int)) = false := decide_eq_false (by omega)
  cases e : (x.key.toList == y.key.toList)
  case true =>
    cases hvx <;> cases hvy
    all_goals
      obtain ⟨k, key, ⟨ok, on, os⟩, ⟨vk, vn, vs⟩⟩ := x
      obtain ⟨l, ley, ⟨pk, pn, ps⟩, ⟨qk, qn, qs⟩⟩ := y
      dsimp only at e
      go_enter Try.func10, Try.ntmps10
      go_wp2_with (first | (go_at_call 12; refine Calls.mono (heavyCmd_any ⟨_, _, ⟨_, _, _⟩, ⟨_, _, _⟩⟩ _) ?_; rintro e w' ⟨rfl, hb⟩; (have HK := Lib.hid (HK.out.on hb)); clear hb; (obtain ⟨c0, c1, c2, c3, c4, c5, c6, c7⟩ := cells8 HK.out.b0); (obtain ⟨e0, e1, e2, e3, e4, e5, e6, e7⟩ := cells8 HK.out.b1); dsimp only at c0 c1 c2 c3 c4 c5 c6 c7 e0 e1 e2 e3 e4 e5 e6 e7))
      go_ret
      exact ⟨rfl, HK.out.beh⟩
  have HNE : Hid (x.key ≠ y.key) := by
    show x.key ≠ y.key
    have := HKT.out
    rw [e] at this
    exact of_decide_eq_false this.symm
  cases hvx
  case true =>
    obtain ⟨k, key, ⟨ok, on, os⟩, ⟨vk, vn, vs⟩⟩ := x
    obtain ⟨l, ley, ⟨pk, pn, ps⟩, ⟨qk, qn, qs⟩⟩ := y
    dsimp only at e
    go_enter Try.func10, Try.ntmps10
    go_wp2_with (first | (go_at_call 12; refine Calls.mono (heavyCmd_any ⟨_, _, ⟨_, _, _⟩, ⟨_, _, _⟩⟩ _) ?_; rintro e w' ⟨rfl, hb⟩; (have HK := Lib.hid (HK.out.on hb)); clear hb; (obtain ⟨c0, c1, c2, c3, c4, c5, c6, c7⟩ := cells8 HK.out.b0); (obtain ⟨e0, e1, e2, e3, e4, e5, e6, e7⟩ := cells8 HK.out.b1); dsimp only at c0 c1 c2 c3 c4 c5 c6 c7 e0 e1 e2 e3 e4 e5 e6 e7))
    go_ret
    exact ⟨rfl, HK.out.beh⟩
  cases hvy
  case true =>
    obtain ⟨k, key, ⟨ok, on, os⟩, ⟨vk, vn, vs⟩⟩ := x
    obtain ⟨l, ley, ⟨pk, pn, ps⟩, ⟨qk, qn, qs⟩⟩ := y
    dsimp only at e
    go_enter Try.func10, Try.ntmps10
    go_wp2_with (first | (go_at_call 12; refine Calls.mono (heavyCmd_any ⟨_, _, ⟨_, _, _⟩, ⟨_, _, _⟩⟩ _) ?_; rintro e w' ⟨rfl, hb⟩; (have HK := Lib.hid (HK.out.on hb)); clear hb; (obtain ⟨c0, c1, c2, c3, c4, c5, c6, c7⟩ := cells8 HK.out.b0); (obtain ⟨e0, e1, e2, e3, e4, e5, e6, e7⟩ := cells8 HK.out.b1); dsimp only at c0 c1 c2 c3 c4 c5 c6 c7 e0 e1 e2 e3 e4 e5 e6 e7))
    go_ret
    exact ⟨rfl, HK.out.beh⟩
  have HPS2 := Lib.hid (fun G hG hl => HPS.out G hG hl HNE.out)
  clear HPS HNE HKT
  obtain ⟨k, key, ⟨ok, on, os⟩, ⟨vk, vn, vs⟩⟩ := x
  obtain ⟨l, ley, ⟨pk, pn, ps⟩, ⟨qk, qn, qs⟩⟩ := y
  dsimp only at e
  go_enter Try.func10, Try.ntmps10
  go_wp2_with (first | (go_at_call 12; refine Calls.mono (heavyCmd_any ⟨_, _, ⟨_, _, _⟩, ⟨_, _, _⟩⟩ _) ?_; rintro e w' ⟨rfl, hb⟩; (have HK := Lib.hid (HK.out.on hb)); clear hb; (obtain ⟨c0, c1, c2, c3, c4, c5, c6, c7⟩ := cells8 HK.out.b0); (obtain ⟨e0, e1, e2, e3, e4, e5, e6, e7⟩ := cells8 HK.out.b1); dsimp only at c0 c1 c2 c3 c4 c5 c6 c7 e0 e1 e2 e3 e4 e5 e6 e7))
  refine Calls.mono (grown_any a cap C _ (HI.out.below HK.out.beh) hl) ?_
  rintro e w1 ⟨G, ga, gc, rfl, hg, hb⟩
  have HG := Lib.hid hg
  have HK1 := Lib.hid (HK.out.on hb)
  have HLG := HG.out.short
  clear hb hg
  by_cases hbig : 30 < G.length
  · have d30 : decide ((30 : Int) < (G.length : Int)) = true := decide_eq_true (by omega)
    go_wp2_with fail
    refine Calls.mono (wakes_any _) ?_
    rintro e w2 ⟨rfl, hb⟩
    have HB := Lib.hid (HK1.out.beh.trans hb)
    clear hb
    go_wp2_with fail
    go_ret
    exact ⟨rfl, HB.out⟩
  have d30 : decide ((30 : Int) < (G.length : Int)) = false := decide_eq_false (by omega)
  obtain ⟨hp1, ⟨hp2, hp3⟩, hp4, hp5⟩ := HPS2.out G HG.out.right (by omega)
  have HP1 := Lib.hid hp1
  have HP2 := Lib.hid hp2
  have HP3 := Lib.hid hp3
  have HP4 := Lib.hid hp4
  have HP5 := Lib.hid hp5
  clear hp1 hp2 hp3 hp4 hp5 HPS2
  have HR1 := Lib.hid (HRX.out G HG.out.right)
  have HR2 := Lib.hid (HRY.out _ HR1.out.1)
  have HQ1 := Lib.hid (HRY.out G HG.out.right)
  have HQ2 := Lib.hid (HRX.out _ HQ1.out.1)
  have HD1 : Hid (∀ wq, Beh w1 wq → _) := fun wq hq => HDX.out G ga gc wq (HG.out.at_.below hq) HG.out.short HG.out.fits
  have HE1 : Hid (∀ wq, Beh w1 wq → _) := fun wq hq => HDY.out G ga gc wq (HG.out.at_.below hq) HG.out.short HG.out.fits
  have HDY2 : Hid (∀ ma mc wq, PairsAt wq ma mc (doing G ⟨k, key, ⟨ok, on, os⟩, ⟨vk, vn, vs⟩⟩).L → _) := fun ma mc wq hM => HDY.out (doing G ⟨k, key, ⟨ok, on, os⟩, ⟨vk, vn, vs⟩⟩).L ma mc wq hM (length_right HR1.out.1) (HR1.out.2 HG.out.fits)
  have HDX2 : Hid (∀ ma mc wq, PairsAt wq ma mc (doing G ⟨l, ley, ⟨pk, pn, ps⟩, ⟨qk, qn, qs⟩⟩).L → _) := fun ma mc wq hM => HDX.out (doing G ⟨l, ley, ⟨pk, pn, ps⟩, ⟨qk, qn, qs⟩⟩).L ma mc wq hM (length_right HQ1.out.1) (HQ1.out.2 HG.out.fits)
  have HL2 := Lib.hid (length_right HR2.out.1)
  have HM2 := Lib.hid (length_right HQ2.out.1)
  clear HDX HDY HRX HRY HR1 HR2 HQ1 HQ2
  generalize doing (doing G ⟨k, key, ⟨ok, on, os⟩, ⟨vk, vn, vs⟩⟩).L ⟨l, ley, ⟨pk, pn, ps⟩, ⟨qk, qn, qs⟩⟩ = D2 at *
  generalize doing (doing G ⟨l, ley, ⟨pk, pn, ps⟩, ⟨qk, qn, qs⟩⟩).L ⟨k, key, ⟨ok, on, os⟩, ⟨vk, vn, vs⟩⟩ = E2 at *
  generalize doing G ⟨k, key, ⟨ok, on, os⟩, ⟨vk, vn, vs⟩⟩ = D1 at *
  generalize doing G ⟨l, ley, ⟨pk, pn, ps⟩, ⟨qk, qn, qs⟩⟩ = E1 at *
  have HCC : Hid (∀ wq, Beh w1 wq → Ck2 w wq ⟨k, key, ⟨ok, on, os⟩, ⟨vk, vn, vs⟩⟩ ⟨l, ley, ⟨pk, pn, ps⟩, ⟨qk, qn, qs⟩⟩) := fun wq hq => HK1.out.on hq
  have HB := Lib.hid (Beh.start w1)
  obtain ⟨c0, c1, c2, c3, c4, c5, c6, c7⟩ := cells8 (HCC.out _ HB.out).b0
  obtain ⟨e0, e1, e2, e3, e4, e5, e6, e7⟩ := cells8 (HCC.out _ HB.out).b1
  dsimp only at c0 c1 c2 c3 c4 c5 c6 c7 e0 e1 e2 e3 e4 e5 e6 e7
  go_wp2_with fail
  refine Calls.mono (HD1.out _ (by repeat' (first | with_reducible exact HB.out | with_reducible refine Beh.alloc ?_ _ | with_reducible refine Beh.drew ?_))) ?_
  rintro e w2 ⟨bD1, aD1, cD1, rfl, hm⟩
  have PD1 := Lib.hid hm.pairs
  have HB := Lib.hid (Beh.trans (w0 := w1) (by repeat' (first | with_reducible exact HB.out | with_reducible refine Beh.alloc ?_ _ | with_reducible refine Beh.drew ?_)) hm.beh)
  clear hm
  clear c0 e0 c1 e1 c2 e2 c3 e3 c4 e4 c5 e5 c6 e6 c7 e7
  obtain ⟨c0, c1, c2, c3, c4, c5, c6, c7⟩ := cells8 (HCC.out _ HB.out).b0
  obtain ⟨e0, e1, e2, e3, e4, e5, e6, e7⟩ := cells8 (HCC.out _ HB.out).b1
  dsimp only at c0 c1 c2 c3 c4 c5 c6 c7 e0 e1 e2 e3 e4 e5 e6 e7
  have c0a := fun o => cell_on ((Beh.start _).alloc o) c0
  have c1a := fun o => cell_on ((Beh.start _).alloc o) c1
  have c2a := fun o => cell_on ((Beh.start _).alloc o) c2
  have c3a := fun o => cell_on ((Beh.start _).alloc o) c3
  have c4a := fun o => cell_on ((Beh.start _).alloc o) c4
  have c5a := fun o => cell_on ((Beh.start _).alloc o) c5
  have c6a := fun o => cell_on ((Beh.start _).alloc o) c6
  have c7a := fun o => cell_on ((Beh.start _).alloc o) c7
  have e0a := fun o => cell_on ((Beh.start _).alloc o) e0
  have e1a := fun o => cell_on ((Beh.start _).alloc o) e1
  have e2a := fun o => cell_on ((Beh.start _).alloc o) e2
  have e3a := fun o => cell_on ((Beh.start _).alloc o) e3
  have e4a := fun o => cell_on ((Beh.start _).alloc o) e4
  have e5a := fun o => cell_on ((Beh.start _).alloc o) e5
  have e6a := fun o => cell_on ((Beh.start _).alloc o) e6
  have e7a := fun o => cell_on ((Beh.start _).alloc o) e7
  go_wp2_with fail
  refine Calls.mono (HDY2.out _ _ _ (by exact PD1.out.below (show Beh w2 _ from by repeat' (first | with_reducible exact Beh.start _ | with_reducible refine Beh.alloc ?_ _)))) ?_
  rintro e w3 ⟨bD2, aD2, cD2, rfl, hm⟩
  have PD2 := Lib.hid hm.pairs
  have PD1 := Lib.hid (PD1.out.below (show Beh w2 w3 from Beh.trans (w0 := w2) (by repeat' (first | with_reducible exact Beh.start _ | with_reducible refine Beh.alloc ?_ _)) hm.beh))
  have HD1 := Lib.hid (box_on (v := (.cells #[.int .i64 D1.code, .int .i64 D1.told.kind, .float .f64 D1.told.num, .string D1.told.text] 37)) (alloc_here (w := w2) (.cells #[.int .i64 D1.code, .int .i64 D1.told.kind, .float .f64 D1.told.num, .string D1.told.text] 37) rfl) hm.beh)
  have HB := Lib.hid (Beh.trans (w0 := w1) (by repeat' (first | with_reducible exact HB.out | with_reducible refine Beh.alloc ?_ _ | with_reducible refine Beh.drew ?_)) hm.beh)
  clear hm
  clear c0a e0a c1a e1a c2a e2a c3a e3a c4a e4a c5a e5a c6a e6a c7a e7a
  clear c0 e0 c1 e1 c2 e2 c3 e3 c4 e4 c5 e5 c6 e6 c7 e7
  obtain ⟨c0, c1, c2, c3, c4, c5, c6, c7⟩ := cells8 (HCC.out _ HB.out).b0
  obtain ⟨e0, e1, e2, e3, e4, e5, e6, e7⟩ := cells8 (HCC.out _ HB.out).b1
  dsimp only at c0 c1 c2 c3 c4 c5 c6 c7 e0 e1 e2 e3 e4 e5 e6 e7
  have c0a := fun o => cell_on ((Beh.start _).alloc o) c0
  have c1a := fun o => cell_on ((Beh.start _).alloc o) c1
  have c2a := fun o => cell_on ((Beh.start _).alloc o) c2
  have c3a := fun o => cell_on ((Beh.start _).alloc o) c3
  have c4a := fun o => cell_on ((Beh.start _).alloc o) c4
  have c5a := fun o => cell_on ((Beh.start _).alloc o) c5
  have c6a := fun o => cell_on ((Beh.start _).alloc o) c6
  have c7a := fun o => cell_on ((Beh.start _).alloc o) c7
  have e0a := fun o => cell_on ((Beh.start _).alloc o) e0
  have e1a := fun o => cell_on ((Beh.start _).alloc o) e1
  have e2a := fun o => cell_on ((Beh.start _).alloc o) e2
  have e3a := fun o => cell_on ((Beh.start _).alloc o) e3
  have e4a := fun o => cell_on ((Beh.start _).alloc o) e4
  have e5a := fun o => cell_on ((Beh.start _).alloc o) e5
  have e6a := fun o => cell_on ((Beh.start _).alloc o) e6
  have e7a := fun o => cell_on ((Beh.start _).alloc o) e7
  go_wp2_with fail
  refine Calls.mono (HE1.out _ (by repeat' (first | with_reducible exact HB.out | with_reducible refine Beh.alloc ?_ _ | with_reducible refine Beh.drew ?_))) ?_
  rintro e w4 ⟨bE1, aE1, cE1, rfl, hm⟩
  have PE1 := Lib.hid hm.pairs
  have PD1 := Lib.hid (PD1.out.below (show Beh w3 w4 from Beh.trans (w0 := w3) (by repeat' (first | with_reducible exact Beh.start _ | with_reducible refine Beh.alloc ?_ _)) hm.beh))
  have PD2 := Lib.hid (PD2.out.below (show Beh w3 w4 from Beh.trans (w0 := w3) (by repeat' (first | with_reducible exact Beh.start _ | with_reducible refine Beh.alloc ?_ _)) hm.beh))
  have HD1 := Lib.hid (box_on (v := (.cells #[.int .i64 D1.code, .int .i64 D1.told.kind, .float .f64 D1.told.num, .string D1.told.text] 37)) (by first | exact HD1.out | exact old_alloc _ HD1.out) hm.beh)
  have HD2 := Lib.hid (box_on (v := (.cells #[.int .i64 D2.code, .int .i64 D2.told.kind, .float .f64 D2.told.num, .string D2.told.text] 37)) (alloc_here (w := w3) (.cells #[.int .i64 D2.code, .int .i64 D2.told.kind, .float .f64 D2.told.num, .string D2.told.text] 37) rfl) hm.beh)
  have HB := Lib.hid (Beh.trans (w0 := w1) (by repeat' (first | with_reducible exact HB.out | with_reducible refine Beh.alloc ?_ _ | with_reducible refine Beh.drew ?_)) hm.beh)
  clear hm
  clear c0a e0a c1a e1a c2a e2a c3a e3a c4a e4a c5a e5a c6a e6a c7a e7a
  clear c0 e0 c1 e1 c2 e2 c3 e3 c4 e4 c5 e5 c6 e6 c7 e7
  obtain ⟨c0, c1, c2, c3, c4, c5, c6, c7⟩ := cells8 (HCC.out _ HB.out).b0
  obtain ⟨e0, e1, e2, e3, e4, e5, e6, e7⟩ := cells8 (HCC.out _ HB.out).b1
  dsimp only at c0 c1 c2 c3 c4 c5 c6 c7 e0 e1 e2 e3 e4 e5 e6 e7
  have c0a := fun o => cell_on ((Beh.start _).alloc o) c0
  have c1a := fun o => cell_on ((Beh.start _).alloc o) c1
  have c2a := fun o => cell_on ((Beh.start _).alloc o) c2
  have c3a := fun o => cell_on ((Beh.start _).alloc o) c3
  have c4a := fun o => cell_on ((Beh.start _).alloc o) c4
  have c5a := fun o => cell_on ((Beh.start _).alloc o) c5
  have c6a := fun o => cell_on ((Beh.start _).alloc o) c6
  have c7a := fun o => cell_on ((Beh.start _).alloc o) c7
  have e0a := fun o => cell_on ((Beh.start _).alloc o) e0
  have e1a := fun o => cell_on ((Beh.start _).alloc o) e1
  have e2a := fun o => cell_on ((Beh.start _).alloc o) e2
  have e3a := fun o => cell_on ((Beh.start _).alloc o) e3
  have e4a := fun o => cell_on ((Beh.start _).alloc o) e4
  have e5a := fun o => cell_on ((Beh.start _).alloc o) e5
  have e6a := fun o => cell_on ((Beh.start _).alloc o) e6
  have e7a := fun o => cell_on ((Beh.start _).alloc o) e7
  go_wp2_with fail
  refine Calls.mono (HDX2.out _ _ _ (by exact PE1.out.below (show Beh w4 _ from by repeat' (first | with_reducible exact Beh.start _ | with_reducible refine Beh.alloc ?_ _)))) ?_
  rintro e w5 ⟨bE2, aE2, cE2, rfl, hm⟩
  have PE2 := Lib.hid hm.pairs
  have PD1 := Lib.hid (PD1.out.below (show Beh w4 w5 from Beh.trans (w0 := w4) (by repeat' (first | with_reducible exact Beh.start _ | with_reducible refine Beh.alloc ?_ _)) hm.beh))
  have PD2 := Lib.hid (PD2.out.below (show Beh w4 w5 from Beh.trans (w0 := w4) (by repeat' (first | with_reducible exact Beh.start _ | with_reducible refine Beh.alloc ?_ _)) hm.beh))
  have PE1 := Lib.hid (PE1.out.below (show Beh w4 w5 from Beh.trans (w0 := w4) (by repeat' (first | with_reducible exact Beh.start _ | with_reducible refine Beh.alloc ?_ _)) hm.beh))
  have HD1 := Lib.hid (box_on (v := (.cells #[.int .i64 D1.code, .int .i64 D1.told.kind, .float .f64 D1.told.num, .string D1.told.text] 37)) (by first | exact HD1.out | exact old_alloc _ HD1.out) hm.beh)
  have HD2 := Lib.hid (box_on (v := (.cells #[.int .i64 D2.code, .int .i64 D2.told.kind, .float .f64 D2.told.num, .string D2.told.text] 37)) (by first | exact HD2.out | exact old_alloc _ HD2.out) hm.beh)
  have HE1 := Lib.hid (box_on (v := (.cells #[.int .i64 E1.code, .int .i64 E1.told.kind, .float .f64 E1.told.num, .string E1.told.text] 37)) (alloc_here (w := w4) (.cells #[.int .i64 E1.code, .int .i64 E1.told.kind, .float .f64 E1.told.num, .string E1.told.text] 37) rfl) hm.beh)
  have HB := Lib.hid (Beh.trans (w0 := w1) (by repeat' (first | with_reducible exact HB.out | with_reducible refine Beh.alloc ?_ _ | with_reducible refine Beh.drew ?_)) hm.beh)
  clear hm
  clear c0a e0a c1a e1a c2a e2a c3a e3a c4a e4a c5a e5a c6a e6a c7a e7a
  clear c0 e0 c1 e1 c2 e2 c3 e3 c4 e4 c5 e5 c6 e6 c7 e7
  go_wp2_with fail
  refine Calls.mono (keepPairs_any _ _ D2.L _ _ E2.L _ (by exact PD2.out.alloc _) (by exact PE2.out.alloc _) (by have := HL2.out; omega)) ?_
  rintro e w6 ⟨rfl, hb⟩
  have q1 := samePs_eq HP1.out
  have q2 := sameR_refl HP2.out HP3.out
  have q3 := sameR_refl HP4.out HP5.out
  have HD1 := Lib.hid (box_on (v := (.cells #[.int .i64 D1.code, .int .i64 D1.told.kind, .float .f64 D1.told.num, .string D1.told.text] 37)) (old_alloc _ HD1.out) hb)
  have HD2 := Lib.hid (box_on (v := (.cells #[.int .i64 D2.code, .int .i64 D2.told.kind, .float .f64 D2.told.num, .string D2.told.text] 37)) (old_alloc _ HD2.out) hb)
  have HE1 := Lib.hid (box_on (v := (.cells #[.int .i64 E1.code, .int .i64 E1.told.kind, .float .f64 E1.told.num, .string E1.told.text] 37)) (old_alloc _ HE1.out) hb)
  have HE2 := Lib.hid (box_on (v := (.cells #[.int .i64 E2.code, .int .i64 E2.told.kind, .float .f64 E2.told.num, .string E2.told.text] 37)) (alloc_here (w := w5) (.cells #[.int .i64 E2.code, .int .i64 E2.told.kind, .float .f64 E2.told.num, .string E2.told.text] 37) rfl) hb)
  have HB6 := Lib.hid (HB.out.trans (((Beh.start w5).alloc _).trans hb))
  clear hb
  obtain ⟨x0, y0, z0, u0⟩ := cells4 HD1.out
  obtain ⟨x1, y1, z1, u1⟩ := cells4 HD2.out
  obtain ⟨x2, y2, z2, u2⟩ := cells4 HE1.out
  obtain ⟨x3, y3, z3, u3⟩ := cells4 HE2.out
  go_wp2_with fail
  refine Calls.mono (keepReply_any D1.code E2.code D1.told E2.told _) ?_
  rintro e w7 ⟨rfl, hb⟩
  have HD1 := Lib.hid (box_on HD1.out hb)
  have HD2 := Lib.hid (box_on HD2.out hb)
  have HE1 := Lib.hid (box_on HE1.out hb)
  have HE2 := Lib.hid (box_on HE2.out hb)
  have HB7 := Lib.hid (HB6.out.trans hb)
  clear hb
  obtain ⟨x0, y0, z0, u0⟩ := cells4 HD1.out
  obtain ⟨x1, y1, z1, u1⟩ := cells4 HD2.out
  obtain ⟨x2, y2, z2, u2⟩ := cells4 HE1.out
  obtain ⟨x3, y3, z3, u3⟩ := cells4 HE2.out
  go_wp2_with fail
  refine Calls.mono (keepReply_any D2.code E1.code D2.told E1.told _) ?_
  rintro e w8 ⟨rfl, hb⟩
  have HB8 := Lib.hid (HB7.out.trans hb)
  clear hb
  go_wp2_with fail
  refine Calls.mono (wakes_any _) ?_
  rintro e w9 ⟨rfl, hb⟩
  have HB9 := Lib.hid (HK1.out.beh.trans (HB8.out.trans hb))
  clear hb
  go_wp2_with fail
  go_ret
  exact ⟨rfl, HB9.out⟩
theorem KvParts_law (a : Option Addr) (len cap : Nat) (x y : Cm) (W : World) (h0 : ∃ C : List Cm, C.length = len ∧ CmdsAt W a C) (h1 : x.ok) (h2 : y.ok) :
    Calls Try.prog 10 #[.slice a len cap, x.agg, y.agg] W fun e w' => e = .returned (.bool true) ∧ Below W.heap.size W w' := by
  obtain ⟨C, rfl, hC⟩ := h0
  exact KvParts_any a cap C x y W hC h1 h2
end Go.Proofs.Ytilebpenfdgdmaa.Kv
