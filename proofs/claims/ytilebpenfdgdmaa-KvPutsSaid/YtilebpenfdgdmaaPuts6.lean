/- KvPuts' walk. -/
import Derived.Test.YtilebpenfdgdmaaGrown6
import Derived.Test.YtilebpenfdgdmaaKeep6
import Derived.Test.YtilebpenfdgdmaaPutM6
import Derived.Test.YtilebpenfdgdmaaSpoil6
namespace Go.Proofs.Ytilebpenfdgdmaa.Kv
open Go Go.RowKit Vl Nm Mem
attribute [local go_sem] run_bits run_frombits run_store_float

theorem samePs_same {L M : List Pr} (h : L = M) : samePs L M = true := by subst h; exact samePs_refl _
set_option maxHeartbeats 3200000 in
theorem KvPuts_any (a : Option Addr) (cap : Nat) (C : List Cm) (key : ByteArray) (v : V) (w : World) (h : CmdsAt w a C) (hv : v.num < 18446744073709551616) :
    Calls Try.prog 6 #[.slice a C.length cap, .string key, v.val] w fun e w' => e = .returned (.bool true) ∧ Beh w w' := by
  have HI := Lib.hid h
  have HVN := Lib.hid hv
  have HA0 := Lib.hid (alloc_here (w := w) (Vobj v) rfl)
  have HB0 := Lib.hid ((Beh.start w).alloc (Vobj v))
  have HPD : Hid (∀ G : List Pr, (doing G ⟨2, key, V.zero, v⟩).code = 0 → PutDone G key v (doing G ⟨2, key, V.zero, v⟩)) := fun G h => put_done h
  clear h hv
  obtain ⟨vk, vn, vs⟩ := v
  unfold Vobj at HA0 HB0
  dsimp only at HA0 HB0
  by_cases hl : C.length ≤ 1000
  case neg =>
    have d1 : decide ((1000 : Int) < (C.length : Int)) = true := decide_eq_true (by omega)
    go_enter Try.func6, Try.ntmps6
    go_wp2_with fail
    go_ret
    exact ⟨rfl, HB0.out⟩
  have d1 : decide ((1000 : Int) < (C.length : Int)) = false := decide_eq_false (by omega)
  cases d2 : decide ((2000 : Int) < (key.size : Int))
  case true =>
    go_enter Try.func6, Try.ntmps6
    go_wp2_with fail
    go_ret
    exact ⟨rfl, HB0.out⟩
  cases d3 : decide ((2000 : Int) < (vs.size : Int))
  case true =>
    go_enter Try.func6, Try.ntmps6
    go_wp2_with fail
    go_ret
    exact ⟨rfl, HB0.out⟩
  go_enter Try.func6, Try.ntmps6
  go_wp2_with fail
  refine Calls.mono (grown_any a cap C _ (HI.out.below HB0.out) hl) ?_
  rintro e w1 ⟨G, ga, gc, rfl, hg, hb⟩
  have HG := Lib.hid hg
  have HW1 := Lib.hid (HB0.out.trans hb)
  have HHv : Hid (w1.heap[w.heap.size]? = some (.cells #[.int .i64 vk, .float .f64 vn, .string vs] 25)) := box_on HA0.out hb
  have PG := Lib.hid hg.at_
  have hsG := hg.short
  have HB := Lib.hid (Beh.start w1)
  clear hb hg
  obtain ⟨g, hgg⟩ : ∃ g, get G key = g := ⟨_, rfl⟩
  have HGG := Lib.hid hgg
  obtain ⟨gk, gn, gs⟩ := g
  have HGET : Hid (∀ wq, PairsAt wq ga gc G → Calls Try.prog 19 #[.slice ga G.length gc, .string key] wq fun e w' => e = .returned (V.mk gk gn gs).val ∧ Below wq.heap.size wq w') := fun wq hq => by
    have := Get_any ga gc G key wq hq (by omega)
    rw [hgg] at this
    exact this
  clear hgg
  have HDO : Hid (∀ wq, PairsAt wq ga gc G → Calls Try.prog 22 #[.slice ga G.length gc, (Cm.mk 2 key V.zero ⟨vk, vn, vs⟩).agg] wq (DoTold wq (doing G ⟨2, key, V.zero, ⟨vk, vn, vs⟩⟩))) := fun wq hq => Do_told ga gc G _ wq hq (by omega) HG.out.fits HVN.out
  have HER : Hid ((doing G ⟨2, key, V.zero, ⟨vk, vn, vs⟩⟩).code ≠ 0 → (doing G ⟨2, key, V.zero, ⟨vk, vn, vs⟩⟩).L = G) := fun h => (doing_err h).1
  have HFT : Hid (Fits (doing G ⟨2, key, V.zero, ⟨vk, vn, vs⟩⟩).L) := HG.out.fits.doing HVN.out
  have HPD2 := Lib.hid (HPD.out G)
  clear HPD
  generalize doing G ⟨2, key, V.zero, ⟨vk, vn, vs⟩⟩ = D at *
  obtain ⟨Hvx, Hvy, Hvz, _⟩ := cells3 HHv.out
  have Hvxa := fun o => cell_on ((Beh.start _).alloc o) Hvx
  have Hvya := fun o => cell_on ((Beh.start _).alloc o) Hvy
  have Hvza := fun o => cell_on ((Beh.start _).alloc o) Hvz
  go_wp2_with fail
  refine Calls.mono (HGET.out _ PG.out) ?_
  rintro e w2 ⟨rfl, hb⟩
  have HHv := Lib.hid (box_on (v := (.cells #[.int .i64 vk, .float .f64 vn, .string vs] 25)) (by first | exact HHv.out | exact old_alloc _ HHv.out) hb)
  have PG := Lib.hid (PG.out.below (show Beh w1 w2 from Beh.trans (w0 := w1) (by repeat' (first | with_reducible exact Beh.start _ | with_reducible refine Beh.alloc ?_ _ | with_reducible refine Beh.set ?_ (by omega) _ _)) hb))
  have HB := Lib.hid (Beh.trans (w0 := w1) (by repeat' (first | with_reducible exact HB.out | with_reducible refine Beh.alloc ?_ _ | with_reducible refine Beh.set ?_ (by omega) _ _)) hb)
  clear Hvxa Hvya Hvza Hvx Hvy Hvz
  clear hb
  obtain ⟨Hvx, Hvy, Hvz, _⟩ := cells3 HHv.out
  have Hvxa := fun o => cell_on ((Beh.start _).alloc o) Hvx
  have Hvya := fun o => cell_on ((Beh.start _).alloc o) Hvy
  have Hvza := fun o => cell_on ((Beh.start _).alloc o) Hvz
  go_wp2_with fail
  refine Calls.mono (HDO.out _ (by exact PG.out.below (show Beh w2 _ from (by repeat' (first | with_reducible exact Beh.start _ | with_reducible refine Beh.alloc ?_ _ | with_reducible refine Beh.set ?_ (by omega) _ _))))) ?_
  rintro e w3 ⟨bD, aD, cD, rfl, hm⟩
  have HHv := Lib.hid (box_on (v := (.cells #[.int .i64 vk, .float .f64 vn, .string vs] 25)) (by first | exact HHv.out | exact old_alloc _ HHv.out) hm.beh)
  have HHg := Lib.hid (box_on (v := (.cells #[.int .i64 gk, .float .f64 gn, .string gs] 25)) (alloc_here (w := w2) (.cells #[.int .i64 gk, .float .f64 gn, .string gs] 25) rfl) hm.beh)
  have PG := Lib.hid (PG.out.below (show Beh w2 w3 from Beh.trans (w0 := w2) (by repeat' (first | with_reducible exact Beh.start _ | with_reducible refine Beh.alloc ?_ _ | with_reducible refine Beh.set ?_ (by omega) _ _)) hm.beh))
  have HB := Lib.hid (Beh.trans (w0 := w1) (by repeat' (first | with_reducible exact HB.out | with_reducible refine Beh.alloc ?_ _ | with_reducible refine Beh.set ?_ (by omega) _ _)) hm.beh)
  clear Hvxa Hvya Hvza Hvx Hvy Hvz
  have PD := Lib.hid hm.pairs
  clear hm
  obtain ⟨dk, hdk⟩ : ∃ x, D.code = x := ⟨_, rfl⟩
  by_cases hc0 : D.code = 0
  case neg =>
    have n1 := int_nbne hc0
    have HS := Lib.hid (samePs_same (HER.out hc0).symm)
    have hsD : D.L.length ≤ 32 := by rw [HER.out hc0]; exact hsG
    clear hc0 hdk HPD2
    go_wp2_with fail
    refine Calls.mono (keepPairs_any _ _ G _ _ D.L _ (by exact PG.out.below (show Beh w3 _ from (by repeat' (first | with_reducible exact Beh.start _ | with_reducible refine Beh.alloc ?_ _ | with_reducible refine Beh.set ?_ (by omega) _ _)))) (by exact PD.out.below (show Beh w3 _ from (by repeat' (first | with_reducible exact Beh.start _ | with_reducible refine Beh.alloc ?_ _ | with_reducible refine Beh.set ?_ (by omega) _ _)))) (by omega)) ?_
    rintro e w4 ⟨rfl, hb⟩
    have HHv := Lib.hid (box_on (v := (.cells #[.int .i64 vk, .float .f64 vn, .string vs] 25)) (by first | exact HHv.out | exact old_alloc _ HHv.out) hb)
    have HHg := Lib.hid (box_on (v := (.cells #[.int .i64 gk, .float .f64 gn, .string gs] 25)) (by first | exact HHg.out | exact old_alloc _ HHg.out) hb)
    have HHr := Lib.hid (box_on (v := (.cells #[.int .i64 D.code, .int .i64 D.told.kind, .float .f64 D.told.num, .string D.told.text] 37)) (alloc_here (w := w3) (.cells #[.int .i64 D.code, .int .i64 D.told.kind, .float .f64 D.told.num, .string D.told.text] 37) rfl) hb)
    have PG := Lib.hid (PG.out.below (show Beh w3 w4 from Beh.trans (w0 := w3) (by repeat' (first | with_reducible exact Beh.start _ | with_reducible refine Beh.alloc ?_ _ | with_reducible refine Beh.set ?_ (by omega) _ _)) hb))
    have PD := Lib.hid (PD.out.below (show Beh w3 w4 from Beh.trans (w0 := w3) (by repeat' (first | with_reducible exact Beh.start _ | with_reducible refine Beh.alloc ?_ _ | with_reducible refine Beh.set ?_ (by omega) _ _)) hb))
    have HB := Lib.hid (Beh.trans (w0 := w1) (by repeat' (first | with_reducible exact HB.out | with_reducible refine Beh.alloc ?_ _ | with_reducible refine Beh.set ?_ (by omega) _ _)) hb)
    have hs := HS.out
    clear hb
    go_wp2_with fail
    refine Calls.mono (wakes_any _) ?_
    rintro e w5 ⟨rfl, hb⟩
    have HE := Lib.hid (HW1.out.trans (HB.out.trans hb))
    clear hb
    go_wp2_with fail
    go_ret
    exact ⟨rfl, HE.out⟩
  case pos =>
    have HP := Lib.hid (HPD2.out hc0)
    clear HPD2 hdk HER
    obtain ⟨D, code, told⟩ := D
    obtain rfl : code = 0 := hc0
    obtain rfl : told = ⟨gk, gn, gs⟩ := HP.out.told.trans HGG.out
    have hsD : D.length ≤ 32 := length_right HP.out.right
    have HDG : Hid (∀ wq aq cq, PairsAt wq aq cq D → Calls Try.prog 22 #[.slice aq D.length cq, (Cm.mk 1 key V.zero V.zero).agg] wq (DoTold wq ⟨D, 0, ⟨vk, vn, vs⟩⟩)) := fun wq aq cq hq => by
      have := Do_told aq cq D ⟨1, key, V.zero, V.zero⟩ wq hq (by omega) HFT.out zero_fit
      rw [HP.out.gets] at this
      exact this
    have HDD : Hid (∀ wq aq cq, PairsAt wq aq cq D → Calls Try.prog 22 #[.slice aq D.length cq, (Cm.mk 3 key V.zero V.zero).agg] wq (DoTold wq ⟨set D key V.zero, 0, ⟨vk, vn, vs⟩⟩)) := fun wq aq cq hq => by
      have := Do_told aq cq D ⟨3, key, V.zero, V.zero⟩ wq hq (by omega) HFT.out zero_fit
      rw [HP.out.dels] at this
      exact this
    have hsZ : (set D key V.zero).length ≤ 32 := by have := HP.out.less; dsimp only at this; omega
    have HFZ : Hid (Fits (set D key V.zero)) := set_all (P := fun v => v.num < 18446744073709551616) HFT.out zero_fit
    have HDZ : Hid (∀ wq aq cq, PairsAt wq aq cq (set D key V.zero) → Calls Try.prog 22 #[.slice aq (set D key V.zero).length cq, (Cm.mk 1 key V.zero V.zero).agg] wq (DoTold wq ⟨set D key V.zero, 0, V.zero⟩)) := fun wq aq cq hq => by
      have := Do_told aq cq (set D key V.zero) ⟨1, key, V.zero, V.zero⟩ wq hq (by omega) HFZ.out zero_fit
      rw [HP.out.gone] at this
      exact this
    have hless : ((set D key V.zero).length : Int) = (D.length : Int) - 1 := by have := HP.out.less; dsimp only at this; omega
    have hw1 : wrap64 ((D.length : Int) - 1) = (D.length : Int) - 1 := by unfold wrap64; omega
    have hw2 : IntKind.i64.wrap ((D.length : Int) - 1) = (D.length : Int) - 1 := by rw [IntKind.wrap_i64]; omega
    clear HFZ HFT HP
    generalize set D key V.zero = Z at *
    have s1 := V.same_refl ⟨gk, gn, gs⟩
    have s2 := V.same_refl ⟨vk, vn, vs⟩
    go_wp2_with fail
    refine Calls.mono (HDG.out _ _ _ (by exact PD.out.below (show Beh w3 _ from (by repeat' (first | with_reducible exact Beh.start _ | with_reducible refine Beh.alloc ?_ _ | with_reducible refine Beh.set ?_ (by omega) _ _))))) ?_
    rintro e w4 ⟨b4, a4, c4, rfl, hm⟩
    have HHv := Lib.hid (box_on (v := (.cells #[.int .i64 vk, .float .f64 vn, .string vs] 25)) (by first | exact HHv.out | exact old_alloc _ HHv.out) hm.beh)
    have HHg := Lib.hid (box_on (v := (.cells #[.int .i64 gk, .float .f64 gn, .string gs] 25)) (by first | exact HHg.out | exact old_alloc _ HHg.out) hm.beh)
    have HHr := Lib.hid (box_on (v := (.cells #[.int .i64 0, .int .i64 gk, .float .f64 gn, .string gs] 37)) (alloc_here (w := w3) (.cells #[.int .i64 0, .int .i64 gk, .float .f64 gn, .string gs] 37) rfl) hm.beh)
    have PG := Lib.hid (PG.out.below (show Beh w3 w4 from Beh.trans (w0 := w3) (by repeat' (first | with_reducible exact Beh.start _ | with_reducible refine Beh.alloc ?_ _ | with_reducible refine Beh.set ?_ (by omega) _ _)) hm.beh))
    have PD := Lib.hid (PD.out.below (show Beh w3 w4 from Beh.trans (w0 := w3) (by repeat' (first | with_reducible exact Beh.start _ | with_reducible refine Beh.alloc ?_ _ | with_reducible refine Beh.set ?_ (by omega) _ _)) hm.beh))
    have HB := Lib.hid (Beh.trans (w0 := w1) (by repeat' (first | with_reducible exact HB.out | with_reducible refine Beh.alloc ?_ _ | with_reducible refine Beh.set ?_ (by omega) _ _)) hm.beh)
    clear hm
    have hsz : w1.heap.size ≤ w4.heap.size := HB.out.size
    go_wp2_with fail
    refine Calls.mono (HDD.out _ _ _ (by exact PD.out.below (show Beh w4 _ from (by repeat' (first | with_reducible exact Beh.start _ | with_reducible refine Beh.alloc ?_ _ | with_reducible refine Beh.set ?_ (by omega) _ _))))) ?_
    rintro e w5 ⟨b5, a5, c5, rfl, hm⟩
    have HHv := Lib.hid (box_on (v := (.cells #[.int .i64 vk, .float .f64 vn, .string vs] 25)) (by first | exact HHv.out | exact old_alloc _ HHv.out) hm.beh)
    have HHg := Lib.hid (box_on (v := (.cells #[.int .i64 gk, .float .f64 gn, .string gs] 25)) (by first | exact HHg.out | exact old_alloc _ HHg.out) hm.beh)
    have HHr := Lib.hid (box_on (v := (.cells #[.int .i64 0, .int .i64 gk, .float .f64 gn, .string gs] 37)) (by first | exact HHr.out | exact old_alloc _ HHr.out) hm.beh)
    have HHs := Lib.hid (box_on (v := (.cells #[.int .i64 0, .int .i64 vk, .float .f64 vn, .string vs] 37)) (alloc_here (w := w4) (.cells #[.int .i64 0, .int .i64 vk, .float .f64 vn, .string vs] 37) rfl) hm.beh)
    have PG := Lib.hid (PG.out.below (show Beh w4 w5 from Beh.trans (w0 := w4) (by repeat' (first | with_reducible exact Beh.start _ | with_reducible refine Beh.alloc ?_ _ | with_reducible refine Beh.set ?_ (by omega) _ _)) hm.beh))
    have PD := Lib.hid (PD.out.below (show Beh w4 w5 from Beh.trans (w0 := w4) (by repeat' (first | with_reducible exact Beh.start _ | with_reducible refine Beh.alloc ?_ _ | with_reducible refine Beh.set ?_ (by omega) _ _)) hm.beh))
    have HB := Lib.hid (Beh.trans (w0 := w1) (by repeat' (first | with_reducible exact HB.out | with_reducible refine Beh.alloc ?_ _ | with_reducible refine Beh.set ?_ (by omega) _ _)) hm.beh)
    have PZ := Lib.hid hm.pairs
    clear hm
    obtain ⟨Hvx, Hvy, Hvz, _⟩ := cells3 HHv.out
    have Hvxa := fun o => cell_on ((Beh.start _).alloc o) Hvx
    have Hvya := fun o => cell_on ((Beh.start _).alloc o) Hvy
    have Hvza := fun o => cell_on ((Beh.start _).alloc o) Hvz
    obtain ⟨Hgx, Hgy, Hgz, _⟩ := cells3 HHg.out
    have Hgxa := fun o => cell_on ((Beh.start _).alloc o) Hgx
    have Hgya := fun o => cell_on ((Beh.start _).alloc o) Hgy
    have Hgza := fun o => cell_on ((Beh.start _).alloc o) Hgz
    obtain ⟨Hrx, Hry, Hrz, Hru⟩ := cells4 HHr.out
    have Hrxa := fun o => cell_on ((Beh.start _).alloc o) Hrx
    have Hrya := fun o => cell_on ((Beh.start _).alloc o) Hry
    have Hrza := fun o => cell_on ((Beh.start _).alloc o) Hrz
    have Hrua := fun o => cell_on ((Beh.start _).alloc o) Hru
    obtain ⟨Hsx, Hsy, Hsz, Hsu⟩ := cells4 HHs.out
    have Hsxa := fun o => cell_on ((Beh.start _).alloc o) Hsx
    have Hsya := fun o => cell_on ((Beh.start _).alloc o) Hsy
    have Hsza := fun o => cell_on ((Beh.start _).alloc o) Hsz
    have Hsua := fun o => cell_on ((Beh.start _).alloc o) Hsu
    go_wp2_with fail
    refine Calls.mono (keepValue_any ⟨gk, gn, gs⟩ ⟨gk, gn, gs⟩ _) ?_
    rintro e w6 ⟨rfl, hb⟩
    have HHv := Lib.hid (box_on (v := (.cells #[.int .i64 vk, .float .f64 vn, .string vs] 25)) (by first | exact HHv.out | exact old_alloc _ HHv.out) hb)
    have HHg := Lib.hid (box_on (v := (.cells #[.int .i64 gk, .float .f64 gn, .string gs] 25)) (by first | exact HHg.out | exact old_alloc _ HHg.out) hb)
    have HHr := Lib.hid (box_on (v := (.cells #[.int .i64 0, .int .i64 gk, .float .f64 gn, .string gs] 37)) (by first | exact HHr.out | exact old_alloc _ HHr.out) hb)
    have HHs := Lib.hid (box_on (v := (.cells #[.int .i64 0, .int .i64 vk, .float .f64 vn, .string vs] 37)) (by first | exact HHs.out | exact old_alloc _ HHs.out) hb)
    have HHt := Lib.hid (box_on (v := (.cells #[.int .i64 0, .int .i64 vk, .float .f64 vn, .string vs] 37)) (alloc_here (w := w5) (.cells #[.int .i64 0, .int .i64 vk, .float .f64 vn, .string vs] 37) rfl) hb)
    have PG := Lib.hid (PG.out.below (show Beh w5 w6 from Beh.trans (w0 := w5) (by repeat' (first | with_reducible exact Beh.start _ | with_reducible refine Beh.alloc ?_ _ | with_reducible refine Beh.set ?_ (by omega) _ _)) hb))
    have PD := Lib.hid (PD.out.below (show Beh w5 w6 from Beh.trans (w0 := w5) (by repeat' (first | with_reducible exact Beh.start _ | with_reducible refine Beh.alloc ?_ _ | with_reducible refine Beh.set ?_ (by omega) _ _)) hb))
    have PZ := Lib.hid (PZ.out.below (show Beh w5 w6 from Beh.trans (w0 := w5) (by repeat' (first | with_reducible exact Beh.start _ | with_reducible refine Beh.alloc ?_ _ | with_reducible refine Beh.set ?_ (by omega) _ _)) hb))
    have HB := Lib.hid (Beh.trans (w0 := w1) (by repeat' (first | with_reducible exact HB.out | with_reducible refine Beh.alloc ?_ _ | with_reducible refine Beh.set ?_ (by omega) _ _)) hb)
    clear Hvxa Hvya Hvza Hgxa Hgya Hgza Hrxa Hrya Hrza Hrua Hsxa Hsya Hsza Hsua Hvx Hvy Hvz Hgx Hgy Hgz Hrx Hry Hrz Hru Hsx Hsy Hsz Hsu
    clear hb
    obtain ⟨Hvx, Hvy, Hvz, _⟩ := cells3 HHv.out
    have Hvxa := fun o => cell_on ((Beh.start _).alloc o) Hvx
    have Hvya := fun o => cell_on ((Beh.start _).alloc o) Hvy
    have Hvza := fun o => cell_on ((Beh.start _).alloc o) Hvz
    obtain ⟨Hgx, Hgy, Hgz, _⟩ := cells3 HHg.out
    have Hgxa := fun o => cell_on ((Beh.start _).alloc o) Hgx
    have Hgya := fun o => cell_on ((Beh.start _).alloc o) Hgy
    have Hgza := fun o => cell_on ((Beh.start _).alloc o) Hgz
    obtain ⟨Hrx, Hry, Hrz, Hru⟩ := cells4 HHr.out
    have Hrxa := fun o => cell_on ((Beh.start _).alloc o) Hrx
    have Hrya := fun o => cell_on ((Beh.start _).alloc o) Hry
    have Hrza := fun o => cell_on ((Beh.start _).alloc o) Hrz
    have Hrua := fun o => cell_on ((Beh.start _).alloc o) Hru
    obtain ⟨Hsx, Hsy, Hsz, Hsu⟩ := cells4 HHs.out
    have Hsxa := fun o => cell_on ((Beh.start _).alloc o) Hsx
    have Hsya := fun o => cell_on ((Beh.start _).alloc o) Hsy
    have Hsza := fun o => cell_on ((Beh.start _).alloc o) Hsz
    have Hsua := fun o => cell_on ((Beh.start _).alloc o) Hsu
    obtain ⟨Htx, Hty, Htz, Htu⟩ := cells4 HHt.out
    have Htxa := fun o => cell_on ((Beh.start _).alloc o) Htx
    have Htya := fun o => cell_on ((Beh.start _).alloc o) Hty
    have Htza := fun o => cell_on ((Beh.start _).alloc o) Htz
    have Htua := fun o => cell_on ((Beh.start _).alloc o) Htu
    go_wp2_with fail
    refine Calls.mono (keepValue_any ⟨vk, vn, vs⟩ ⟨vk, vn, vs⟩ _) ?_
    rintro e w7 ⟨rfl, hb⟩
    have HHv := Lib.hid (box_on (v := (.cells #[.int .i64 vk, .float .f64 vn, .string vs] 25)) (by first | exact HHv.out | exact old_alloc _ HHv.out) hb)
    have HHg := Lib.hid (box_on (v := (.cells #[.int .i64 gk, .float .f64 gn, .string gs] 25)) (by first | exact HHg.out | exact old_alloc _ HHg.out) hb)
    have HHr := Lib.hid (box_on (v := (.cells #[.int .i64 0, .int .i64 gk, .float .f64 gn, .string gs] 37)) (by first | exact HHr.out | exact old_alloc _ HHr.out) hb)
    have HHs := Lib.hid (box_on (v := (.cells #[.int .i64 0, .int .i64 vk, .float .f64 vn, .string vs] 37)) (by first | exact HHs.out | exact old_alloc _ HHs.out) hb)
    have HHt := Lib.hid (box_on (v := (.cells #[.int .i64 0, .int .i64 vk, .float .f64 vn, .string vs] 37)) (by first | exact HHt.out | exact old_alloc _ HHt.out) hb)
    have PG := Lib.hid (PG.out.below (show Beh w6 w7 from Beh.trans (w0 := w6) (by repeat' (first | with_reducible exact Beh.start _ | with_reducible refine Beh.alloc ?_ _ | with_reducible refine Beh.set ?_ (by omega) _ _)) hb))
    have PD := Lib.hid (PD.out.below (show Beh w6 w7 from Beh.trans (w0 := w6) (by repeat' (first | with_reducible exact Beh.start _ | with_reducible refine Beh.alloc ?_ _ | with_reducible refine Beh.set ?_ (by omega) _ _)) hb))
    have PZ := Lib.hid (PZ.out.below (show Beh w6 w7 from Beh.trans (w0 := w6) (by repeat' (first | with_reducible exact Beh.start _ | with_reducible refine Beh.alloc ?_ _ | with_reducible refine Beh.set ?_ (by omega) _ _)) hb))
    have HB := Lib.hid (Beh.trans (w0 := w1) (by repeat' (first | with_reducible exact HB.out | with_reducible refine Beh.alloc ?_ _ | with_reducible refine Beh.set ?_ (by omega) _ _)) hb)
    clear Hvxa Hvya Hvza Hgxa Hgya Hgza Hrxa Hrya Hrza Hrua Hsxa Hsya Hsza Hsua Htxa Htya Htza Htua Hvx Hvy Hvz Hgx Hgy Hgz Hrx Hry Hrz Hru Hsx Hsy Hsz Hsu Htx Hty Htz Htu
    clear hb
    obtain ⟨Hvx, Hvy, Hvz, _⟩ := cells3 HHv.out
    have Hvxa := fun o => cell_on ((Beh.start _).alloc o) Hvx
    have Hvya := fun o => cell_on ((Beh.start _).alloc o) Hvy
    have Hvza := fun o => cell_on ((Beh.start _).alloc o) Hvz
    obtain ⟨Hgx, Hgy, Hgz, _⟩ := cells3 HHg.out
    have Hgxa := fun o => cell_on ((Beh.start _).alloc o) Hgx
    have Hgya := fun o => cell_on ((Beh.start _).alloc o) Hgy
    have Hgza := fun o => cell_on ((Beh.start _).alloc o) Hgz
    obtain ⟨Hrx, Hry, Hrz, Hru⟩ := cells4 HHr.out
    have Hrxa := fun o => cell_on ((Beh.start _).alloc o) Hrx
    have Hrya := fun o => cell_on ((Beh.start _).alloc o) Hry
    have Hrza := fun o => cell_on ((Beh.start _).alloc o) Hrz
    have Hrua := fun o => cell_on ((Beh.start _).alloc o) Hru
    obtain ⟨Hsx, Hsy, Hsz, Hsu⟩ := cells4 HHs.out
    have Hsxa := fun o => cell_on ((Beh.start _).alloc o) Hsx
    have Hsya := fun o => cell_on ((Beh.start _).alloc o) Hsy
    have Hsza := fun o => cell_on ((Beh.start _).alloc o) Hsz
    have Hsua := fun o => cell_on ((Beh.start _).alloc o) Hsu
    obtain ⟨Htx, Hty, Htz, Htu⟩ := cells4 HHt.out
    have Htxa := fun o => cell_on ((Beh.start _).alloc o) Htx
    have Htya := fun o => cell_on ((Beh.start _).alloc o) Hty
    have Htza := fun o => cell_on ((Beh.start _).alloc o) Htz
    have Htua := fun o => cell_on ((Beh.start _).alloc o) Htu
    go_wp2_with fail
    refine Calls.mono (keepValue_any ⟨vk, vn, vs⟩ ⟨vk, vn, vs⟩ _) ?_
    rintro e w8 ⟨rfl, hb⟩
    have HHv := Lib.hid (box_on (v := (.cells #[.int .i64 vk, .float .f64 vn, .string vs] 25)) (by first | exact HHv.out | exact old_alloc _ HHv.out) hb)
    have HHg := Lib.hid (box_on (v := (.cells #[.int .i64 gk, .float .f64 gn, .string gs] 25)) (by first | exact HHg.out | exact old_alloc _ HHg.out) hb)
    have HHr := Lib.hid (box_on (v := (.cells #[.int .i64 0, .int .i64 gk, .float .f64 gn, .string gs] 37)) (by first | exact HHr.out | exact old_alloc _ HHr.out) hb)
    have HHs := Lib.hid (box_on (v := (.cells #[.int .i64 0, .int .i64 vk, .float .f64 vn, .string vs] 37)) (by first | exact HHs.out | exact old_alloc _ HHs.out) hb)
    have HHt := Lib.hid (box_on (v := (.cells #[.int .i64 0, .int .i64 vk, .float .f64 vn, .string vs] 37)) (by first | exact HHt.out | exact old_alloc _ HHt.out) hb)
    have PG := Lib.hid (PG.out.below (show Beh w7 w8 from Beh.trans (w0 := w7) (by repeat' (first | with_reducible exact Beh.start _ | with_reducible refine Beh.alloc ?_ _ | with_reducible refine Beh.set ?_ (by omega) _ _)) hb))
    have PD := Lib.hid (PD.out.below (show Beh w7 w8 from Beh.trans (w0 := w7) (by repeat' (first | with_reducible exact Beh.start _ | with_reducible refine Beh.alloc ?_ _ | with_reducible refine Beh.set ?_ (by omega) _ _)) hb))
    have PZ := Lib.hid (PZ.out.below (show Beh w7 w8 from Beh.trans (w0 := w7) (by repeat' (first | with_reducible exact Beh.start _ | with_reducible refine Beh.alloc ?_ _ | with_reducible refine Beh.set ?_ (by omega) _ _)) hb))
    have HB := Lib.hid (Beh.trans (w0 := w1) (by repeat' (first | with_reducible exact HB.out | with_reducible refine Beh.alloc ?_ _ | with_reducible refine Beh.set ?_ (by omega) _ _)) hb)
    clear Hvxa Hvya Hvza Hgxa Hgya Hgza Hrxa Hrya Hrza Hrua Hsxa Hsya Hsza Hsua Htxa Htya Htza Htua Hvx Hvy Hvz Hgx Hgy Hgz Hrx Hry Hrz Hru Hsx Hsy Hsz Hsu Htx Hty Htz Htu
    clear hb
    go_wp2_with fail
    refine Calls.mono (HDZ.out _ _ _ (by exact PZ.out.below (show Beh w8 _ from (by repeat' (first | with_reducible exact Beh.start _ | with_reducible refine Beh.alloc ?_ _ | with_reducible refine Beh.set ?_ (by omega) _ _))))) ?_
    rintro e w9 ⟨b9, a9, c9, rfl, hm⟩
    have HHv := Lib.hid (box_on (v := (.cells #[.int .i64 vk, .float .f64 vn, .string vs] 25)) (by first | exact HHv.out | exact old_alloc _ HHv.out) hm.beh)
    have HHg := Lib.hid (box_on (v := (.cells #[.int .i64 gk, .float .f64 gn, .string gs] 25)) (by first | exact HHg.out | exact old_alloc _ HHg.out) hm.beh)
    have HHr := Lib.hid (box_on (v := (.cells #[.int .i64 0, .int .i64 gk, .float .f64 gn, .string gs] 37)) (by first | exact HHr.out | exact old_alloc _ HHr.out) hm.beh)
    have HHs := Lib.hid (box_on (v := (.cells #[.int .i64 0, .int .i64 vk, .float .f64 vn, .string vs] 37)) (by first | exact HHs.out | exact old_alloc _ HHs.out) hm.beh)
    have HHt := Lib.hid (box_on (v := (.cells #[.int .i64 0, .int .i64 vk, .float .f64 vn, .string vs] 37)) (by first | exact HHt.out | exact old_alloc _ HHt.out) hm.beh)
    have PG := Lib.hid (PG.out.below (show Beh w8 w9 from Beh.trans (w0 := w8) (by repeat' (first | with_reducible exact Beh.start _ | with_reducible refine Beh.alloc ?_ _ | with_reducible refine Beh.set ?_ (by omega) _ _)) hm.beh))
    have PD := Lib.hid (PD.out.below (show Beh w8 w9 from Beh.trans (w0 := w8) (by repeat' (first | with_reducible exact Beh.start _ | with_reducible refine Beh.alloc ?_ _ | with_reducible refine Beh.set ?_ (by omega) _ _)) hm.beh))
    have PZ := Lib.hid (PZ.out.below (show Beh w8 w9 from Beh.trans (w0 := w8) (by repeat' (first | with_reducible exact Beh.start _ | with_reducible refine Beh.alloc ?_ _ | with_reducible refine Beh.set ?_ (by omega) _ _)) hm.beh))
    have HB := Lib.hid (Beh.trans (w0 := w1) (by repeat' (first | with_reducible exact HB.out | with_reducible refine Beh.alloc ?_ _ | with_reducible refine Beh.set ?_ (by omega) _ _)) hm.beh)
    clear hm
    obtain ⟨Hsx, Hsy, Hsz, Hsu⟩ := cells4 HHs.out
    have Hsxa := fun o => cell_on ((Beh.start _).alloc o) Hsx
    have Hsya := fun o => cell_on ((Beh.start _).alloc o) Hsy
    have Hsza := fun o => cell_on ((Beh.start _).alloc o) Hsz
    have Hsua := fun o => cell_on ((Beh.start _).alloc o) Hsu
    have g0 := frozen_of HHs.out 0
    have g1 := frozen_of HHs.out 1
    have g2 := frozen_of HHs.out 2
    have g3 := frozen_of HHs.out 3
    go_wp2_with fail
    refine Calls.mono (wakes_any _) ?_
    rintro e wE ⟨rfl, hb⟩
    have HE := Lib.hid (HW1.out.trans (Beh.trans (w0 := w1) (by repeat' (first | with_reducible exact HB.out | with_reducible refine Beh.set ?_ hsz _ _)) hb))
    clear hb
    go_wp2_with fail
    go_ret
    exact ⟨rfl, HE.out⟩
theorem KvPuts_law (a : Option Addr) (len cap : Nat) (key : ByteArray) (v : V) (W : World) (h0 : ∃ C : List Cm, C.length = len ∧ CmdsAt W a C) (_h1 : key.size ≤ maxLen) (h2 : v.num < 18446744073709551616) :
    Calls Try.prog 6 #[.slice a len cap, .string key, v.val] W fun e w' => e = .returned (.bool true) ∧ Below W.heap.size W w' := by
  obtain ⟨C, rfl, hC⟩ := h0
  exact KvPuts_any a cap C key v W hC h2
end Go.Proofs.Ytilebpenfdgdmaa.Kv
