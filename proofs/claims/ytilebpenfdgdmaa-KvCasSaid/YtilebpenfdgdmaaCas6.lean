/- KvCas' walk. -/
import Derived.Test.YtilebpenfdgdmaaGrown6
import Derived.Test.YtilebpenfdgdmaaKeep6
import Derived.Test.YtilebpenfdgdmaaCasM6
import Derived.Test.YtilebpenfdgdmaaSpoil6
namespace Go.Proofs.Ytilebpenfdgdmaa.Kv
open Go Go.RowKit Vl Nm Mem
attribute [local go_sem] run_bits run_frombits run_store_float
attribute [local irreducible] wpQuiet

theorem samePs_cas {L M : List Pr} (h : L = M) : samePs L M = true := by subst h; exact samePs_refl _
set_option maxHeartbeats 3200000 in
theorem KvCas_any (a : Option Addr) (cap : Nat) (C : List Cm) (key : ByteArray) (x y : V) (w : World) (h : CmdsAt w a C) (hx : x.num < 18446744073709551616) (hy : y.num < 18446744073709551616) :
    Calls Try.prog 7 #[.slice a C.length cap, .string key, x.val, y.val] w fun e w' => e = .returned (.bool true) ∧ Beh w w' := by
  have HI := Lib.hid h
  have HXN := Lib.hid hx
  have HYN := Lib.hid hy
  have HX0 := Lib.hid (old_alloc (Vobj y) (alloc_here (w := w) (Vobj x) rfl))
  have HY0 : Hid (((w.alloc (Vobj x)).alloc (Vobj y)).heap[w.heap.size + 1]? = some (Vobj y)) := alloc_here _ (by simp)
  have HB0 := Lib.hid (((Beh.start w).alloc (Vobj x)).alloc (Vobj y))
  have HPD : Hid (∀ G : List Pr, (doing G ⟨4, key, get G key, x⟩).code = 0 → CasDone G key x y (doing G ⟨4, key, get G key, x⟩)) := fun G h => cas_done h
  clear h hx hy
  obtain ⟨xk, xn, xs⟩ := x
  obtain ⟨yk, yn, ys⟩ := y
  unfold Vobj at HX0 HY0 HB0
  dsimp only at HX0 HY0 HB0
  obtain ⟨x0, x1, x2, _⟩ := cells3 HX0.out
  obtain ⟨y0, y1, y2, _⟩ := cells3 HY0.out
  by_cases hl : C.length ≤ 1000
  case neg =>
    have d1 : decide ((1000 : Int) < (C.length : Int)) = true := decide_eq_true (by omega)
    go_enter Try.func7, Try.ntmps7
    go_wp2_with fail
    go_ret
    exact ⟨rfl, HB0.out⟩
  have d1 : decide ((1000 : Int) < (C.length : Int)) = false := decide_eq_false (by omega)
  cases d2 : decide ((2000 : Int) < (key.size : Int))
  case true =>
    go_enter Try.func7, Try.ntmps7
    go_wp2_with fail
    go_ret
    exact ⟨rfl, HB0.out⟩
  cases d3 : decide ((2000 : Int) < (xs.size : Int))
  case true =>
    go_enter Try.func7, Try.ntmps7
    go_wp2_with fail
    go_ret
    exact ⟨rfl, HB0.out⟩
  cases d4 : decide ((2000 : Int) < (ys.size : Int))
  case true =>
    go_enter Try.func7, Try.ntmps7
    go_wp2_with fail
    go_ret
    exact ⟨rfl, HB0.out⟩
  go_enter Try.func7, Try.ntmps7
  go_wp2_with fail
  refine Calls.mono (grown_any a cap C _ (HI.out.below HB0.out) hl) ?_
  rintro e w1 ⟨G, ga, gc, rfl, hg, hb⟩
  clear x0 x1 x2 y0 y1 y2
  have HG := Lib.hid hg
  have HW1 := Lib.hid (HB0.out.trans hb)
  have HHx : Hid (w1.heap[w.heap.size]? = some (.cells #[.int .i64 xk, .float .f64 xn, .string xs] 25)) := box_on HX0.out hb
  have HHy : Hid (w1.heap[w.heap.size + 1]? = some (.cells #[.int .i64 yk, .float .f64 yn, .string ys] 25)) := box_on HY0.out hb
  have PG := Lib.hid hg.at_
  have hsG := hg.short
  have HB := Lib.hid (Beh.start w1)
  clear hb hg
  obtain ⟨g, hgg⟩ : ∃ g, get G key = g := ⟨_, rfl⟩
  have HGG := Lib.hid hgg
  have HGN := Lib.hid (HG.out.fits.get key)
  rw [hgg] at HGN
  have HPD2 := Lib.hid (HPD.out G)
  clear HPD
  rw [hgg] at HPD2
  obtain ⟨gk, gn, gs⟩ := g
  have HGET : Hid (∀ wq, PairsAt wq ga gc G → Calls Try.prog 19 #[.slice ga G.length gc, .string key] wq fun e w' => e = .returned (V.mk gk gn gs).val ∧ Below wq.heap.size wq w') := fun wq hq => by
    have := Get_any ga gc G key wq hq (by omega)
    rw [hgg] at this
    exact this
  clear hgg
  have HDO : Hid (∀ wq, PairsAt wq ga gc G → Calls Try.prog 22 #[.slice ga G.length gc, (Cm.mk 4 key ⟨gk, gn, gs⟩ ⟨xk, xn, xs⟩).agg] wq (DoTold wq (doing G ⟨4, key, ⟨gk, gn, gs⟩, ⟨xk, xn, xs⟩⟩))) := fun wq hq => Do_told ga gc G _ wq hq (by omega) HG.out.fits HXN.out
  have HER : Hid ((doing G ⟨4, key, ⟨gk, gn, gs⟩, ⟨xk, xn, xs⟩⟩).code ≠ 0 → (doing G ⟨4, key, ⟨gk, gn, gs⟩, ⟨xk, xn, xs⟩⟩).L = G) := fun h => (doing_err h).1
  have HFT : Hid (Fits (doing G ⟨4, key, ⟨gk, gn, gs⟩, ⟨xk, xn, xs⟩⟩).L) := HG.out.fits.doing HXN.out
  generalize doing G ⟨4, key, ⟨gk, gn, gs⟩, ⟨xk, xn, xs⟩⟩ = D at *
  obtain ⟨Hxx, Hxy, Hxz, _⟩ := cells3 HHx.out
  have Hxxa := fun o => cell_on ((Beh.start _).alloc o) Hxx
  have Hxya := fun o => cell_on ((Beh.start _).alloc o) Hxy
  have Hxza := fun o => cell_on ((Beh.start _).alloc o) Hxz
  go_wp2_with fail
  refine Calls.mono (HGET.out _ PG.out) ?_
  rintro e w2 ⟨rfl, hb⟩
  have HHx := Lib.hid (box_on (v := (.cells #[.int .i64 xk, .float .f64 xn, .string xs] 25)) (by first | exact HHx.out | exact old_alloc _ HHx.out) hb)
  have HHy := Lib.hid (box_on (v := (.cells #[.int .i64 yk, .float .f64 yn, .string ys] 25)) (by first | exact HHy.out | exact old_alloc _ HHy.out) hb)
  have PG := Lib.hid (PG.out.below (show Beh w1 w2 from Beh.trans (w0 := w1) (by repeat' (first | with_reducible exact Beh.start _ | with_reducible refine Beh.alloc ?_ _ | with_reducible refine Beh.set ?_ (by omega) _ _)) hb))
  have HB := Lib.hid (Beh.trans (w0 := w1) (by repeat' (first | with_reducible exact HB.out | with_reducible refine Beh.alloc ?_ _ | with_reducible refine Beh.set ?_ (by omega) _ _)) hb)
  clear Hxxa Hxya Hxza Hxx Hxy Hxz
  clear hb
  obtain ⟨Hxx, Hxy, Hxz, _⟩ := cells3 HHx.out
  have Hxxa := fun o => cell_on ((Beh.start _).alloc o) Hxx
  have Hxya := fun o => cell_on ((Beh.start _).alloc o) Hxy
  have Hxza := fun o => cell_on ((Beh.start _).alloc o) Hxz
  go_wp2_with fail
  refine Calls.mono (HDO.out _ (by exact PG.out.below (show Beh w2 _ from (by repeat' (first | with_reducible exact Beh.start _ | with_reducible refine Beh.alloc ?_ _ | with_reducible refine Beh.set ?_ (by omega) _ _))))) ?_
  rintro e w3 ⟨bD, aD, cD, rfl, hm⟩
  have HHx := Lib.hid (box_on (v := (.cells #[.int .i64 xk, .float .f64 xn, .string xs] 25)) (by first | exact HHx.out | exact old_alloc _ HHx.out) hm.beh)
  have HHy := Lib.hid (box_on (v := (.cells #[.int .i64 yk, .float .f64 yn, .string ys] 25)) (by first | exact HHy.out | exact old_alloc _ HHy.out) hm.beh)
  have HHg := Lib.hid (box_on (v := (.cells #[.int .i64 gk, .float .f64 gn, .string gs] 25)) (alloc_here (w := w2) (.cells #[.int .i64 gk, .float .f64 gn, .string gs] 25) rfl) hm.beh)
  have PG := Lib.hid (PG.out.below (show Beh w2 w3 from Beh.trans (w0 := w2) (by repeat' (first | with_reducible exact Beh.start _ | with_reducible refine Beh.alloc ?_ _ | with_reducible refine Beh.set ?_ (by omega) _ _)) hm.beh))
  have HB := Lib.hid (Beh.trans (w0 := w1) (by repeat' (first | with_reducible exact HB.out | with_reducible refine Beh.alloc ?_ _ | with_reducible refine Beh.set ?_ (by omega) _ _)) hm.beh)
  clear Hxxa Hxya Hxza Hxx Hxy Hxz
  have PD := Lib.hid hm.pairs
  clear hm
  obtain ⟨dk, hdk⟩ : ∃ x, D.code = x := ⟨_, rfl⟩
  by_cases hc0 : D.code = 0
  case neg =>
    have n1 := int_nbne hc0
    have HS := Lib.hid (samePs_cas (HER.out hc0).symm)
    have hsD : D.L.length ≤ 32 := by rw [HER.out hc0]; exact hsG
    clear hc0 hdk HPD2
    go_wp2_with fail
    refine Calls.mono (keepPairs_any _ _ G _ _ D.L _ (by exact PG.out.below (show Beh w3 _ from (by repeat' (first | with_reducible exact Beh.start _ | with_reducible refine Beh.alloc ?_ _ | with_reducible refine Beh.set ?_ (by omega) _ _)))) (by exact PD.out.below (show Beh w3 _ from (by repeat' (first | with_reducible exact Beh.start _ | with_reducible refine Beh.alloc ?_ _ | with_reducible refine Beh.set ?_ (by omega) _ _)))) (by omega)) ?_
    rintro e w4 ⟨rfl, hb⟩
    have HHx := Lib.hid (box_on (v := (.cells #[.int .i64 xk, .float .f64 xn, .string xs] 25)) (by first | exact HHx.out | exact old_alloc _ HHx.out) hb)
    have HHy := Lib.hid (box_on (v := (.cells #[.int .i64 yk, .float .f64 yn, .string ys] 25)) (by first | exact HHy.out | exact old_alloc _ HHy.out) hb)
    have HHg := Lib.hid (box_on (v := (.cells #[.int .i64 gk, .float .f64 gn, .string gs] 25)) (by first | exact HHg.out | exact old_alloc _ HHg.out) hb)
    have HHr := Lib.hid (box_on (v := (.cells #[.int .i64 D.code, .int .i64 D.told.kind, .float .f64 D.told.num, .string D.told.text] 37)) (alloc_here (w := w3) (.cells #[.int .i64 D.code, .int .i64 D.told.kind, .float .f64 D.told.num, .string D.told.text] 37) rfl) hb)
    have PG := Lib.hid (PG.out.below (show Beh w3 w4 from Beh.trans (w0 := w3) (by repeat' (first | with_reducible exact Beh.start _ | with_reducible refine Beh.alloc ?_ _ | with_reducible refine Beh.set ?_ (by omega) _ _)) hb))
    have PD := Lib.hid (PD.out.below (show Beh w3 w4 from Beh.trans (w0 := w3) (by repeat' (first | with_reducible exact Beh.start _ | with_reducible refine Beh.alloc ?_ _ | with_reducible refine Beh.set ?_ (by omega) _ _)) hb))
    have HB := Lib.hid (Beh.trans (w0 := w1) (by repeat' (first | with_reducible exact HB.out | with_reducible refine Beh.alloc ?_ _ | with_reducible refine Beh.set ?_ (by omega) _ _)) hb)
    have hs := HS.out
    clear hb
    go_wp2_with fail
    refine Calls.mono (wakes_any _) ?_
    rintro e w5 ⟨rfl, hb⟩
    have HE := Lib.hid (HW1.out.trans (HB.out.trans hb))
    clear hb
    go_wp2_with fail
    go_ret
    exact ⟨rfl, HE.out⟩
  case pos =>
    have HP := Lib.hid (HPD2.out hc0)
    clear HPD2 hdk HER
    obtain ⟨D, code, told⟩ := D
    obtain rfl : code = 0 := hc0
    obtain rfl : told = ⟨gk, gn, gs⟩ := HP.out.told.trans HGG.out
    have hsD : D.length ≤ 32 := length_right HP.out.right
    have HGX : Hid (∀ wq, PairsAt wq aD cD D → Calls Try.prog 19 #[.slice aD D.length cD, .string key] wq fun e w' => e = .returned (V.mk xk xn xs).val ∧ Below wq.heap.size wq w') := fun wq hq => by
      have := Get_any aD cD D key wq hq (by omega)
      rw [show get D key = ⟨xk, xn, xs⟩ from HP.out.got] at this
      exact this
    have HDZ : Hid (∀ wq, PairsAt wq aD cD D → Calls Try.prog 22 #[.slice aD D.length cD, (Cm.mk 4 key ⟨gk, gn, gs⟩ ⟨yk, yn, ys⟩).agg] wq (DoTold wq (doing D ⟨4, key, ⟨gk, gn, gs⟩, ⟨yk, yn, ys⟩⟩))) := fun wq hq => Do_told aD cD D _ wq hq (by omega) HFT.out HYN.out
    have H9 := HP.out.other
    have H0 := HP.out.done
    rw [HGG.out] at H9 H0
    dsimp only at H9 H0
    have H9 := Lib.hid H9
    have H0 := Lib.hid H0
    clear HP HFT
    generalize doing D ⟨4, key, ⟨gk, gn, gs⟩, ⟨yk, yn, ys⟩⟩ = Z at *
    have s1 := V.same_refl ⟨gk, gn, gs⟩
    have s2 := V.same_refl ⟨xk, xn, xs⟩
    go_wp2_with fail
    have HHx2 := Lib.hid (old_alloc (v := (.cells #[.int .i64 xk, .float .f64 xn, .string xs] 25)) (.cells #[.int .i64 0, .int .i64 gk, .float .f64 gn, .string gs] 37) HHx.out)
    have HHy2 := Lib.hid (old_alloc (v := (.cells #[.int .i64 yk, .float .f64 yn, .string ys] 25)) (.cells #[.int .i64 0, .int .i64 gk, .float .f64 gn, .string gs] 37) HHy.out)
    have HHg2 := Lib.hid (old_alloc (v := (.cells #[.int .i64 gk, .float .f64 gn, .string gs] 25)) (.cells #[.int .i64 0, .int .i64 gk, .float .f64 gn, .string gs] 37) HHg.out)
    have HHr2 := Lib.hid (alloc_here (w := w3) (.cells #[.int .i64 0, .int .i64 gk, .float .f64 gn, .string gs] 37) rfl)
    have PD2 := Lib.hid (PD.out.alloc (.cells #[.int .i64 0, .int .i64 gk, .float .f64 gn, .string gs] 37))
    have PG2 := Lib.hid (PG.out.alloc (.cells #[.int .i64 0, .int .i64 gk, .float .f64 gn, .string gs] 37))
    have HB2 := Lib.hid (HB.out.alloc (.cells #[.int .i64 0, .int .i64 gk, .float .f64 gn, .string gs] 37))
    clear HHx HHy HHg PD PG HB
    refine wp_region_quiet (C := Beh (w3.alloc (.cells #[.int .i64 0, .int .i64 gk, .float .f64 gn, .string gs] 37))) (by kernel_rfl) (by kernel_rfl) (Beh.start _).drew ?_
    repeat (first
      | (refine BigFrame.wpQuiet_skip (by exact Eq.refl false) ?_
         ((try simp only [Act.put]); (try simp only [List.setIfInBounds_toArray]); (try simp only [List.set_cons_zero, List.set_cons_succ])))
      | (refine BigFrame.wpQuiet_want (by exact Eq.refl true) (fun K hK => ?_)
         first
         | (refine quiet_move2 _ rfl (by go_simp; rfl) ?_; refine hK _ ?_)
         | (apply Exists.intro
            refine ⟨fun wq hq => ?_, hK _ ?_⟩
            · ((obtain ⟨x0, x1, x2, _⟩ := cells3 (hq.box HHx2.out)); (obtain ⟨g0, g1, g2, _⟩ := cells3 (hq.box HHg2.out)); (obtain ⟨r0, r1, r2, r3⟩ := cells4 (hq.box HHr2.out))
               have HQ := Lib.hid hq
               clear hq
               unfold Oper.quietAt
               go_simp
               first
               | rfl
               | (go_at_call 19; exact Calls.mono (HGX.out _ (PD2.out.below HQ.out)) (fun e w' ⟨he, hb⟩ => ⟨he, HQ.out.on hb⟩)) | (go_at_call 18; exact Calls.mono (keepValue_any ⟨_, _, _⟩ ⟨_, _, _⟩ _) (fun e w' ⟨he, hb⟩ => ⟨he, HQ.out.on hb⟩))))
         clear hK K
         ((try simp only [Act.put]); (try simp only [List.setIfInBounds_toArray]); (try simp only [List.set_cons_zero, List.set_cons_succ]); (try simp only [s1]); (try simp only [s2]))))
    refine wpQuiet_nil ?_
    intro w4 hq
    have HHx := Lib.hid (hq.box HHx2.out)
    have HHy := Lib.hid (hq.box HHy2.out)
    have HHg := Lib.hid (hq.box HHg2.out)
    have HHr := Lib.hid (hq.box HHr2.out)
    have PD := Lib.hid (PD2.out.below hq)
    have PG := Lib.hid (PG2.out.below hq)
    have HB := Lib.hid (HB2.out.trans hq)
    clear HHx2 HHy2 HHg2 HHr2 PD2 PG2 HB2 hq
    obtain ⟨Hyx, Hyy, Hyz, _⟩ := cells3 HHy.out
    have Hyxa := fun o => cell_on ((Beh.start _).alloc o) Hyx
    have Hyya := fun o => cell_on ((Beh.start _).alloc o) Hyy
    have Hyza := fun o => cell_on ((Beh.start _).alloc o) Hyz
    obtain ⟨Hgx, Hgy, Hgz, _⟩ := cells3 HHg.out
    have Hgxa := fun o => cell_on ((Beh.start _).alloc o) Hgx
    have Hgya := fun o => cell_on ((Beh.start _).alloc o) Hgy
    have Hgza := fun o => cell_on ((Beh.start _).alloc o) Hgz
    go_wp2_with fail
    refine Calls.mono (HDZ.out _ PD.out) ?_
    rintro e w5 ⟨bZ, aZ, cZ, rfl, hm⟩
    have HHx := Lib.hid (box_on (v := (.cells #[.int .i64 xk, .float .f64 xn, .string xs] 25)) (by first | exact HHx.out | exact old_alloc _ HHx.out) hm.beh)
    have HHy := Lib.hid (box_on (v := (.cells #[.int .i64 yk, .float .f64 yn, .string ys] 25)) (by first | exact HHy.out | exact old_alloc _ HHy.out) hm.beh)
    have HHg := Lib.hid (box_on (v := (.cells #[.int .i64 gk, .float .f64 gn, .string gs] 25)) (by first | exact HHg.out | exact old_alloc _ HHg.out) hm.beh)
    have HHr := Lib.hid (box_on (v := (.cells #[.int .i64 0, .int .i64 gk, .float .f64 gn, .string gs] 37)) (by first | exact HHr.out | exact old_alloc _ HHr.out) hm.beh)
    have PG := Lib.hid (PG.out.below (show Beh w4 w5 from Beh.trans (w0 := w4) (by repeat' (first | with_reducible exact Beh.start _ | with_reducible refine Beh.alloc ?_ _ | with_reducible refine Beh.set ?_ (by omega) _ _)) hm.beh))
    have PD := Lib.hid (PD.out.below (show Beh w4 w5 from Beh.trans (w0 := w4) (by repeat' (first | with_reducible exact Beh.start _ | with_reducible refine Beh.alloc ?_ _ | with_reducible refine Beh.set ?_ (by omega) _ _)) hm.beh))
    have HB := Lib.hid (Beh.trans (w0 := w1) (by repeat' (first | with_reducible exact HB.out | with_reducible refine Beh.alloc ?_ _ | with_reducible refine Beh.set ?_ (by omega) _ _)) hm.beh)
    clear Hyxa Hyya Hyza Hgxa Hgya Hgza Hyx Hyy Hyz Hgx Hgy Hgz
    have PZ := Lib.hid hm.pairs
    clear hm
    by_cases h9 : Z.code = 9
    case pos =>
      obtain ⟨hs, rfl⟩ := H9.out h9
      clear h9 H9 H0
      obtain ⟨Hxx, Hxy, Hxz, _⟩ := cells3 HHx.out
      have Hxxa := fun o => cell_on ((Beh.start _).alloc o) Hxx
      have Hxya := fun o => cell_on ((Beh.start _).alloc o) Hxy
      have Hxza := fun o => cell_on ((Beh.start _).alloc o) Hxz
      obtain ⟨Hgx, Hgy, Hgz, _⟩ := cells3 HHg.out
      have Hgxa := fun o => cell_on ((Beh.start _).alloc o) Hgx
      have Hgya := fun o => cell_on ((Beh.start _).alloc o) Hgy
      have Hgza := fun o => cell_on ((Beh.start _).alloc o) Hgz
      go_wp2_with fail
      refine Calls.mono (keepValue_any ⟨xk, xn, xs⟩ ⟨gk, gn, gs⟩ _) ?_
      rintro e w6 ⟨rfl, hb⟩
      have HHx := Lib.hid (box_on (v := (.cells #[.int .i64 xk, .float .f64 xn, .string xs] 25)) (by first | exact HHx.out | exact old_alloc _ HHx.out) hb)
      have HHy := Lib.hid (box_on (v := (.cells #[.int .i64 yk, .float .f64 yn, .string ys] 25)) (by first | exact HHy.out | exact old_alloc _ HHy.out) hb)
      have HHg := Lib.hid (box_on (v := (.cells #[.int .i64 gk, .float .f64 gn, .string gs] 25)) (by first | exact HHg.out | exact old_alloc _ HHg.out) hb)
      have HHr := Lib.hid (box_on (v := (.cells #[.int .i64 0, .int .i64 gk, .float .f64 gn, .string gs] 37)) (by first | exact HHr.out | exact old_alloc _ HHr.out) hb)
      have HHs := Lib.hid (box_on (v := (.cells #[.int .i64 9, .int .i64 xk, .float .f64 xn, .string xs] 37)) (alloc_here (w := w5) (.cells #[.int .i64 9, .int .i64 xk, .float .f64 xn, .string xs] 37) rfl) hb)
      have PG := Lib.hid (PG.out.below (show Beh w5 w6 from Beh.trans (w0 := w5) (by repeat' (first | with_reducible exact Beh.start _ | with_reducible refine Beh.alloc ?_ _ | with_reducible refine Beh.set ?_ (by omega) _ _)) hb))
      have PD := Lib.hid (PD.out.below (show Beh w5 w6 from Beh.trans (w0 := w5) (by repeat' (first | with_reducible exact Beh.start _ | with_reducible refine Beh.alloc ?_ _ | with_reducible refine Beh.set ?_ (by omega) _ _)) hb))
      have PZ := Lib.hid (PZ.out.below (show Beh w5 w6 from Beh.trans (w0 := w5) (by repeat' (first | with_reducible exact Beh.start _ | with_reducible refine Beh.alloc ?_ _ | with_reducible refine Beh.set ?_ (by omega) _ _)) hb))
      have HB := Lib.hid (Beh.trans (w0 := w1) (by repeat' (first | with_reducible exact HB.out | with_reducible refine Beh.alloc ?_ _ | with_reducible refine Beh.set ?_ (by omega) _ _)) hb)
      clear Hxxa Hxya Hxza Hgxa Hgya Hgza Hxx Hxy Hxz Hgx Hgy Hgz
      clear hb
      have hp := samePs_refl D
      go_wp2_with fail
      refine Calls.mono (keepPairs_any _ _ D _ _ D _ PZ.out PD.out (by omega)) ?_
      rintro e w7 ⟨rfl, hb⟩
      have HHx := Lib.hid (box_on (v := (.cells #[.int .i64 xk, .float .f64 xn, .string xs] 25)) (by first | exact HHx.out | exact old_alloc _ HHx.out) hb)
      have HHy := Lib.hid (box_on (v := (.cells #[.int .i64 yk, .float .f64 yn, .string ys] 25)) (by first | exact HHy.out | exact old_alloc _ HHy.out) hb)
      have HHg := Lib.hid (box_on (v := (.cells #[.int .i64 gk, .float .f64 gn, .string gs] 25)) (by first | exact HHg.out | exact old_alloc _ HHg.out) hb)
      have HHr := Lib.hid (box_on (v := (.cells #[.int .i64 0, .int .i64 gk, .float .f64 gn, .string gs] 37)) (by first | exact HHr.out | exact old_alloc _ HHr.out) hb)
      have HHs := Lib.hid (box_on (v := (.cells #[.int .i64 9, .int .i64 xk, .float .f64 xn, .string xs] 37)) (by first | exact HHs.out | exact old_alloc _ HHs.out) hb)
      have PG := Lib.hid (PG.out.below (show Beh w6 w7 from Beh.trans (w0 := w6) (by repeat' (first | with_reducible exact Beh.start _ | with_reducible refine Beh.alloc ?_ _ | with_reducible refine Beh.set ?_ (by omega) _ _)) hb))
      have PD := Lib.hid (PD.out.below (show Beh w6 w7 from Beh.trans (w0 := w6) (by repeat' (first | with_reducible exact Beh.start _ | with_reducible refine Beh.alloc ?_ _ | with_reducible refine Beh.set ?_ (by omega) _ _)) hb))
      have PZ := Lib.hid (PZ.out.below (show Beh w6 w7 from Beh.trans (w0 := w6) (by repeat' (first | with_reducible exact Beh.start _ | with_reducible refine Beh.alloc ?_ _ | with_reducible refine Beh.set ?_ (by omega) _ _)) hb))
      have HB := Lib.hid (Beh.trans (w0 := w1) (by repeat' (first | with_reducible exact HB.out | with_reducible refine Beh.alloc ?_ _ | with_reducible refine Beh.set ?_ (by omega) _ _)) hb)
      clear hb
      obtain ⟨Hxx, Hxy, Hxz, _⟩ := cells3 HHx.out
      have Hxxa := fun o => cell_on ((Beh.start _).alloc o) Hxx
      have Hxya := fun o => cell_on ((Beh.start _).alloc o) Hxy
      have Hxza := fun o => cell_on ((Beh.start _).alloc o) Hxz
      obtain ⟨Hsx, Hsy, Hsz, Hsu⟩ := cells4 HHs.out
      have Hsxa := fun o => cell_on ((Beh.start _).alloc o) Hsx
      have Hsya := fun o => cell_on ((Beh.start _).alloc o) Hsy
      have Hsza := fun o => cell_on ((Beh.start _).alloc o) Hsz
      have Hsua := fun o => cell_on ((Beh.start _).alloc o) Hsu
      go_wp2_with fail
      refine Calls.mono (keepValue_any ⟨xk, xn, xs⟩ ⟨xk, xn, xs⟩ _) ?_
      rintro e w8 ⟨rfl, hb⟩
      have HHx := Lib.hid (box_on (v := (.cells #[.int .i64 xk, .float .f64 xn, .string xs] 25)) (by first | exact HHx.out | exact old_alloc _ HHx.out) hb)
      have HHy := Lib.hid (box_on (v := (.cells #[.int .i64 yk, .float .f64 yn, .string ys] 25)) (by first | exact HHy.out | exact old_alloc _ HHy.out) hb)
      have HHg := Lib.hid (box_on (v := (.cells #[.int .i64 gk, .float .f64 gn, .string gs] 25)) (by first | exact HHg.out | exact old_alloc _ HHg.out) hb)
      have HHr := Lib.hid (box_on (v := (.cells #[.int .i64 0, .int .i64 gk, .float .f64 gn, .string gs] 37)) (by first | exact HHr.out | exact old_alloc _ HHr.out) hb)
      have HHs := Lib.hid (box_on (v := (.cells #[.int .i64 9, .int .i64 xk, .float .f64 xn, .string xs] 37)) (by first | exact HHs.out | exact old_alloc _ HHs.out) hb)
      have PG := Lib.hid (PG.out.below (show Beh w7 w8 from Beh.trans (w0 := w7) (by repeat' (first | with_reducible exact Beh.start _ | with_reducible refine Beh.alloc ?_ _ | with_reducible refine Beh.set ?_ (by omega) _ _)) hb))
      have PD := Lib.hid (PD.out.below (show Beh w7 w8 from Beh.trans (w0 := w7) (by repeat' (first | with_reducible exact Beh.start _ | with_reducible refine Beh.alloc ?_ _ | with_reducible refine Beh.set ?_ (by omega) _ _)) hb))
      have PZ := Lib.hid (PZ.out.below (show Beh w7 w8 from Beh.trans (w0 := w7) (by repeat' (first | with_reducible exact Beh.start _ | with_reducible refine Beh.alloc ?_ _ | with_reducible refine Beh.set ?_ (by omega) _ _)) hb))
      have HB := Lib.hid (Beh.trans (w0 := w1) (by repeat' (first | with_reducible exact HB.out | with_reducible refine Beh.alloc ?_ _ | with_reducible refine Beh.set ?_ (by omega) _ _)) hb)
      clear Hxxa Hxya Hxza Hsxa Hsya Hsza Hsua Hxx Hxy Hxz Hsx Hsy Hsz Hsu
      clear hb
      go_wp2_with fail
      refine Calls.mono (wakes_any _) ?_
      rintro e wE ⟨rfl, hb⟩
      have HE := Lib.hid (HW1.out.trans (HB.out.trans hb))
      clear hb
      go_wp2_with fail
      go_ret
      exact ⟨rfl, HE.out⟩
    case neg =>
      have e9 := int_nbeq h9
      by_cases h0 : Z.code = 0
      case pos =>
        have hs := H0.out h0
        clear H9 H0 h9
        obtain ⟨Z, zc, zt⟩ := Z
        obtain rfl : zc = 0 := h0
        obtain ⟨Hxx, Hxy, Hxz, _⟩ := cells3 HHx.out
        have Hxxa := fun o => cell_on ((Beh.start _).alloc o) Hxx
        have Hxya := fun o => cell_on ((Beh.start _).alloc o) Hxy
        have Hxza := fun o => cell_on ((Beh.start _).alloc o) Hxz
        obtain ⟨Hgx, Hgy, Hgz, _⟩ := cells3 HHg.out
        have Hgxa := fun o => cell_on ((Beh.start _).alloc o) Hgx
        have Hgya := fun o => cell_on ((Beh.start _).alloc o) Hgy
        have Hgza := fun o => cell_on ((Beh.start _).alloc o) Hgz
        go_wp2_with fail
        refine Calls.mono (keepValue_any ⟨xk, xn, xs⟩ ⟨gk, gn, gs⟩ _) ?_
        rintro e w6 ⟨rfl, hb⟩
        have HHx := Lib.hid (box_on (v := (.cells #[.int .i64 xk, .float .f64 xn, .string xs] 25)) (by first | exact HHx.out | exact old_alloc _ HHx.out) hb)
        have HHy := Lib.hid (box_on (v := (.cells #[.int .i64 yk, .float .f64 yn, .string ys] 25)) (by first | exact HHy.out | exact old_alloc _ HHy.out) hb)
        have HHg := Lib.hid (box_on (v := (.cells #[.int .i64 gk, .float .f64 gn, .string gs] 25)) (by first | exact HHg.out | exact old_alloc _ HHg.out) hb)
        have HHr := Lib.hid (box_on (v := (.cells #[.int .i64 0, .int .i64 gk, .float .f64 gn, .string gs] 37)) (by first | exact HHr.out | exact old_alloc _ HHr.out) hb)
        have HHs := Lib.hid (box_on (v := (.cells #[.int .i64 0, .int .i64 zt.kind, .float .f64 zt.num, .string zt.text] 37)) (alloc_here (w := w5) (.cells #[.int .i64 0, .int .i64 zt.kind, .float .f64 zt.num, .string zt.text] 37) rfl) hb)
        have PG := Lib.hid (PG.out.below (show Beh w5 w6 from Beh.trans (w0 := w5) (by repeat' (first | with_reducible exact Beh.start _ | with_reducible refine Beh.alloc ?_ _ | with_reducible refine Beh.set ?_ (by omega) _ _)) hb))
        have PD := Lib.hid (PD.out.below (show Beh w5 w6 from Beh.trans (w0 := w5) (by repeat' (first | with_reducible exact Beh.start _ | with_reducible refine Beh.alloc ?_ _ | with_reducible refine Beh.set ?_ (by omega) _ _)) hb))
        have PZ := Lib.hid (PZ.out.below (show Beh w5 w6 from Beh.trans (w0 := w5) (by repeat' (first | with_reducible exact Beh.start _ | with_reducible refine Beh.alloc ?_ _ | with_reducible refine Beh.set ?_ (by omega) _ _)) hb))
        have HB := Lib.hid (Beh.trans (w0 := w1) (by repeat' (first | with_reducible exact HB.out | with_reducible refine Beh.alloc ?_ _ | with_reducible refine Beh.set ?_ (by omega) _ _)) hb)
        clear Hxxa Hxya Hxza Hgxa Hgya Hgza Hxx Hxy Hxz Hgx Hgy Hgz
        clear hb
        go_wp2_with fail
        refine Calls.mono (wakes_any _) ?_
        rintro e wE ⟨rfl, hb⟩
        have HE := Lib.hid (HW1.out.trans (HB.out.trans hb))
        clear hb
        go_wp2_with fail
        go_ret
        exact ⟨rfl, HE.out⟩
      case neg =>
        have n0 := int_nbne h0
        clear H9 H0 h9 h0
        go_wp2_with fail
        refine Calls.mono (wakes_any _) ?_
        rintro e wE ⟨rfl, hb⟩
        have HE := Lib.hid (HW1.out.trans (HB.out.trans (Beh.trans (w0 := w5) (by repeat' (first | with_reducible exact Beh.start _ | with_reducible refine Beh.alloc ?_ _ | with_reducible refine Beh.set ?_ (by omega) _ _)) hb)))
        clear hb
        go_wp2_with fail
        go_ret
        exact ⟨rfl, HE.out⟩
theorem KvCas_law (a : Option Addr) (len cap : Nat) (key : ByteArray) (x y : V) (W : World) (h0 : ∃ C : List Cm, C.length = len ∧ CmdsAt W a C) (_h1 : key.size ≤ maxLen) (h2 : x.num < 18446744073709551616) (h3 : y.num < 18446744073709551616) :
    Calls Try.prog 7 #[.slice a len cap, .string key, x.val, y.val] W fun e w' => e = .returned (.bool true) ∧ Below W.heap.size W w' := by
  obtain ⟨C, rfl, hC⟩ := h0
  exact KvCas_any a cap C key x y W hC h2 h3
end Go.Proofs.Ytilebpenfdgdmaa.Kv
