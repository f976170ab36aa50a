import Derived.Test.YtlgmjkbaihpmmaaGreatMergeSs2
import Derived.Test.YtlgmjkbaihpmmaaGreatMergeSs1
import Derived.Test.YtlgmjkbaihpmmaaGreatSessRefM
/- The reference's Once, at a right machine: what it makes is right. -/
namespace Go.Proofs.YtlgmjkbaihpmmaaGreat.Ss
open Go Go.RowKit Vl Kv Mem Nm
attribute [local go_sem] run_bits run_frombits run_store_float
attribute [local irreducible] wpQuiet

def OnceTold (w : World) (e : Ending) (w' : World) : Prop :=
  ∃ (t : Ms) (m' : Ma) (bp bq : Nat) (x : Value), e = .returned (.tuple #[.agg #[.slice t.a m'.pairs.length t.cap, .slice t.a2 m'.sess.length t.cap2], x]) ∧ MadeM w w' t m' bp bq ∧ RightM m' ∧ FitM m' ∧ Beh w w'
theorem OnS.told {w W W' : World} {s : Ms} {m : Ma} {c : Cl} {no nr : Nat} {code : Int} {v : V} {t : Ms} {P : List Pr} {O : List Se} {bp bq : Nat} (h : OnS w W s m c no nr code v t P O bp bq) (hP : rightP P = true ∧ Fits P) (hO : SrtS O) (hf : ∀ s ∈ O, s.val.num < 18446744073709551616) (x : Value)
    (hb : Beh w W') (hk : Kept (fun k => k = w.heap.size + 1 + 1 ∨ k = w.heap.size + 1 + 1 + 1) W W') : OnceTold w (.returned (.tuple #[.agg #[.slice t.a P.length t.cap, .slice t.a2 O.length t.cap2], x])) W' := by
  have h1 := h.hnr
  have h2 := h.hno
  exact ⟨t, ⟨P, O⟩, bp, bq, x, rfl, MadeM.twice (a := w.heap.size + 1 + 1) (b := w.heap.size + 1 + 1 + 1) ⟨h.op, h.oq, fun ha => by have := h.lo1 ha; omega, fun ha => by have := h.lo2 ha; omega, h.ne⟩ hk (fun ha => by have := h.lo1 ha; omega) (fun ha => by have := h.lo2 ha; omega), ⟨hP.1, (rightS_iff _).2 hO⟩, ⟨hP.2, hf⟩, hb⟩
set_option maxHeartbeats 12800000 in
set_option maxRecDepth 100000 in
theorem refOnce_any (s : Ms) (m : Ma) (c : Cl) (w : World) (h : MaAt w s m) (hr : RightM m) (hf : FitM m) (hc : c.cmd.ok) : Calls Tryz.prog 41 #[s.agg m, c.agg] w (OnceTold w) := by
  have HD := Lib.hid (Dbox.start w s m c)
  have hnp := hr.np
  have hns := hr.ns
  have HTW : Hid (∀ W, Beh w W → Calls Tryz.prog 64 #[s.agg m] W fun e w' => ∃ (t : Ms) (bp bq : Nat), e = .returned (t.agg m) ∧ MadeM W w' t m bp bq ∧ Beh W w') := fun W hb => twinM_any s m W (h.on hb) (by omega) (by omega)
  have HCA := fun w => Lib.hid (refCall_any c w)
  have HMA : Hid (∀ W, Beh w W → Calls Tryz.prog 8 #[s.agg m] W fun e w' => e = .returned (.bool true) ∧ Beh W w') := fun W hb => by
    have := refM_any s m W (h.on hb) (by omega)
    rw [rightM_iff.2 hr] at this
    exact this
  have HLA : Hid (∀ W, Beh w W → Calls Tryz.prog 66 #[s.agg m, .int .i64 c.client] W (LastTold m.sess c.client W)) := fun W hb => refLast_any s m c.client W (h.on hb)
  have HDO : Hid (∀ W, Beh w W → Calls Tryz.prog 67 #[.slice s.a m.pairs.length s.cap, c.cmd.agg] W (DoTold W (doing m.pairs c.cmd))) := fun W hb => refDo_told s.a s.cap m.pairs c.cmd W (h.pairs.below hb) (by omega) hf.pairs hc.2
  have HRC : Hid (c.right = 0 → c.cmd.right = 0 ∧ mayBe c.client c.seq = true) := fun h => by
    unfold Cl.right at h
    split at h
    · exact ⟨h, by assumption⟩
    · cases h
  have HDT : Hid (c.cmd.right = 0 → (0 ≤ (doing m.pairs c.cmd).code ∧ (doing m.pairs c.cmd).code ≤ 16) ∧ (doing m.pairs c.cmd).told.check = 0 ∧ (doing m.pairs c.cmd).told.num < 18446744073709551616) := fun hcr => doing_told hr.pairs hf.pairs hcr hc.2
  have HDR : Hid (rightP (doing m.pairs c.cmd).L = true ∧ Fits (doing m.pairs c.cmd).L) := ⟨doing_right hr.pairs c.cmd, hf.pairs.doing hc.2⟩
  have HSS := Lib.hid h.sess
  have HSR := Lib.hid ((rightS_iff _).1 hr.sess)
  have HSF := Lib.hid hf.sess
  have HRR := Lib.hid hr
  have HFF := Lib.hid hf
  clear h hr hf hc
  obtain ⟨cl, sq, ⟨k0, key, ⟨ok, on, os⟩, ⟨vk, vn, vs⟩⟩⟩ := c
  obtain ⟨L, S⟩ := m
  obtain ⟨a, cap, a2, cap2⟩ := s
  dsimp only at hnp hns HLA HDO HRC HDT HDR HSS HSR HSF
  have HX0 : Hid (∀ {wr : World}, Dbox w wr ⟨a, cap, a2, cap2⟩ ⟨L, S⟩ ⟨cl, sq, ⟨k0, key, ⟨ok, on, os⟩, ⟨vk, vn, vs⟩⟩⟩ → wr.heap[w.heap.size]? = some (.cells #[.slice a L.length cap, .slice a2 S.length cap2] 25)) := fun h => h.b0
  have HX1 : Hid (∀ {wr : World}, Dbox w wr ⟨a, cap, a2, cap2⟩ ⟨L, S⟩ ⟨cl, sq, ⟨k0, key, ⟨ok, on, os⟩, ⟨vk, vn, vs⟩⟩⟩ → wr.heap[w.heap.size + 1]? = some (.cells #[.int .i64 cl, .int .i64 sq, .int .i64 k0, .string key, .int .i64 ok, .float .f64 on, .string os, .int .i64 vk, .float .f64 vn, .string vs] 84)) := fun h => h.b1
  have HX2 : Hid (∀ {wr : World}, Dbox w wr ⟨a, cap, a2, cap2⟩ ⟨L, S⟩ ⟨cl, sq, ⟨k0, key, ⟨ok, on, os⟩, ⟨vk, vn, vs⟩⟩⟩ → wr.heap[w.heap.size + 1 + 1]? = some (.cells #[.slice none 0 0, .slice none 0 0] 25)) := fun h => h.b2
  have HX3 : Hid (∀ {wr : World}, Dbox w wr ⟨a, cap, a2, cap2⟩ ⟨L, S⟩ ⟨cl, sq, ⟨k0, key, ⟨ok, on, os⟩, ⟨vk, vn, vs⟩⟩⟩ → wr.heap[w.heap.size + 1 + 1 + 1]? = some (.cells #[.int .i64 0, .int .i64 0, .float .f64 0, .string ⟨#[]⟩] 52)) := fun h => h.b3
  have HEND : Hid (∀ (W W' : World) (t : Ms) (bp bq : Nat) (x : Value), MadeM w W t ⟨L, S⟩ bp bq → (t.a ≠ none → w.heap.size + 1 + 1 + 1 < bp) → (t.a2 ≠ none → w.heap.size + 1 + 1 + 1 < bq) → Beh w W' → Kept (fun k => k = w.heap.size + 1 + 1 ∨ k = w.heap.size + 1 + 1 + 1) W W' →
      OnceTold w (.returned (.tuple #[.agg #[.slice t.a L.length t.cap, .slice t.a2 S.length t.cap2], x])) W') := fun W W' t bp bq x hm h1 h2 hb hk =>
    ⟨t, ⟨L, S⟩, bp, bq, x, rfl, MadeM.twice (a := w.heap.size + 1 + 1) (b := w.heap.size + 1 + 1 + 1) hm hk (fun ha => by have := h1 ha; omega) (fun ha => by have := h2 ha; omega), HRR.out, HFF.out, hb⟩
  go_enter Tryz.func41, Tryz.ntmps41
  go_wp2_with fail
  refine Calls.mono (HTW.out _ HD.out.beh) ?_
  rintro e w1 ⟨t, bp, bq, rfl, hm, hb⟩
  have HS0 := Lib.hid (heap_lt (HX3.out HD.out))
  have HD := Lib.hid (HD.out.on hb)
  obtain ⟨ta, tcap, ta2, tcap2⟩ := t
  have HLO : Hid ((ta ≠ none → w.heap.size + 1 + 1 + 1 < bp) ∧ (ta2 ≠ none → w.heap.size + 1 + 1 + 1 < bq)) := ⟨fun ha => by have := hm.lo1 ha; simp only [size_alloc] at this; omega, fun ha => by have := hm.lo2 ha; simp only [size_alloc] at this; omega⟩
  have HM := Lib.hid (hm.from (w0 := w) (by simp only [size_alloc]; omega))
  have hs1 := heap_lt (HX3.out HD.out)
  clear hm hb HS0
  have HM := Lib.hid (HM.out.kept (S := Mem.None) ((Kept.refl _ w1).alloc (.cells #[.slice ta L.length tcap, .slice ta2 S.length tcap2] 25)) (fun _ h => h.elim))
  have HDA := Lib.hid (HD.out.on ((Beh.start w1).alloc (.cells #[.slice ta L.length tcap, .slice ta2 S.length tcap2] 25)))
  have HT := Lib.hid (alloc_here (w := w1) (.cells #[.slice ta L.length tcap, .slice ta2 S.length tcap2] 25) rfl)
  clear HD
  obtain ⟨y0, y1, y2, y3, y4, y5, y6, y7, y8, y9⟩ := cells10 (HX1.out HDA.out)
  go_wp2_with fail
  refine Calls.mono ((HCA _).out) ?_
  rintro e w2 ⟨rfl, hb⟩
  have HD := Lib.hid (HDA.out.on hb)
  have HM := Lib.hid (HM.out.kept (kept_beh hb) (fun _ h => h.elim))
  have HT := Lib.hid (hb.box HT.out)
  clear hb HDA HTW y0 y1 y2 y3 y4 y5 y6 y7 y8 y9
  by_cases hcr : (Cl.mk cl sq ⟨k0, key, ⟨ok, on, os⟩, ⟨vk, vn, vs⟩⟩).right = 0
  case neg =>
    have n1 := int_nbne hcr
    have n2 := int_nbeq hcr
    generalize (Cl.mk cl sq ⟨k0, key, ⟨ok, on, os⟩, ⟨vk, vn, vs⟩⟩).right = cr at *
    clear hcr
    obtain ⟨z0, z1⟩ := cells2 (HX2.out HD.out)
    obtain ⟨u0, u1, u2, u3⟩ := cells4 (HX3.out HD.out)
    have f0 := frozen_of (HX2.out HD.out) 0
    have f1 := frozen_of (HX2.out HD.out) 1
    have g0 := frozen_of (HX3.out HD.out) 0
    have g1 := frozen_of (HX3.out HD.out) 1
    have g2 := frozen_of (HX3.out HD.out) 2
    have g3 := frozen_of (HX3.out HD.out) 3
    obtain ⟨t0, t1⟩ := cells2 HT.out
    go_wp2_with fail
    (try simp only [Exit.inBlock, Exit.then])
    refine bodyPost_ret (v := .tuple #[.agg #[.slice ta L.length tcap, .slice ta2 S.length tcap2], .agg #[.int .i64 cr, .int .i64 0, .float .f64 0, .string ⟨#[]⟩]]) ?_ rfl (HEND.out w2 _ ⟨ta, tcap, ta2, tcap2⟩ bp bq _ HM.out HLO.out.1 HLO.out.2 ?_ ?_)
    · rw [results_cells rfl]
      go_simp
    · show Beh w _
      repeat' (first | with_reducible exact HD.out.beh | with_reducible refine Beh.set ?_ (by omega) _ _ | with_reducible refine Beh.drew ?_)
    · repeat' (first | with_reducible exact Kept.refl _ _ | with_reducible refine Kept.setAt ?_ (.inl (by simp)) _ _ | with_reducible refine Kept.drew ?_)
  obtain ⟨hcm, hmb⟩ := HRC.out hcr
  rw [hcr]
  have HRX := Lib.hid (HDT.out hcm)
  have HMB := Lib.hid hmb
  clear hcr hcm hmb HRC HDT HCA
  obtain ⟨x0, x1⟩ := cells2 (HX0.out HD.out)
  go_wp2_with fail
  refine Calls.mono (HMA.out _ HD.out.beh) ?_
  rintro e w3 ⟨rfl, hb⟩
  have HD := Lib.hid (HD.out.on hb)
  have HM := Lib.hid (HM.out.kept (kept_beh hb) (fun _ h => h.elim))
  have HT := Lib.hid (hb.box HT.out)
  clear hb HMA x0 x1
  obtain ⟨x0, x1⟩ := cells2 (HX0.out HD.out)
  obtain ⟨y0, y1, y2, y3, y4, y5, y6, y7, y8, y9⟩ := cells10 (HX1.out HD.out)
  unfold LastTold at HLA
  generalize lastOf S cl = LO at *
  obtain ⟨lc, ls, ld, ⟨lk, ln, lt⟩⟩ := LO
  dsimp only at HLA
  go_wp2_with fail
  refine Calls.mono (HLA.out _ HD.out.beh) ?_
  rintro e w4 ⟨rfl, hb⟩
  have HD := Lib.hid (HD.out.on hb)
  have HM := Lib.hid (HM.out.kept (kept_beh hb) (fun _ h => h.elim))
  have HT := Lib.hid (hb.box HT.out)
  clear hb HLA x0 x1 y0 y1 y2 y3 y4 y5 y6 y7 y8 y9
  have hs4 := heap_lt HT.out
  have HDB := Lib.hid (HD.out.on ((Beh.start w4).alloc (.cells #[.int .i64 ld, .int .i64 lk, .float .f64 ln, .string lt] 52)))
  have HMB4 := Lib.hid (HM.out.kept (S := Mem.None) ((Kept.refl _ w4).alloc (.cells #[.int .i64 ld, .int .i64 lk, .float .f64 ln, .string lt] 52)) (fun _ h => h.elim))
  have HTB := Lib.hid (old_alloc (.cells #[.int .i64 ld, .int .i64 lk, .float .f64 ln, .string lt] 52) HT.out)
  have HR5 := Lib.hid (alloc_here (w := w4) (.cells #[.int .i64 ld, .int .i64 lk, .float .f64 ln, .string lt] 52) rfl)
  obtain ⟨y0, y1, y2, y3, y4, y5, y6, y7, y8, y9⟩ := cells10 (HX1.out HD.out)
  have y1a := fun o => cellOn ((Beh.start _).alloc o) y1
  cases x1 : (sq == ls)
  case true =>
    go_wp2_with fail
    obtain ⟨w5, hw5⟩ : ∃ w5, w5 = (w4.alloc (.cells #[.int .i64 ld, .int .i64 lk, .float .f64 ln, .string lt] 52)) := ⟨_, rfl⟩
    rw [← hw5] at HDB HMB4 HTB HR5
    rw [← hw5]
    clear hw5 y0 y1 y2 y3 y4 y5 y6 y7 y8 y9 y1a
    obtain ⟨z0, z1⟩ := cells2 (HX2.out HDB.out)
    obtain ⟨u0, u1, u2, u3⟩ := cells4 (HX3.out HDB.out)
    have f0 := frozen_of (HX2.out HDB.out) 0
    have f1 := frozen_of (HX2.out HDB.out) 1
    have g0 := frozen_of (HX3.out HDB.out) 0
    have g1 := frozen_of (HX3.out HDB.out) 1
    have g2 := frozen_of (HX3.out HDB.out) 2
    have g3 := frozen_of (HX3.out HDB.out) 3
    obtain ⟨t0, t1⟩ := cells2 HTB.out
    obtain ⟨q0, q1, q2, q3⟩ := cells4 HR5.out
    go_region
    all_goals
      go_wp2_with fail
      (try simp only [Exit.inBlock, Exit.then])
      refine bodyPost_ret (v := .tuple #[.agg #[.slice ta L.length tcap, .slice ta2 S.length tcap2], .agg #[.int .i64 ld, .int .i64 lk, .float .f64 ln, .string lt]]) ?_ rfl (HEND.out w5 _ ⟨ta, tcap, ta2, tcap2⟩ bp bq _ HMB4.out HLO.out.1 HLO.out.2 ?_ ?_)
      · rw [results_cells rfl]
        go_simp
      · show Beh w _
        repeat' (first | with_reducible exact HDB.out.beh | with_reducible refine Beh.set ?_ (by omega) _ _ | with_reducible refine Beh.drew ?_)
      · repeat' (first | with_reducible exact Kept.refl _ _ | with_reducible refine Kept.setAt ?_ (.inl (by simp)) _ _ | with_reducible refine Kept.drew ?_)
  have sne : sq ≠ ls := by simpa using x1
  cases x2 : decide (sq < ls)
  case true =>
    obtain ⟨z0, z1⟩ := cells2 (HX2.out HD.out)
    obtain ⟨u0, u1, u2, u3⟩ := cells4 (HX3.out HD.out)
    have f0 := frozen_of (HX2.out HD.out) 0
    have f1 := frozen_of (HX2.out HD.out) 1
    have g0 := frozen_of (HX3.out HD.out) 0
    have g1 := frozen_of (HX3.out HD.out) 1
    have g2 := frozen_of (HX3.out HD.out) 2
    have g3 := frozen_of (HX3.out HD.out) 3
    obtain ⟨t0, t1⟩ := cells2 HT.out
    have f0b := frozen_of (HX2.out HDB.out) 0
    have f1b := frozen_of (HX2.out HDB.out) 1
    have g0b := frozen_of (HX3.out HDB.out) 0
    have g1b := frozen_of (HX3.out HDB.out) 1
    have g2b := frozen_of (HX3.out HDB.out) 2
    have g3b := frozen_of (HX3.out HDB.out) 3
    have z0a := fun o => cellOn ((Beh.start _).alloc o) z0
    have z1a := fun o => cellOn ((Beh.start _).alloc o) z1
    have u0a := fun o => cellOn ((Beh.start _).alloc o) u0
    have u1a := fun o => cellOn ((Beh.start _).alloc o) u1
    have u2a := fun o => cellOn ((Beh.start _).alloc o) u2
    have u3a := fun o => cellOn ((Beh.start _).alloc o) u3
    have t0a := fun o => cellOn ((Beh.start _).alloc o) t0
    have t1a := fun o => cellOn ((Beh.start _).alloc o) t1
    have hs4b := heap_lt (HX3.out HD.out)
    have k1 : w.heap.size + 1 + 1 ≠ w4.heap.size := by omega
    have k2 : w4.heap.size ≠ w.heap.size + 1 + 1 := by omega
    have k3 : w.heap.size + 1 + 1 + 1 ≠ w4.heap.size := by omega
    have k4 : w4.heap.size ≠ w.heap.size + 1 + 1 + 1 := by omega
    go_wp2_with fail
    (try simp only [Exit.inBlock, Exit.then])
    refine bodyPost_ret (v := .tuple #[.agg #[.slice ta L.length tcap, .slice ta2 S.length tcap2], .agg #[.int .i64 10, .int .i64 0, .float .f64 0, .string ⟨#[]⟩]]) ?_ rfl (HEND.out (w4.alloc (.cells #[.int .i64 ld, .int .i64 lk, .float .f64 ln, .string lt] 52)) _ ⟨ta, tcap, ta2, tcap2⟩ bp bq _ HMB4.out HLO.out.1 HLO.out.2 ?_ ?_)
    · rw [results_cells rfl]
      go_simp
    · show Beh w _
      repeat' (first | with_reducible exact HDB.out.beh | with_reducible exact HD.out.beh | with_reducible refine Beh.set ?_ (by omega) _ _ | with_reducible refine Beh.drew ?_ | with_reducible refine Beh.alloc ?_ _)
    · repeat' (first | with_reducible exact Kept.refl _ _ | with_reducible refine Kept.setAt ?_ (.inl (by simp)) _ _ | with_reducible refine Kept.drew ?_ | with_reducible refine Kept.alloc ?_ _)
  have x0 := cells2 (HX0.out HD.out)
  have x0b := fun o p => cellOn (((Beh.start _).alloc o).alloc p) x0.1
  have y2b := fun o p => cellOn (((Beh.start _).alloc o).alloc p) y2
  have y3b := fun o p => cellOn (((Beh.start _).alloc o).alloc p) y3
  have y4b := fun o p => cellOn (((Beh.start _).alloc o).alloc p) y4
  have y5b := fun o p => cellOn (((Beh.start _).alloc o).alloc p) y5
  have y6b := fun o p => cellOn (((Beh.start _).alloc o).alloc p) y6
  have y7b := fun o p => cellOn (((Beh.start _).alloc o).alloc p) y7
  have y8b := fun o p => cellOn (((Beh.start _).alloc o).alloc p) y8
  have y9b := fun o p => cellOn (((Beh.start _).alloc o).alloc p) y9
  have hs4b := heap_lt (HX3.out HD.out)
  go_wp2_with fail
  refine Calls.mono (HDO.out _ ((HD.out.beh.alloc _).alloc _)) ?_
  rintro e w5 ⟨b2, a3, cap3, rfl, hm⟩
  have HO := fun dc dv => Lib.hid (OnS.start (lc := ld) (lv := ⟨lk, ln, lt⟩) (dc := dc) (dv := dv) HD.out hs4b hm)
  have HXD : Hid (0 ≤ (doing L ⟨k0, key, ⟨ok, on, os⟩, ⟨vk, vn, vs⟩⟩).code ∧ (doing L ⟨k0, key, ⟨ok, on, os⟩, ⟨vk, vn, vs⟩⟩).code ≤ 16) := HRX.out.1
  have HDCE := Lib.hid ((((Beh.start w4).alloc (.cells #[.int .i64 ld, .int .i64 lk, .float .f64 ln, .string lt] 52)).alloc (.cells #[.slice none 0 0, .slice none 0 0] 25)).trans hm.beh)
  have HR6 := Lib.hid (hm.beh.box (old_alloc (.cells #[.slice none 0 0, .slice none 0 0] 25) HR5.out))
  have HZ6 := Lib.hid (hm.beh.box (alloc_here (w := w4.alloc (.cells #[.int .i64 ld, .int .i64 lk, .float .f64 ln, .string lt] 52)) (.cells #[.slice none 0 0, .slice none 0 0] 25) rfl))
  clear hm x0 x0b y0 y1 y2 y3 y4 y5 y6 y7 y8 y9 y1a y2b y3b y4b y5b y6b y7b y8b y9b HDB HMB4 HTB HR5
  generalize doing L ⟨k0, key, ⟨ok, on, os⟩, ⟨vk, vn, vs⟩⟩ = D at *
  obtain ⟨DL, dc, ⟨dk, dn, ds⟩⟩ := D
  dsimp only at HO HRX HDR HXD
  have HO := HO dc ⟨dk, dn, ds⟩
  dsimp only at HO
  obtain ⟨q0, q1, q2, q3⟩ := cells4 HR6.out
  have e0 := frozen_of HR6.out 0
  have e1 := frozen_of HR6.out 1
  have e2 := frozen_of HR6.out 2
  have e3 := frozen_of HR6.out 3
  have hze : (w4.alloc (.cells #[.int .i64 ld, .int .i64 lk, .float .f64 ln, .string lt] 52)).heap.size = w4.heap.size + 1 := size_alloc _ _
  rw [hze] at HZ6
  obtain ⟨p0, p1⟩ := cells2 HZ6.out
  have f0 := frozen_of HZ6.out 0
  have f1 := frozen_of HZ6.out 1
  have kne : w4.heap.size ≠ w4.heap.size + 1 := by omega
  go_wp2_with fail
  have HXR : Hid ((Se.mk cl sq dc ⟨dk, dn, ds⟩).right = true) := Se.right_iff.2 ⟨mayBe_iff.1 HMB.out, HXD.out.1, HXD.out.2, HRX.out.2.1⟩
  have HXF : Hid (dn < 18446744073709551616) := HRX.out.2.2
  clear HR6 HZ6 HDCE HRX HXD HMB q0 q1 q2 q3 e0 e1 e2 e3 p0 p1 f0 f1 HT HM HD HEND HLO
  go_loopw [11, 12] (fun d i wr => ∃ (k : Nat) (done : Bool) (O : List Se) (t' : Ms) (bq' : Nat), k ≤ S.length ∧ i = .int .i64 k ∧ d = .bool done ∧ Hid (Laid S ⟨cl, sq, dc, ⟨dk, dn, ds⟩⟩ k done O) ∧ Hid (OnS w wr ⟨a, cap, a2, cap2⟩ ⟨L, S⟩ ⟨cl, sq, ⟨k0, key, ⟨ok, on, os⟩, ⟨vk, vn, vs⟩⟩⟩ (w4.heap.size + 1) w4.heap.size dc ⟨dk, dn, ds⟩ t' DL O b2 bq')) (fun _ i _ => S.length - (intOf i).toNat)
  case atStart => exact ⟨0, false, [], ⟨a3, cap3, none, 0⟩, 0, by omega, rfl, rfl, Laid.start _ _, HO.out⟩
  case round =>
    clear HO
    obtain ⟨k, done, O, t', bq', hk, rfl, rfl, HL, HN⟩ := hrel
    obtain ⟨ta', tc', tb', td'⟩ := t'
    have hO5 : O.length ≤ 5 := by have := HL.out.len; omega
    obtain ⟨x0, x1'⟩ := cells2 (HX0.out HN.out.dx)
    obtain ⟨y0, y1, y2, y3, y4, y5, y6, y7, y8, y9⟩ := cells10 (HX1.out HN.out.dx)
    obtain ⟨o0, o1⟩ := cells2 HN.out.obox
    obtain ⟨r0, r1, r2, r3⟩ := cells4 (show _ = some (Obj.cells #[.int .i64 dc, .int .i64 dk, .float .f64 dn, .string ds] 52) from HN.out.rbox)
    by_cases hlt : k < S.length
    · have HPk : Hid (∀ wq, Beh w wq → ∃ b off, a2 = some ⟨b, off, none⟩ ∧ (S.getD k Se.zero).at_ wq b (off + k * 6)) := fun wq hq => by
        obtain ⟨b, off, ha, hc⟩ := (HSS.out.below hq).at_ (by omega)
        exact ⟨b, off, ha, hc k hlt⟩
      obtain ⟨bS, oS, rfl, _⟩ := HPk.out _ HN.out.dx.beh
      have HPk : Hid (∀ wq, Beh w wq → (S.getD k Se.zero).at_ wq bS (oS + k * 6)) := fun wq hq => by
        obtain ⟨_, _, he, hc⟩ := HPk.out _ hq; cases he; exact hc
      obtain ⟨c0, c1, c2, c3, c4, c5⟩ := HPk.out _ HN.out.dx.beh
      cases done
      · have H1 := Lib.hid (fun he => Laid.putSame HL.out HSR.out HXR.out HXF.out hlt he)
        have H2 := Lib.hid (fun he => Laid.putOld HL.out HSR.out HSF.out HXR.out HXF.out hlt he)
        have H3 := Lib.hid (fun he => Laid.old HL.out HSR.out HSF.out hlt he)
        generalize S.getD k Se.zero = p at *
        obtain ⟨pc, ps, pd, ⟨uk, un, us⟩⟩ := p
        dsimp only at H1 H2 H3
        cases e1 : decide (cl ≤ pc)
        · have hlt2 : pc < cl := by have := of_decide_eq_false e1; omega
          have ne1 : (pc != cl) = true := by rw [bne_iff_ne]; omega
          have G3 := Lib.hid (H3.out (fun _ => hlt2))
          clear hlt2 H1 H2 H3
          go_wp2_with fail
          refine wp_region_quiet (C := Beh wr) (by kernel_rfl) (by kernel_rfl) (Beh.start _).drew ?_
          repeat (first
            | (refine BigFrame.wpQuiet_skip (by exact Eq.refl false) ?_
               ((try simp only [Act.put]); (try simp only [List.setIfInBounds_toArray]); (try simp only [List.set_cons_zero, List.set_cons_succ])))
            | (refine BigFrame.wpQuiet_want (by exact Eq.refl true) (fun K hK => ?_)
               first
               | (refine quiet_move2 _ rfl (by go_simp; rfl) ?_; refine hK _ ?_)
               | (apply Exists.intro
                  refine ⟨fun wq hq => ?_, hK _ ?_⟩
                  · ((obtain ⟨x0, x1'⟩ := cells2 (HX0.out (HN.out.on hq).dx)); (obtain ⟨y0, y1, y2, y3, y4, y5, y6, y7, y8, y9⟩ := cells10 (HX1.out (HN.out.on hq).dx)); (obtain ⟨c0, c1, c2, c3, c4, c5⟩ := HPk.out _ (HN.out.on hq).dx.beh)
                     have HQ := Lib.hid hq
                     clear hq
                     unfold Oper.quietAt
                     go_simp
                     first
                     | rfl
                     | fail))
               clear hK K
               ((try simp only [Act.put]); (try simp only [List.setIfInBounds_toArray]); (try simp only [List.set_cons_zero, List.set_cons_succ]); (try simp only [e1]))))
          refine wpQuiet_nil ?_
          intro w6 hq
          have HN := Lib.hid (HN.out.on hq)
          clear hq
          clear x0 x1' y0 y1 y2 y3 y4 y5 y6 y7 y8 y9 o0 o1 r0 r1 r2 r3
          obtain ⟨x0, x1'⟩ := cells2 (HX0.out HN.out.dx)
          obtain ⟨y0, y1, y2, y3, y4, y5, y6, y7, y8, y9⟩ := cells10 (HX1.out HN.out.dx)
          obtain ⟨o0, o1⟩ := cells2 HN.out.obox
          obtain ⟨r0, r1, r2, r3⟩ := cells4 (show _ = some (Obj.cells #[.int .i64 dc, .int .i64 dk, .float .f64 dn, .string ds] 52) from HN.out.rbox)
          clear c0 c1 c2 c3 c4 c5
          obtain ⟨c0, c1, c2, c3, c4, c5⟩ := HPk.out _ HN.out.dx.beh
          go_wp2_with fail
          refine wp_region_quiet (C := Beh w6) (by kernel_rfl) (by kernel_rfl) (Beh.start _).drew ?_
          repeat (first
            | (refine BigFrame.wpQuiet_skip (by exact Eq.refl false) ?_
               ((try simp only [Act.put]); (try simp only [List.setIfInBounds_toArray]); (try simp only [List.set_cons_zero, List.set_cons_succ])))
            | (refine BigFrame.wpQuiet_want (by exact Eq.refl true) (fun K hK => ?_)
               first
               | (refine quiet_move2 _ rfl (by go_simp; rfl) ?_; refine hK _ ?_)
               | (apply Exists.intro
                  refine ⟨fun wq hq => ?_, hK _ ?_⟩
                  · ((obtain ⟨x0, x1'⟩ := cells2 (HX0.out (HN.out.on hq).dx)); (obtain ⟨y0, y1, y2, y3, y4, y5, y6, y7, y8, y9⟩ := cells10 (HX1.out (HN.out.on hq).dx)); (obtain ⟨c0, c1, c2, c3, c4, c5⟩ := HPk.out _ (HN.out.on hq).dx.beh)
                     have HQ := Lib.hid hq
                     clear hq
                     unfold Oper.quietAt
                     go_simp
                     first
                     | rfl
                     | fail))
               clear hK K
               ((try simp only [Act.put]); (try simp only [List.setIfInBounds_toArray]); (try simp only [List.set_cons_zero, List.set_cons_succ]); (try simp only [ne1]))))
          refine wpQuiet_nil ?_
          intro w7 hq
          have HN := Lib.hid (HN.out.on hq)
          clear hq
          clear x0 x1' y0 y1 y2 y3 y4 y5 y6 y7 y8 y9 o0 o1 r0 r1 r2 r3
          obtain ⟨x0, x1'⟩ := cells2 (HX0.out HN.out.dx)
          obtain ⟨y0, y1, y2, y3, y4, y5, y6, y7, y8, y9⟩ := cells10 (HX1.out HN.out.dx)
          obtain ⟨o0, o1⟩ := cells2 HN.out.obox
          obtain ⟨r0, r1, r2, r3⟩ := cells4 (show _ = some (Obj.cells #[.int .i64 dc, .int .i64 dk, .float .f64 dn, .string ds] 52) from HN.out.rbox)
          clear c0 c1 c2 c3 c4 c5
          go_wp2_with fail
          have o1a := fun o => cellOn ((Beh.start _).alloc o) o1
          have f1 := frozen_of HN.out.obox 1
          obtain ⟨c0, c1, c2, c3, c4, c5⟩ := HPk.out _ HN.out.dx.beh
          go_region_law ((refine step_append_cells rfl (.tmp 101) (.tmp 107) 23 rfl 54 6 _ _ 56 Tryz.underlying23 rfl rfl rfl rfl rfl bq' tb' td' O.length (flatS O) (by simp [Act.eval]) (OwnC.kept HN.out.oq (show Kept Mem.None w7 _ from by repeat' (first | with_reducible exact Kept.refl _ _ | with_reducible refine Kept.alloc ?_ _ | with_reducible refine Kept.drew ?_)) (fun _ h => h)) _ 1 1 _ (by simp [Act.eval]) (one_sess (s := ⟨pc, ps, pd, ⟨uk, un, us⟩⟩) (alloc_here _ rfl)).src flatS_one (by first | omega | (simp; omega)) (by first | omega | (simp; omega)) ?_; intro b'' a'' cap'' w10 h2 h3 h4 h5; (have HN10 := Lib.hid ((HN.out.on (show Beh w7 _ from by repeat' (first | with_reducible exact Beh.start _ | with_reducible refine Beh.alloc ?_ _ | with_reducible refine Beh.drew ?_))).sess h2 h3 h4)); (have HM10 := Lib.hid (h3.heap ((show Beh w7 _ from by repeat' (first | with_reducible exact Beh.start _ | with_reducible refine Beh.alloc ?_ _ | with_reducible refine Beh.drew ?_)).box HN.out.obox) (fun e => by have := HN.out.lo2 e.1; have := e.2; omega))); (obtain ⟨p0, p1⟩ := cells2 HM10.out); (have f1 := frozen_of HM10.out 1); clear h2 h3 h4 h5))
          all_goals
            go_wp2_with fail
            go_roundw
            all_goals first
              | exact ⟨k + 1, false, _, ⟨ta', tc', a'', cap''⟩, b'', by omega, by go_num, rfl, G3.out, HN10.out⟩
              | (simp [intOf]; omega)
        · have hle : cl ≤ pc := of_decide_eq_true e1
          go_wp2_with fail
          refine wp_region_quiet (C := Beh wr) (by kernel_rfl) (by kernel_rfl) (Beh.start _).drew ?_
          repeat (first
            | (refine BigFrame.wpQuiet_skip (by exact Eq.refl false) ?_
               ((try simp only [Act.put]); (try simp only [List.setIfInBounds_toArray]); (try simp only [List.set_cons_zero, List.set_cons_succ])))
            | (refine BigFrame.wpQuiet_want (by exact Eq.refl true) (fun K hK => ?_)
               first
               | (refine quiet_move2 _ rfl (by go_simp; rfl) ?_; refine hK _ ?_)
               | (apply Exists.intro
                  refine ⟨fun wq hq => ?_, hK _ ?_⟩
                  · ((obtain ⟨x0, x1'⟩ := cells2 (HX0.out (HN.out.on hq).dx)); (obtain ⟨y0, y1, y2, y3, y4, y5, y6, y7, y8, y9⟩ := cells10 (HX1.out (HN.out.on hq).dx)); (obtain ⟨c0, c1, c2, c3, c4, c5⟩ := HPk.out _ (HN.out.on hq).dx.beh)
                     have HQ := Lib.hid hq
                     clear hq
                     unfold Oper.quietAt
                     go_simp
                     first
                     | rfl
                     | fail))
               clear hK K
               ((try simp only [Act.put]); (try simp only [List.setIfInBounds_toArray]); (try simp only [List.set_cons_zero, List.set_cons_succ]); (try simp only [e1]))))
          refine wpQuiet_nil ?_
          intro w6 hq
          have HN := Lib.hid (HN.out.on hq)
          clear hq
          clear x0 x1' y0 y1 y2 y3 y4 y5 y6 y7 y8 y9 o0 o1 r0 r1 r2 r3
          obtain ⟨x0, x1'⟩ := cells2 (HX0.out HN.out.dx)
          obtain ⟨y0, y1, y2, y3, y4, y5, y6, y7, y8, y9⟩ := cells10 (HX1.out HN.out.dx)
          obtain ⟨o0, o1⟩ := cells2 HN.out.obox
          obtain ⟨r0, r1, r2, r3⟩ := cells4 (show _ = some (Obj.cells #[.int .i64 dc, .int .i64 dk, .float .f64 dn, .string ds] 52) from HN.out.rbox)
          clear c0 c1 c2 c3 c4 c5
          go_wp2_with (at_builtin; refine wpList_append_cells rfl _ _ _ rfl 54 6 _ _ 56 Tryz.underlying23 rfl rfl rfl rfl rfl bq' tb' td' O.length (flatS O) rfl (OwnC.kept HN.out.oq ((Kept.refl Mem.None _).alloc _) (fun _ h => h)) _ 1 1 _ rfl (one_sess (s := ⟨cl, sq, dc, ⟨dk, dn, ds⟩⟩) (alloc_here _ (by simp))).src flatS_one (by omega) (by omega) ?_; intro b' a' cap' w8 h2 h3 h4 h5; (have HN8 := Lib.hid ((HN.out.on ((Beh.start w6).alloc _)).sess h2 h3 h4)); (have HM8 := Lib.hid (h3.heap (old_alloc _ HN.out.obox) (fun e => by have := HN.out.lo2 e.1; have := e.2; omega))); (obtain ⟨p0, p1⟩ := cells2 HM8.out); (have f1 := frozen_of HM8.out 1); clear h2 h3 h4 h5)
          obtain ⟨w9, hw9⟩ : ∃ w9, w9 = (w8.setCell ⟨w4.heap.size + 1, 1, none⟩ (.slice a' (O.length + 1) cap')) := ⟨_, rfl⟩
          rw [← hw9] at HN8
          rw [← hw9]
          clear hw9 p0 p1 f1 HM8 HN
          clear x0 x1' y0 y1 y2 y3 y4 y5 y6 y7 y8 y9 o0 o1 r0 r1 r2 r3
          have HN := HN8
          clear HN8
          have hO6 : (O ++ [(⟨cl, sq, dc, ⟨dk, dn, ds⟩⟩ : Se)]).length ≤ 6 := by simp; omega
          generalize O ++ [(⟨cl, sq, dc, ⟨dk, dn, ds⟩⟩ : Se)] = O2 at *
          obtain ⟨x0, x1'⟩ := cells2 (HX0.out HN.out.dx)
          obtain ⟨y0, y1, y2, y3, y4, y5, y6, y7, y8, y9⟩ := cells10 (HX1.out HN.out.dx)
          obtain ⟨o0, o1⟩ := cells2 HN.out.obox
          obtain ⟨r0, r1, r2, r3⟩ := cells4 (show _ = some (Obj.cells #[.int .i64 dc, .int .i64 dk, .float .f64 dn, .string ds] 52) from HN.out.rbox)
          obtain ⟨c0, c1, c2, c3, c4, c5⟩ := HPk.out _ HN.out.dx.beh
          cases e2 : (pc == cl)
          · have ne2 : (pc != cl) = true := by rw [bne, e2]; rfl
            have hlt2 : cl < pc := by
              have : pc ≠ cl := by simpa using e2
              omega
            have G2 := Lib.hid (H2.out hlt2)
            clear hlt2 H1 H2 H3 e2
            go_wp2_with fail
            refine wp_region_quiet (C := Beh w9) (by kernel_rfl) (by kernel_rfl) (Beh.start _).drew ?_
            repeat (first
              | (refine BigFrame.wpQuiet_skip (by exact Eq.refl false) ?_
                 ((try simp only [Act.put]); (try simp only [List.setIfInBounds_toArray]); (try simp only [List.set_cons_zero, List.set_cons_succ])))
              | (refine BigFrame.wpQuiet_want (by exact Eq.refl true) (fun K hK => ?_)
                 first
                 | (refine quiet_move2 _ rfl (by go_simp; rfl) ?_; refine hK _ ?_)
                 | (apply Exists.intro
                    refine ⟨fun wq hq => ?_, hK _ ?_⟩
                    · ((obtain ⟨x0, x1'⟩ := cells2 (HX0.out (HN.out.on hq).dx)); (obtain ⟨y0, y1, y2, y3, y4, y5, y6, y7, y8, y9⟩ := cells10 (HX1.out (HN.out.on hq).dx)); (obtain ⟨c0, c1, c2, c3, c4, c5⟩ := HPk.out _ (HN.out.on hq).dx.beh)
                       have HQ := Lib.hid hq
                       clear hq
                       unfold Oper.quietAt
                       go_simp
                       first
                       | rfl
                       | fail))
                 clear hK K
                 ((try simp only [Act.put]); (try simp only [List.setIfInBounds_toArray]); (try simp only [List.set_cons_zero, List.set_cons_succ]); (try simp only [ne2]))))
            refine wpQuiet_nil ?_
            intro w11 hq
            have HN := Lib.hid (HN.out.on hq)
            clear hq
            clear x0 x1' y0 y1 y2 y3 y4 y5 y6 y7 y8 y9 o0 o1 r0 r1 r2 r3
            obtain ⟨x0, x1'⟩ := cells2 (HX0.out HN.out.dx)
            obtain ⟨y0, y1, y2, y3, y4, y5, y6, y7, y8, y9⟩ := cells10 (HX1.out HN.out.dx)
            obtain ⟨o0, o1⟩ := cells2 HN.out.obox
            obtain ⟨r0, r1, r2, r3⟩ := cells4 (show _ = some (Obj.cells #[.int .i64 dc, .int .i64 dk, .float .f64 dn, .string ds] 52) from HN.out.rbox)
            clear c0 c1 c2 c3 c4 c5
            go_wp2_with fail
            have o1a := fun o => cellOn ((Beh.start _).alloc o) o1
            have f1 := frozen_of HN.out.obox 1
            obtain ⟨c0, c1, c2, c3, c4, c5⟩ := HPk.out _ HN.out.dx.beh
            go_region_law ((refine step_append_cells rfl (.tmp 101) (.tmp 107) 23 rfl 54 6 _ _ 56 Tryz.underlying23 rfl rfl rfl rfl rfl b' a' cap' O2.length (flatS O2) (by simp [Act.eval]) (OwnC.kept HN.out.oq (show Kept Mem.None w11 _ from by repeat' (first | with_reducible exact Kept.refl _ _ | with_reducible refine Kept.alloc ?_ _ | with_reducible refine Kept.drew ?_)) (fun _ h => h)) _ 1 1 _ (by simp [Act.eval]) (one_sess (s := ⟨pc, ps, pd, ⟨uk, un, us⟩⟩) (alloc_here _ rfl)).src flatS_one (by first | omega | (simp; omega)) (by first | omega | (simp; omega)) ?_; intro b'' a'' cap'' w10 h2 h3 h4 h5; (have HN10 := Lib.hid ((HN.out.on (show Beh w11 _ from by repeat' (first | with_reducible exact Beh.start _ | with_reducible refine Beh.alloc ?_ _ | with_reducible refine Beh.drew ?_))).sess h2 h3 h4)); (have HM10 := Lib.hid (h3.heap ((show Beh w11 _ from by repeat' (first | with_reducible exact Beh.start _ | with_reducible refine Beh.alloc ?_ _ | with_reducible refine Beh.drew ?_)).box HN.out.obox) (fun e => by have := HN.out.lo2 e.1; have := e.2; omega))); (obtain ⟨p0, p1⟩ := cells2 HM10.out); (have f1 := frozen_of HM10.out 1); clear h2 h3 h4 h5))
            all_goals
              go_wp2_with fail
              go_roundw
              all_goals first
                | exact ⟨k + 1, true, _, ⟨ta', tc', a'', cap''⟩, b'', by omega, by go_num, rfl, G2.out, HN10.out⟩
                | (simp [intOf]; omega)
          · have ne2 : (pc != cl) = false := by rw [bne, e2]; rfl
            have G1 := Lib.hid (H1.out (by simpa using e2))
            clear H1 H2 H3 e2
            go_wp2_with fail
            refine wp_region_quiet (C := Beh w9) (by kernel_rfl) (by kernel_rfl) (Beh.start _).drew ?_
            repeat (first
              | (refine BigFrame.wpQuiet_skip (by exact Eq.refl false) ?_
                 ((try simp only [Act.put]); (try simp only [List.setIfInBounds_toArray]); (try simp only [List.set_cons_zero, List.set_cons_succ])))
              | (refine BigFrame.wpQuiet_want (by exact Eq.refl true) (fun K hK => ?_)
                 first
                 | (refine quiet_move2 _ rfl (by go_simp; rfl) ?_; refine hK _ ?_)
                 | (apply Exists.intro
                    refine ⟨fun wq hq => ?_, hK _ ?_⟩
                    · ((obtain ⟨x0, x1'⟩ := cells2 (HX0.out (HN.out.on hq).dx)); (obtain ⟨y0, y1, y2, y3, y4, y5, y6, y7, y8, y9⟩ := cells10 (HX1.out (HN.out.on hq).dx)); (obtain ⟨c0, c1, c2, c3, c4, c5⟩ := HPk.out _ (HN.out.on hq).dx.beh)
                       have HQ := Lib.hid hq
                       clear hq
                       unfold Oper.quietAt
                       go_simp
                       first
                       | rfl
                       | fail))
                 clear hK K
                 ((try simp only [Act.put]); (try simp only [List.setIfInBounds_toArray]); (try simp only [List.set_cons_zero, List.set_cons_succ]); (try simp only [ne2]))))
            refine wpQuiet_nil ?_
            intro w11 hq
            have HN := Lib.hid (HN.out.on hq)
            clear hq
            clear x0 x1' y0 y1 y2 y3 y4 y5 y6 y7 y8 y9 o0 o1 r0 r1 r2 r3
            obtain ⟨x0, x1'⟩ := cells2 (HX0.out HN.out.dx)
            obtain ⟨y0, y1, y2, y3, y4, y5, y6, y7, y8, y9⟩ := cells10 (HX1.out HN.out.dx)
            obtain ⟨o0, o1⟩ := cells2 HN.out.obox
            obtain ⟨r0, r1, r2, r3⟩ := cells4 (show _ = some (Obj.cells #[.int .i64 dc, .int .i64 dk, .float .f64 dn, .string ds] 52) from HN.out.rbox)
            go_wp2_with fail
            go_roundw
            case rel => exact ⟨k + 1, true, _, ⟨ta', tc', a', cap'⟩, b', by omega, by go_num, rfl, G1.out, HN.out⟩
            case measure => simp [intOf]; omega
      · have hlt2 := HL.out.yes rfl k (Nat.le_refl _) hlt
        have H3 := Lib.hid (Laid.old HL.out HSR.out HSF.out hlt (fun h => (by cases h)))
        generalize S.getD k Se.zero = p at *
        obtain ⟨pc, ps, pd, ⟨uk, un, us⟩⟩ := p
        dsimp only at hlt2 H3
        have ne1 : (pc != cl) = true := by rw [bne_iff_ne]; omega
        clear hlt2
        go_wp2_with fail
        refine wp_region_quiet (C := Beh wr) (by kernel_rfl) (by kernel_rfl) (Beh.start _).drew ?_
        repeat (first
          | (refine BigFrame.wpQuiet_skip (by exact Eq.refl false) ?_
             ((try simp only [Act.put]); (try simp only [List.setIfInBounds_toArray]); (try simp only [List.set_cons_zero, List.set_cons_succ])))
          | (refine BigFrame.wpQuiet_want (by exact Eq.refl true) (fun K hK => ?_)
             first
             | (refine quiet_move2 _ rfl (by go_simp; rfl) ?_; refine hK _ ?_)
             | (apply Exists.intro
                refine ⟨fun wq hq => ?_, hK _ ?_⟩
                · ((obtain ⟨x0, x1'⟩ := cells2 (HX0.out (HN.out.on hq).dx)); (obtain ⟨y0, y1, y2, y3, y4, y5, y6, y7, y8, y9⟩ := cells10 (HX1.out (HN.out.on hq).dx)); (obtain ⟨c0, c1, c2, c3, c4, c5⟩ := HPk.out _ (HN.out.on hq).dx.beh)
                   have HQ := Lib.hid hq
                   clear hq
                   unfold Oper.quietAt
                   go_simp
                   first
                   | rfl
                   | fail))
             clear hK K
             ((try simp only [Act.put]); (try simp only [List.setIfInBounds_toArray]); (try simp only [List.set_cons_zero, List.set_cons_succ]); (try simp only [ne1]))))
        refine wpQuiet_nil ?_
        intro w6 hq
        have HN := Lib.hid (HN.out.on hq)
        clear hq
        clear x0 x1' y0 y1 y2 y3 y4 y5 y6 y7 y8 y9 o0 o1 r0 r1 r2 r3
        obtain ⟨x0, x1'⟩ := cells2 (HX0.out HN.out.dx)
        obtain ⟨y0, y1, y2, y3, y4, y5, y6, y7, y8, y9⟩ := cells10 (HX1.out HN.out.dx)
        obtain ⟨o0, o1⟩ := cells2 HN.out.obox
        obtain ⟨r0, r1, r2, r3⟩ := cells4 (show _ = some (Obj.cells #[.int .i64 dc, .int .i64 dk, .float .f64 dn, .string ds] 52) from HN.out.rbox)
        clear c0 c1 c2 c3 c4 c5
        obtain ⟨c0, c1, c2, c3, c4, c5⟩ := HPk.out _ HN.out.dx.beh
        go_wp2_with fail
        refine wp_region_quiet (C := Beh w6) (by kernel_rfl) (by kernel_rfl) (Beh.start _).drew ?_
        repeat (first
          | (refine BigFrame.wpQuiet_skip (by exact Eq.refl false) ?_
             ((try simp only [Act.put]); (try simp only [List.setIfInBounds_toArray]); (try simp only [List.set_cons_zero, List.set_cons_succ])))
          | (refine BigFrame.wpQuiet_want (by exact Eq.refl true) (fun K hK => ?_)
             first
             | (refine quiet_move2 _ rfl (by go_simp; rfl) ?_; refine hK _ ?_)
             | (apply Exists.intro
                refine ⟨fun wq hq => ?_, hK _ ?_⟩
                · ((obtain ⟨x0, x1'⟩ := cells2 (HX0.out (HN.out.on hq).dx)); (obtain ⟨y0, y1, y2, y3, y4, y5, y6, y7, y8, y9⟩ := cells10 (HX1.out (HN.out.on hq).dx)); (obtain ⟨c0, c1, c2, c3, c4, c5⟩ := HPk.out _ (HN.out.on hq).dx.beh)
                   have HQ := Lib.hid hq
                   clear hq
                   unfold Oper.quietAt
                   go_simp
                   first
                   | rfl
                   | fail))
             clear hK K
             ((try simp only [Act.put]); (try simp only [List.setIfInBounds_toArray]); (try simp only [List.set_cons_zero, List.set_cons_succ]); (try simp only [ne1]))))
        refine wpQuiet_nil ?_
        intro w7 hq
        have HN := Lib.hid (HN.out.on hq)
        clear hq
        clear x0 x1' y0 y1 y2 y3 y4 y5 y6 y7 y8 y9 o0 o1 r0 r1 r2 r3
        obtain ⟨x0, x1'⟩ := cells2 (HX0.out HN.out.dx)
        obtain ⟨y0, y1, y2, y3, y4, y5, y6, y7, y8, y9⟩ := cells10 (HX1.out HN.out.dx)
        obtain ⟨o0, o1⟩ := cells2 HN.out.obox
        obtain ⟨r0, r1, r2, r3⟩ := cells4 (show _ = some (Obj.cells #[.int .i64 dc, .int .i64 dk, .float .f64 dn, .string ds] 52) from HN.out.rbox)
        clear c0 c1 c2 c3 c4 c5
        go_wp2_with fail
        have o1a := fun o => cellOn ((Beh.start _).alloc o) o1
        have f1 := frozen_of HN.out.obox 1
        obtain ⟨c0, c1, c2, c3, c4, c5⟩ := HPk.out _ HN.out.dx.beh
        go_region_law ((refine step_append_cells rfl (.tmp 101) (.tmp 107) 23 rfl 54 6 _ _ 56 Tryz.underlying23 rfl rfl rfl rfl rfl bq' tb' td' O.length (flatS O) (by simp [Act.eval]) (OwnC.kept HN.out.oq (show Kept Mem.None w7 _ from by repeat' (first | with_reducible exact Kept.refl _ _ | with_reducible refine Kept.alloc ?_ _ | with_reducible refine Kept.drew ?_)) (fun _ h => h)) _ 1 1 _ (by simp [Act.eval]) (one_sess (s := ⟨pc, ps, pd, ⟨uk, un, us⟩⟩) (alloc_here _ rfl)).src flatS_one (by first | omega | (simp; omega)) (by first | omega | (simp; omega)) ?_; intro b'' a'' cap'' w10 h2 h3 h4 h5; (have HN10 := Lib.hid ((HN.out.on (show Beh w7 _ from by repeat' (first | with_reducible exact Beh.start _ | with_reducible refine Beh.alloc ?_ _ | with_reducible refine Beh.drew ?_))).sess h2 h3 h4)); (have HM10 := Lib.hid (h3.heap ((show Beh w7 _ from by repeat' (first | with_reducible exact Beh.start _ | with_reducible refine Beh.alloc ?_ _ | with_reducible refine Beh.drew ?_)).box HN.out.obox) (fun e => by have := HN.out.lo2 e.1; have := e.2; omega))); (obtain ⟨p0, p1⟩ := cells2 HM10.out); (have f1 := frozen_of HM10.out 1); clear h2 h3 h4 h5))
        all_goals
          go_wp2_with fail
          go_roundw
          all_goals first
            | exact ⟨k + 1, true, _, ⟨ta', tc', a'', cap''⟩, b'', by omega, by go_num, rfl, H3.out, HN10.out⟩
            | (simp [intOf]; omega)
    · obtain rfl : k = S.length := by omega
      cases done
      · have HPU := Lib.hid (Laid.put HL.out HXR.out HXF.out)
        go_wp2_with (at_builtin; refine wpList_append_cells rfl _ _ _ rfl 54 6 _ _ 56 Tryz.underlying23 rfl rfl rfl rfl rfl bq' tb' td' O.length (flatS O) rfl (OwnC.kept HN.out.oq ((Kept.refl Mem.None _).alloc _) (fun _ h => h)) _ 1 1 _ rfl (one_sess (s := ⟨cl, sq, dc, ⟨dk, dn, ds⟩⟩) (alloc_here _ (by simp))).src flatS_one (by omega) (by omega) ?_; intro b' a' cap' w8 h2 h3 h4 h5; (have HN8 := Lib.hid ((HN.out.on ((Beh.start wr).alloc _)).sess h2 h3 h4)); (have HM8 := Lib.hid (h3.heap (old_alloc _ HN.out.obox) (fun e => by have := HN.out.lo2 e.1; have := e.2; omega))); (obtain ⟨p0, p1⟩ := cells2 HM8.out); (have f1 := frozen_of HM8.out 1); clear h2 h3 h4 h5)
        obtain ⟨w9, hw9⟩ : ∃ w9, w9 = (w8.setCell ⟨w4.heap.size + 1, 1, none⟩ (.slice a' (O.length + 1) cap')) := ⟨_, rfl⟩
        rw [← hw9] at HN8
        rw [← hw9]
        clear hw9 p0 p1 f1 HM8 HN
        clear x0 x1' y0 y1 y2 y3 y4 y5 y6 y7 y8 y9 o0 o1 r0 r1 r2 r3
        have HN := HN8
        clear HN8
        have hO6 : (O ++ [(⟨cl, sq, dc, ⟨dk, dn, ds⟩⟩ : Se)]).length ≤ 6 := by simp; omega
        generalize O ++ [(⟨cl, sq, dc, ⟨dk, dn, ds⟩⟩ : Se)] = O2 at *
        obtain ⟨x0, x1'⟩ := cells2 (HX0.out HN.out.dx)
        obtain ⟨y0, y1, y2, y3, y4, y5, y6, y7, y8, y9⟩ := cells10 (HX1.out HN.out.dx)
        obtain ⟨o0, o1⟩ := cells2 HN.out.obox
        obtain ⟨r0, r1, r2, r3⟩ := cells4 (show _ = some (Obj.cells #[.int .i64 dc, .int .i64 dk, .float .f64 dn, .string ds] 52) from HN.out.rbox)
        obtain ⟨z0, z1⟩ := cells2 (HX2.out HN.out.dx)
        obtain ⟨u0, u1, u2, u3⟩ := cells4 (HX3.out HN.out.dx)
        have f0 := frozen_of (HX2.out HN.out.dx) 0
        have f1 := frozen_of (HX2.out HN.out.dx) 1
        have g0 := frozen_of (HX3.out HN.out.dx) 0
        have g1 := frozen_of (HX3.out HN.out.dx) 1
        have g2 := frozen_of (HX3.out HN.out.dx) 2
        have g3 := frozen_of (HX3.out HN.out.dx) 3
        go_region
        all_goals
          go_wp2_with fail
          (try simp only [Exit.inBlock, Exit.then])
          refine bodyPost_ret (v := .tuple #[.agg #[.slice ta' DL.length tc', .slice a' O2.length cap'], .agg #[.int .i64 dc, .int .i64 dk, .float .f64 dn, .string ds]]) ?_ rfl (HN.out.told HDR.out HPU.out.1 HPU.out.2 _ ?_ ?_)
          · rw [results_cells rfl]
            go_simp
          · show Beh w _
            repeat' (first | with_reducible exact HN.out.dx.beh | with_reducible refine Beh.set ?_ (by omega) _ _ | with_reducible refine Beh.drew ?_)
          · repeat' (first | with_reducible exact Kept.refl _ _ | with_reducible refine Kept.setAt ?_ (.inl (by simp)) _ _ | with_reducible refine Kept.drew ?_)
      · have HLS := Lib.hid HL.out.srt
        have HLF := Lib.hid HL.out.fit
        go_wp2_with fail
        obtain ⟨z0, z1⟩ := cells2 (HX2.out HN.out.dx)
        obtain ⟨u0, u1, u2, u3⟩ := cells4 (HX3.out HN.out.dx)
        have f0 := frozen_of (HX2.out HN.out.dx) 0
        have f1 := frozen_of (HX2.out HN.out.dx) 1
        have g0 := frozen_of (HX3.out HN.out.dx) 0
        have g1 := frozen_of (HX3.out HN.out.dx) 1
        have g2 := frozen_of (HX3.out HN.out.dx) 2
        have g3 := frozen_of (HX3.out HN.out.dx) 3
        go_region
        all_goals
          go_wp2_with fail
          (try simp only [Exit.inBlock, Exit.then])
          refine bodyPost_ret (v := .tuple #[.agg #[.slice ta' DL.length tc', .slice tb' O.length td'], .agg #[.int .i64 dc, .int .i64 dk, .float .f64 dn, .string ds]]) ?_ rfl (HN.out.told HDR.out HLS.out HLF.out _ ?_ ?_)
          · rw [results_cells rfl]
            go_simp
          · show Beh w _
            repeat' (first | with_reducible exact HN.out.dx.beh | with_reducible refine Beh.set ?_ (by omega) _ _ | with_reducible refine Beh.drew ?_)
          · repeat' (first | with_reducible exact Kept.refl _ _ | with_reducible refine Kept.setAt ?_ (.inl (by simp)) _ _ | with_reducible refine Kept.drew ?_)
end Go.Proofs.YtlgmjkbaihpmmaaGreat.Ss
