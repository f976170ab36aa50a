import Derived.Test.YtlgmjkbaihpmmaaGreatSessOnce
import Derived.Test.YtlgmjkbaihpmmaaGreatMergeSs1
import Derived.Test.YtlgmjkbaihpmmaaGreatCmds6
import Derived.Deep.RegionWith
import Derived.Test.YtlgmjkbaihpmmaaGreatSessKeep
import Derived.Test.YtlgmjkbaihpmmaaGreatMergeSs2
import Derived.Test.YtlgmjkbaihpmmaaGreatWriter2
section
/- The law's Grown: behind any calls a right machine. -/
namespace Go.Proofs.YtlgmjkbaihpmmaaGreat.Ss
open Go Go.RowKit Vl Kv Mem Nm
attribute [local go_sem] run_bits run_frombits run_store_float

structure GSt (w wr : World) (s : Ms) (m : Ma) (bp bq : Nat) : Prop where
  zbox : wr.heap[w.heap.size]? = some (.cells #[.slice none 0 0, .slice none 0 0] 25)
  mbox : wr.heap[w.heap.size + 1]? = some (.cells #[.slice s.a m.pairs.length s.cap, .slice s.a2 m.sess.length s.cap2] 25)
  made : MadeM w wr s m bp bq
  lo1 : s.a ≠ none → w.heap.size + 1 < bp
  lo2 : s.a2 ≠ none → w.heap.size + 1 < bq
  right : RightM m
  fit : FitM m
  beh : Beh w wr
theorem GSt.on {w wr w' : World} {s : Ms} {m : Ma} {bp bq : Nat} (h : GSt w wr s m bp bq) (hb : Beh wr w') : GSt w w' s m bp bq :=
  ⟨hb.box h.zbox, hb.box h.mbox, h.made.kept (kept_beh hb) (fun _ h => h.elim), h.lo1, h.lo2, h.right, h.fit, h.beh.trans hb⟩
theorem GSt.next {w wr W w' : World} {s t : Ms} {m n : Ma} {bp bq bp' bq' : Nat} (h : GSt w wr s m bp bq) (hw : Beh wr W) (hm : MadeM W w' t n bp' bq') (hr : RightM n) (hf : FitM n) (hb : Beh W w') :
    GSt w ((w'.setCell ⟨w.heap.size + 1, 0, none⟩ (.slice t.a n.pairs.length t.cap)).setCell ⟨w.heap.size + 1, 1, none⟩ (.slice t.a2 n.sess.length t.cap2)) t n bp' bq' := by
  have hlt := lt_of_heap h.mbox
  have hw2 := hw.size
  have h2 := (h.on hw).on hb
  have hk : Kept (Only (w.heap.size + 1)) w' ((w'.setCell ⟨w.heap.size + 1, 0, none⟩ (.slice t.a n.pairs.length t.cap)).setCell ⟨w.heap.size + 1, 1, none⟩ (.slice t.a2 n.sess.length t.cap2)) := ((Kept.refl (Only (w.heap.size + 1)) w').setAt (.inl rfl) _ _).setAt (.inl rfl) _ _
  refine ⟨hk.heap h2.zbox (fun e => by have e : w.heap.size = w.heap.size + 1 := e; omega), heap_setc (heap_setc h2.mbox), ⟨OwnC.kept hm.op hk (fun ha e => by have := hm.lo1 ha; have e : bp' = w.heap.size + 1 := e; omega), OwnC.kept hm.oq hk (fun ha e => by have := hm.lo2 ha; have e : bq' = w.heap.size + 1 := e; omega), fun ha => by have := hm.lo1 ha; omega, fun ha => by have := hm.lo2 ha; omega, hm.ne⟩,
    fun ha => by have := hm.lo1 ha; omega, fun ha => by have := hm.lo2 ha; omega, hr, hf, (h2.beh.set (by omega) _ _).set (by omega) _ _⟩
theorem right_zero : RightM Ma.zero := rightM_iff.1 right_m0A
theorem fit_zero : FitM Ma.zero := ⟨Fits.nil, fun _ h => by cases h⟩
theorem GSt.start (w : World) : GSt w ((w.alloc (.cells #[.slice none 0 0, .slice none 0 0] 25)).alloc (.cells #[.slice none 0 0, .slice none 0 0] 25)) Ms.zero Ma.zero 0 0 :=
  ⟨old_alloc _ (alloc_here _ rfl), alloc_here _ (by simp), MadeM.zero, fun h => absurd rfl h, fun h => absurd rfl h, right_zero, fit_zero, ((Beh.start w).alloc _).alloc _⟩
/-- what Grown tells -/
def GrownTold (w : World) (e : Ending) (w' : World) : Prop :=
  ∃ (t : Ms) (m : Ma) (bp bq : Nat), e = .returned (.agg #[.slice t.a m.pairs.length t.cap, .slice t.a2 m.sess.length t.cap2]) ∧ MadeM w w' t m bp bq ∧ RightM m ∧ FitM m ∧ Beh w w'
set_option maxHeartbeats 6400000 in
set_option maxRecDepth 100000 in
theorem SGrown_any (a : Option Addr) (cap : Nat) (C : List Cl) (w : World) (h : CallsAt w a C) (hl : C.length ≤ 1000) :
    Calls Tryz.prog 17 #[.slice a C.length cap] w (GrownTold w) := by
  have HI := Lib.hid h
  have HS := Lib.hid (GSt.start w)
  clear h
  go_enter Tryz.func17, Tryz.ntmps17
  go_wp2_with fail
  go_loopw [4] (fun i wr => ∃ (k : Nat) (s : Ms) (m : Ma) (bp bq : Nat), k ≤ C.length ∧ i = .int .i64 k ∧ Hid (GSt w wr s m bp bq)) (fun i _ => C.length - (intOf i).toNat)
  case atStart => exact ⟨0, Ms.zero, Ma.zero, 0, 0, by omega, rfl, HS.out⟩
  case round =>
    clear HS
    obtain ⟨k, s, m, bp, bq, hk, rfl, HG⟩ := hrel
    by_cases hlt : k < C.length ∧ k < 200
    · obtain ⟨hlt, hlt2⟩ := hlt
      have d1 : decide ((k : Int) < (C.length : Int)) = true := decide_eq_true (by omega)
      have d2 : decide ((k : Int) < 200) = true := decide_eq_true (by omega)
      have HC : Hid (∀ wq, Beh w wq → ∃ b off, a = some ⟨b, off, none⟩ ∧ (C.getD k Cl.zero).at_ wq b (off + k * 10)) := fun wq hq => by
        obtain ⟨b, off, ha, hc⟩ := (HI.out.below hq.below).at_ (by omega)
        exact ⟨b, off, ha, hc k hlt⟩
      obtain ⟨b, off, rfl, _⟩ := HC.out _ HG.out.beh
      have HC : Hid (∀ wq, Beh w wq → (C.getD k Cl.zero).at_ wq b (off + k * 10)) := fun wq hq => by
        obtain ⟨_, _, he, hc⟩ := HC.out _ hq; cases he; exact hc
      have hok := Lib.hid (HI.out.get hlt)
      generalize C.getD k Cl.zero = c at *
      have HON : Hid (∀ W, Beh wr W → Calls Tryz.prog 41 #[s.agg m, c.agg] W (OnceTold W)) := fun W hb => refOnce_any s m c W (HG.out.made.at_.on hb) HG.out.right HG.out.fit hok.out
      have HHV := fun w => Lib.hid (heavyCmd_any c.cmd w)
      obtain ⟨hv, hhv⟩ : ∃ v, c.cmd.heavy = v := ⟨_, rfl⟩
      rw [hhv] at HHV
      clear hhv hok
      obtain ⟨cl, sq, ⟨k0, key, ⟨ok, on, os⟩, ⟨vk, vn, vs⟩⟩⟩ := c
      obtain ⟨c0, c1, c2, c3, c4, c5, c6, c7, c8, c9⟩ := HC.out _ HG.out.beh
      cases hv
      · go_wp2_with (first | (go_at_call 40; refine ((HHV _).out).mono ?_; rintro e w1 ⟨rfl, hb⟩; (have HW1 := Lib.hid (show Beh wr w1 from hb)); clear hb))
        have HG1 := Lib.hid (HG.out.on HW1.out)
        clear c0 c1 c2 c3 c4 c5 c6 c7 c8 c9
        obtain ⟨c0, c1, c2, c3, c4, c5, c6, c7, c8, c9⟩ := HC.out _ HG1.out.beh
        obtain ⟨m0, m1⟩ := cells2 HG1.out.mbox
        go_region_with ((go_at_call 41; refine Calls.mono (HON.out _ HW1.out.drew) ?_; rintro e w2 ⟨t, n, bp', bq', x, rfl, hm, hr, hf, hb⟩; (have HN := Lib.hid (HG1.out.next (Beh.start w1).drew hm hr hf hb)); (have HB2 := Lib.hid (hb.box (show w1.drew.heap[w.heap.size + 1]? = _ from HG1.out.mbox))); clear hm hr hf hb; (obtain ⟨p0, p1⟩ := cells2 HB2.out); (have f0 := frozen_of HB2.out 0); (have f1 := frozen_of HB2.out 1)))
        all_goals
          go_wp2_with fail
          go_roundw
          all_goals first
            | exact ⟨k + 1, t, n, bp', bq', by omega, by go_num, HN.out⟩
            | (simp [intOf]; omega)
      · go_wp2_with (first | (go_at_call 40; refine ((HHV _).out).mono ?_; rintro e w1 ⟨rfl, hb⟩; (have HG := Lib.hid (HG.out.on hb)); clear hb))
        go_roundw
        case rel => exact ⟨k + 1, s, m, bp, bq, by omega, by go_num, HG.out⟩
        case measure => simp [intOf]; omega
    · have hstop : (decide ((k : Int) < (C.length : Int)) = false ∧ decide (k < C.length) = false) ∨ (decide ((k : Int) < (C.length : Int)) = true ∧ decide (k < C.length) = true ∧ decide ((k : Int) < 200) = false ∧ decide (k < 200) = false) := by
        by_cases h1 : k < C.length
        · exact .inr ⟨decide_eq_true (by omega), decide_eq_true (by omega), decide_eq_false (by omega), decide_eq_false (by omega)⟩
        · exact .inl ⟨decide_eq_false (by omega), decide_eq_false (by omega)⟩
      clear hlt
      obtain ⟨m0, m1⟩ := cells2 HG.out.mbox
      obtain ⟨z0, z1⟩ := cells2 HG.out.zbox
      have f0 := frozen_of HG.out.zbox 0
      have f1 := frozen_of HG.out.zbox 1
      have hend : Hid (GrownTold w (.returned (.agg #[.slice s.a m.pairs.length s.cap, .slice s.a2 m.sess.length s.cap2])) ((wr.setCell ⟨w.heap.size, 0, none⟩ (.slice s.a m.pairs.length s.cap)).setCell ⟨w.heap.size, 1, none⟩ (.slice s.a2 m.sess.length s.cap2))) := by
        have hk : Kept (Only w.heap.size) wr ((wr.setCell ⟨w.heap.size, 0, none⟩ (.slice s.a m.pairs.length s.cap)).setCell ⟨w.heap.size, 1, none⟩ (.slice s.a2 m.sess.length s.cap2)) := ((Kept.refl (Only w.heap.size) wr).setAt (.inl rfl) _ _).setAt (.inl rfl) _ _
        exact ⟨s, m, bp, bq, rfl, ⟨OwnC.kept HG.out.made.op hk (fun ha e => by have := HG.out.lo1 ha; have e : bp = w.heap.size := e; omega), OwnC.kept HG.out.made.oq hk (fun ha e => by have := HG.out.lo2 ha; have e : bq = w.heap.size := e; omega), HG.out.made.lo1, HG.out.made.lo2, HG.out.made.ne⟩, HG.out.right, HG.out.fit, (HG.out.beh.set (Nat.le_refl _) _ _).set (Nat.le_refl _) _ _⟩
      rcases hstop with ⟨e1, e2⟩ | ⟨e1, e2, e3, e4⟩
      all_goals
        go_wp2_with fail
        (try simp only [Exit.inBlock, Exit.then])
        refine bodyPost_ret (v := .agg #[.slice s.a m.pairs.length s.cap, .slice s.a2 m.sess.length s.cap2]) ?_ rfl hend.out
        rw [results_cell_one rfl]
        go_simp
end Go.Proofs.YtlgmjkbaihpmmaaGreat.Ss
end
section
/- SessBack's walk. -/
namespace Go.Proofs.YtlgmjkbaihpmmaaGreat.Ss
open Go Go.RowKit Vl Kv Mem Nm
attribute [local go_sem] run_bits run_frombits run_store_float

set_option maxHeartbeats 6400000 in
set_option maxRecDepth 100000 in
theorem SessBack_any (a : Option Addr) (cap : Nat) (C : List Cl) (bb : Nat) (ba : Option Addr) (bcap : Nat) (B : List Nat) (w : World) (h : CallsAt w a C) (hB : Src w bb ba bcap B) (h8 : B8 B) :
    Calls Tryz.prog 4 #[.slice a C.length cap, .slice ba B.length bcap] w fun e w' => e = .returned (.bool true) ∧ Beh w w' := by
  have HI := Lib.hid h
  have HBS := Lib.hid hB
  have H8 := Lib.hid h8
  clear h hB h8
  by_cases hl : C.length ≤ 1000
  case neg =>
    have d1 : decide ((1000 : Int) < (C.length : Int)) = true := decide_eq_true (by omega)
    go_enter Tryz.func4, Tryz.ntmps4
    go_wp2_with fail
    go_ret
    exact ⟨rfl, Beh.start _⟩
  have d1 : decide ((1000 : Int) < (C.length : Int)) = false := decide_eq_false (by omega)
  by_cases hlb : B.length ≤ 32768
  case neg =>
    have d2 : decide ((32768 : Int) < (B.length : Int)) = true := decide_eq_true (by omega)
    go_enter Tryz.func4, Tryz.ntmps4
    go_wp2_with fail
    go_ret
    exact ⟨rfl, Beh.start _⟩
  have d2 : decide ((32768 : Int) < (B.length : Int)) = false := decide_eq_false (by omega)
  go_enter Tryz.func4, Tryz.ntmps4
  go_wp2_with fail
  refine Calls.mono (SGrown_any a cap C _ HI.out hl) ?_
  rintro e w1 ⟨s, m, bp, bq, rfl, hm, hr, hf, hb⟩
  have HM := Lib.hid hm.at_
  have HR := Lib.hid hr
  have HF := Lib.hid hf
  have HB1 := Lib.hid hb
  have hnp := hr.np
  have HLEN := Lib.hid hr.len
  have HE8 := Lib.hid (encM_b8 m)
  have HDE := Lib.hid (decM_enc hr hf)
  have HSM := Lib.hid (sameM_refl m)
  have HEN : Hid (∀ W, Beh w1 W → Calls Tryz.prog 7 #[.agg #[.slice s.a m.pairs.length s.cap, .slice s.a2 m.sess.length s.cap2]] W fun e w' => ∃ b a cap, e = .returned (.tuple #[.slice a (encM m).length cap, .int .i64 0]) ∧ OwnB 5 w' b a cap (encM m) ∧ W.heap.size ≤ b ∧ Beh W w') := fun W hb => Encode_right s m W (HM.out.on hb) HR.out
  have HO1 := Lib.hid (alloc_here (w := w1) (s.obj m) rfl)
  clear hm hr hf hb
  generalize hE : encM m = E at *
  clear hE
  obtain ⟨L, S⟩ := m
  obtain ⟨a1, cap1, a2, cap2⟩ := s
  unfold Ms.obj at HO1
  dsimp only at HO1 HEN hnp
  go_wp2_with fail
  refine Calls.mono (HEN.out _ ((Beh.start w1).alloc _)) ?_
  rintro e w2 ⟨bE, aE, cE, rfl, ho, _, hb⟩
  have HOE := Lib.hid ho
  have HB2 := Lib.hid (((Beh.start w1).alloc (.cells #[.slice a1 L.length cap1, .slice a2 S.length cap2] 25)).trans hb)
  have HO2 := Lib.hid (hb.box HO1.out)
  clear ho hb HEN HO1
  have HDC := Lib.hid (Decode_any bE aE cE E w2 HOE.out.src HE8.out (by have := HLEN.out; omega))
  unfold DecTold at HDC
  rw [HDE.out] at HDC
  go_wp2_with fail
  refine Calls.mono HDC.out ?_
  rintro e w3 ⟨t, bp2, bq2, rfl, hm, hb⟩
  have HMT := Lib.hid hm.at_
  have HB3 := Lib.hid (HB2.out.trans hb)
  have HO3 := Lib.hid (hb.box HO2.out)
  have HT3 := Lib.hid (alloc_here (w := w3) (t.obj ⟨L, S⟩) rfl)
  have HKP := Lib.hid (keepM_any t ⟨L, S⟩ ⟨a1, cap1, a2, cap2⟩ ⟨L, S⟩ (w3.alloc (t.obj ⟨L, S⟩)) (HMT.out.on ((Beh.start w3).alloc _)) (HM.out.on (HB3.out.alloc _)) (by show L.length ≤ _; omega))
  rw [HSM.out] at HKP
  obtain ⟨ta, tcap, ta2, tcap2⟩ := t
  unfold Ms.obj at HT3 HKP
  dsimp only at HT3 HKP
  obtain ⟨m0, m1⟩ := cells2 HO3.out
  have m0a := fun o => cellOn ((Beh.start _).alloc o) m0
  have m1a := fun o => cellOn ((Beh.start _).alloc o) m1
  clear hm hb HDC
  go_wp2_with fail
  refine Calls.mono HKP.out ?_
  rintro e w4 ⟨rfl, hb⟩
  have HB4 := Lib.hid ((HB3.out.alloc (.cells #[.slice ta L.length tcap, .slice ta2 S.length tcap2] 25)).trans hb)
  have HT4 := Lib.hid (hb.box HT3.out)
  have hlt4 := heap_lt HT4.out
  have HSB := Lib.hid (HBS.out.kept (kept_beh (HB1.out.trans HB4.out)) (fun _ h => h))
  clear hb m0 m1 m0a m1a HKP
  have HDB := Lib.hid (Decode_any bb ba bcap B w4 HSB.out H8.out (by omega))
  have HCB := Lib.hid (decM_cases B)
  have HFB := Lib.hid (readM_fit H8.out)
  obtain ⟨n0, n1⟩ := cells2 HT4.out
  go_wp2_with fail
  refine Calls.mono HDB.out ?_
  rintro e w5 ⟨u, bp3, bq3, rfl, hm, hb⟩
  have HMU := Lib.hid hm.at_
  have HB5 := Lib.hid (HB4.out.trans hb)
  have HT5 := Lib.hid (hb.box HT4.out)
  obtain ⟨n0, n1⟩ := cells2 HT5.out
  have f0 := frozen_of HT5.out 0
  have f1 := frozen_of HT5.out 1
  have hs3 := HB3.out.size
  rcases HCB.out with ⟨hd, _⟩ | ⟨hd, hrr, hee⟩
  · rw [hd]
    clear hd hm hb HDB HMU HCB
    obtain ⟨ua, ucap, ua2, ucap2⟩ := u
    go_wp2_with fail
    refine Calls.mono (Swakes_any _) ?_
    rintro e w6 ⟨rfl, hb⟩
    have HE := Lib.hid (HB1.out.trans ((((HB5.out.set (show w1.heap.size ≤ w3.heap.size by omega) 0 _).set (show w1.heap.size ≤ w3.heap.size by omega) 1 _)).trans hb))
    go_wp2_with fail
    go_ret
    exact ⟨rfl, HE.out⟩
  · rw [hd] at hm ⊢
    clear hd HCB HDB HMU
    have hlow : w4.heap.size ≤ w5.heap.size := hb.size
    generalize readM B = mb at *
    obtain ⟨LB, SB⟩ := mb
    have HU := Lib.hid hm
    have HRB := Lib.hid hrr
    have HEB := Lib.hid hee
    obtain ⟨ua, ucap, ua2, ucap2⟩ := u
    have HME : Hid (∀ x y : Value, MadeM w4 ((w5.setCell ⟨w3.heap.size, 0, none⟩ x).setCell ⟨w3.heap.size, 1, none⟩ y) ⟨ua, ucap, ua2, ucap2⟩ ⟨LB, SB⟩ bp3 bq3) := fun x y => MadeM.twice (a := w3.heap.size) (b := w3.heap.size) HU.out (((Kept.refl _ _).setAt (.inl (by simp)) _ _).setAt (.inl (by simp)) _ _) (fun ha => by have := HU.out.lo1 ha; omega) (fun ha => by have := HU.out.lo2 ha; omega)
    have HES : Hid (∀ x y : Value, Calls Tryz.prog 7 #[.agg #[.slice ua LB.length ucap, .slice ua2 SB.length ucap2]] ((w5.setCell ⟨w3.heap.size, 0, none⟩ x).setCell ⟨w3.heap.size, 1, none⟩ y) fun e w' => ∃ b a cap, e = .returned (.tuple #[.slice a (encM ⟨LB, SB⟩).length cap, .int .i64 0]) ∧ OwnB 5 w' b a cap (encM ⟨LB, SB⟩) ∧ ((w5.setCell ⟨w3.heap.size, 0, none⟩ x).setCell ⟨w3.heap.size, 1, none⟩ y).heap.size ≤ b ∧ Beh ((w5.setCell ⟨w3.heap.size, 0, none⟩ x).setCell ⟨w3.heap.size, 1, none⟩ y) w') := fun x y => Encode_right ⟨ua, ucap, ua2, ucap2⟩ ⟨LB, SB⟩ _ (HME.out x y).at_ HRB.out
    have HBE : Hid (∀ x y : Value, Beh w1 ((w5.setCell ⟨w3.heap.size, 0, none⟩ x).setCell ⟨w3.heap.size, 1, none⟩ y)) := fun x y => (HB5.out.set (show w1.heap.size ≤ w3.heap.size by omega) 0 _).set (show w1.heap.size ≤ w3.heap.size by omega) 1 _
    clear hm hb hrr hee
    dsimp only
    go_wp2_with fail
    refine Calls.mono (HES.out _ _) ?_
    rintro e w6 ⟨bX, aX, cX, rfl, ho, _, hb⟩
    rw [HEB.out] at ho ⊢
    have HB6 := Lib.hid (HB1.out.trans ((HBE.out _ _).trans hb))
    have HKB := Lib.hid (Pk.KBytes_any bX aX cX B bb ba bcap B w6 ho.src (HBS.out.kept (kept_beh HB6.out) (fun _ h => h)) (by omega) (by omega))
    unfold Pk.SameB at HKB
    rw [decide_eq_true rfl] at HKB
    clear ho hb
    go_wp2_with fail
    refine Calls.mono HKB.out ?_
    rintro e w7 ⟨rfl, nd, rfl⟩
    go_wp2_with fail
    refine Calls.mono (Swakes_any _) ?_
    rintro e w8 ⟨rfl, hb⟩
    have HE := Lib.hid ((HB6.out.drewN nd).trans hb)
    go_wp2_with fail
    go_ret
    exact ⟨rfl, HE.out⟩
theorem SessBack_law (a : Option Addr) (len cap : Nat) (ba : Option Addr) (blen bcap : Nat) (W : World) (h0 : ∃ C : List Cl, C.length = len ∧ CallsAt W a C) (h1 : Pk.BytesIn W ba blen bcap) :
    Calls Tryz.prog 4 #[.slice a len cap, .slice ba blen bcap] W fun e w' => e = .returned (.bool true) ∧ Below W.heap.size W w' := by
  obtain ⟨C, rfl, hC⟩ := h0
  obtain ⟨b, l, rfl, hs, h8⟩ := h1
  exact SessBack_any a cap C b ba bcap l W hC hs h8
end Go.Proofs.YtlgmjkbaihpmmaaGreat.Ss
end
section
/- SessCuts' walk. -/
namespace Go.Proofs.YtlgmjkbaihpmmaaGreat.Ss
open Go Go.RowKit Vl Kv Mem Nm
attribute [local go_sem] run_bits run_frombits run_store_float
attribute [local irreducible] wpQuiet

theorem encM_pos (m : Ma) : 0 < (encM m).length := by
  unfold encM
  rw [List.length_append]
  have := (Pk.intB_len (m.pairs.length : Int)).1
  omega
theorem decM_cut {m : Ma} (h : RightM m) (hf : FitM m) {p : Nat} (hp : p < (encM m).length) : decM ((encM m).take p) = (Ma.zero, 6) := by
  rcases decM_cases ((encM m).take p) with ⟨he, _⟩ | ⟨_, hr, he⟩
  · exact he
  · have hd : encM (readM ((encM m).take p)) ++ (encM m).drop p = encM m := by rw [he, List.take_append_drop]
    have := (encM_pre hr (readM_fit ((encM_b8 m).take p)) h hf hd).2
    rw [List.drop_eq_nil_iff] at this
    omega
theorem decM_more {m : Ma} (h : RightM m) (hf : FitM m) {x : Nat} (hx : x < 256) : decM (encM m ++ [x]) = (Ma.zero, 6) := by
  rcases decM_cases (encM m ++ [x]) with ⟨he, _⟩ | ⟨_, hr, he⟩
  · exact he
  · have h8 : B8 (encM m ++ [x]) := (encM_b8 m).append (by intro y hy; simp at hy; omega)
    have := (encM_pre h hf hr (readM_fit h8) he.symm).2
    cases this
theorem sameM_enc {m n : Ma} (hm : RightM m) (fm : FitM m) (hn : RightM n) (fn : FitM n) : sameM m n = decide (encM m = encM n) := by
  by_cases h : m = n
  · subst h; rw [sameM_refl, decide_eq_true rfl]
  · rw [decide_eq_false (fun e => h (encM_inj hm fm hn fn e))]
    cases hs : sameM m n
    · rfl
    · exact absurd ((sameM_iff hm hn).1 hs) h
theorem shows_lit (w : World) (t : TypeId) (v : Int) (x : Nat) (hv : v = (x : Int)) : Src (w.alloc (.cells #[.int .u8 v] t)) w.heap.size (some ⟨w.heap.size, 0, none⟩) 1 [x] := by
  subst hv
  exact (Pk.shows_made (m := [x]) (cap := 1) (heap_alloc_new w _) rfl (Nat.le_refl 1) (by decide)).src

set_option maxHeartbeats 6400000 in
set_option maxRecDepth 100000 in
theorem SessCuts_any (a : Option Addr) (cap : Nat) (C : List Cl) (ak : Option Addr) (capk : Nat) (K : List Cl) (AT : Int) (M : Nat) (w : World) (h : CallsAt w a C) (hk : CallsAt w ak K) (hM : M < 256) :
    Calls Tryz.prog 5 #[.slice a C.length cap, .slice ak K.length capk, .int .i64 AT, .int .u8 M] w fun e w' => e = .returned (.bool true) ∧ Beh w w' := by
  obtain ⟨i0, hi0, hz0, hz1, hz2⟩ := info_parts Pk.infoU8
  have HI := Lib.hid h
  have HJ := Lib.hid hk
  clear h hk
  by_cases hl : C.length ≤ 1000
  case neg =>
    have d1 : decide ((1000 : Int) < (C.length : Int)) = true := decide_eq_true (by omega)
    go_enter Tryz.func5, Tryz.ntmps5
    go_wp2_with fail
    go_ret
    exact ⟨rfl, Beh.start _⟩
  have d1 : decide ((1000 : Int) < (C.length : Int)) = false := decide_eq_false (by omega)
  by_cases hl2 : K.length ≤ 1000
  case neg =>
    have d2 : decide ((1000 : Int) < (K.length : Int)) = true := decide_eq_true (by omega)
    go_enter Tryz.func5, Tryz.ntmps5
    go_wp2_with fail
    go_ret
    exact ⟨rfl, Beh.start _⟩
  have d2 : decide ((1000 : Int) < (K.length : Int)) = false := decide_eq_false (by omega)
  go_enter Tryz.func5, Tryz.ntmps5
  go_wp2_with fail
  refine Calls.mono (SGrown_any a cap C _ HI.out hl) ?_
  rintro e w1 ⟨s, m, bp, bq, rfl, hm, hr, hf, hb⟩
  have HM := Lib.hid hm.at_
  have HR := Lib.hid hr
  have HF := Lib.hid hf
  have HB1 := Lib.hid hb
  have HLEN := Lib.hid hr.len
  have HJ1 := Lib.hid (HJ.out.below hb)
  clear hm hr hf hb
  obtain ⟨b1, cap1, b2, cap2⟩ := s
  go_wp2_with fail
  refine Calls.mono (SGrown_any ak capk K _ HJ1.out hl2) ?_
  rintro e w2 ⟨t, n, bp', bq', rfl, hm, hr, hf, hb⟩
  have HN := Lib.hid hm.at_
  have HS := Lib.hid (sameM_enc HR.out HF.out hr hf)
  have HLN := Lib.hid hr.len
  have HB2 := Lib.hid (HB1.out.trans hb)
  have HM2 := Lib.hid (HM.out.on hb)
  have HE8 := Lib.hid (encM_b8 m)
  have hpos := encM_pos m
  have HCUT : Hid (∀ p, p < (encM m).length → decM ((encM m).take p) = (Ma.zero, 6)) := fun p hp => decM_cut HR.out HF.out hp
  have HMORE := Lib.hid (decM_more HR.out HF.out hM)
  have HEM : Hid (∀ W, Beh w2 W → Calls Tryz.prog 7 #[.agg #[.slice b1 m.pairs.length cap1, .slice b2 m.sess.length cap2]] W fun e w' => ∃ b a cap, e = .returned (.tuple #[.slice a (encM m).length cap, .int .i64 0]) ∧ OwnB 5 w' b a cap (encM m) ∧ W.heap.size ≤ b ∧ Beh W w') := fun W hb => Encode_right ⟨b1, cap1, b2, cap2⟩ m W (HM2.out.on hb) HR.out
  have HNR := Lib.hid hr
  obtain ⟨c1, dap1, c2, dap2⟩ := t
  have HEN : Hid (∀ W, Beh w2 W → Calls Tryz.prog 7 #[.agg #[.slice c1 n.pairs.length dap1, .slice c2 n.sess.length dap2]] W fun e w' => ∃ b a cap, e = .returned (.tuple #[.slice a (encM n).length cap, .int .i64 0]) ∧ OwnB 5 w' b a cap (encM n) ∧ W.heap.size ≤ b ∧ Beh W w') := fun W hb => Encode_right ⟨c1, dap1, c2, dap2⟩ n W (HN.out.on hb) HNR.out
  have HKP : Hid (∀ W, Beh w2 W → Calls Tryz.prog 15 #[.agg #[.slice b1 m.pairs.length cap1, .slice b2 m.sess.length cap2], .agg #[.slice c1 n.pairs.length dap1, .slice c2 n.sess.length dap2]] W fun e w' => e = .returned (.bool (decide (encM m = encM n))) ∧ Beh W w') := fun W hb => by
    have := keepM_any ⟨b1, cap1, b2, cap2⟩ m ⟨c1, dap1, c2, dap2⟩ n W (HM2.out.on hb) (HN.out.on hb) (by have := HR.out.np; omega)
    rw [HS.out] at this
    exact this
  clear hm hr hf hb HM HR HF HN HS HM2 HNR HJ HJ1 HI
  generalize encM m = E at *
  generalize encM n = F at *
  obtain ⟨L, S⟩ := m
  obtain ⟨L2, S2⟩ := n
  dsimp only at HEM HEN HKP
  have HO1 : Hid (((w2.alloc (.cells #[.slice b1 L.length cap1, .slice b2 S.length cap2] 25)).alloc (.cells #[.slice c1 L2.length dap1, .slice c2 S2.length dap2] 25)).heap[w2.heap.size]? = some (.cells #[.slice b1 L.length cap1, .slice b2 S.length cap2] 25)) := old_alloc _ (alloc_here _ rfl)
  have HO2 : Hid (((w2.alloc (.cells #[.slice b1 L.length cap1, .slice b2 S.length cap2] 25)).alloc (.cells #[.slice c1 L2.length dap1, .slice c2 S2.length dap2] 25)).heap[w2.heap.size + 1]? = some (.cells #[.slice c1 L2.length dap1, .slice c2 S2.length dap2] 25)) := alloc_here _ (by simp)
  go_wp2_with fail
  refine Calls.mono (HEM.out _ (((Beh.start w2).alloc _).alloc _)) ?_
  rintro e w3 ⟨bE, aE, cE, rfl, ho, _, hb⟩
  have HOE := Lib.hid ho
  have HB3 := Lib.hid ((((Beh.start w2).alloc (.cells #[.slice b1 L.length cap1, .slice b2 S.length cap2] 25)).alloc (.cells #[.slice c1 L2.length dap1, .slice c2 S2.length dap2] 25)).trans hb)
  have HP1 := Lib.hid (hb.box HO1.out)
  have HP2 := Lib.hid (hb.box HO2.out)
  clear ho hb HO1 HO2 HEM
  obtain ⟨n0, n1⟩ := cells2 HP2.out
  go_wp2_with fail
  refine Calls.mono (HEN.out _ HB3.out) ?_
  rintro e w4 ⟨bF, aF, cF, rfl, ho, _, hb⟩
  have HOF := Lib.hid ho
  have HSE : Hid (Src w4 bE aE cE E) := HOE.out.src.kept (kept_beh hb) (fun _ h => h)
  have hcapE := HOE.out.shows.1
  have hcapE2 := HOE.out.shows.2.1
  have HFIT : Hid (∀ p, p < E.length → ∀ W, Beh w3 W → Src W bE aE cE (E.take p)) := fun p hp W hb => (Pk.fits_left (HOE.out.kept (kept_beh hb) (fun _ h => h)).shows (by omega)).src
  obtain ⟨adE, rfl⟩ : ∃ ad, aE = some ad := by
    cases aE
    · rcases HOE.out with h | h
      · have := h.2.2; rw [this] at hpos; simp at hpos
      · cases h.1
    · exact ⟨_, rfl⟩
  have HB4 := Lib.hid (HB3.out.trans hb)
  have HB34 := Lib.hid hb
  have HO1 := Lib.hid (hb.box HP1.out)
  have HO2 := Lib.hid (hb.box HP2.out)
  clear ho hb HP1 HP2 HEN n0 n1 HOE
  have HKB : Hid (∀ W, Beh w4 W → Calls Tryz.prog 9 #[.slice (some adE) E.length cE, .slice aF F.length cF] W fun e w' => e = .returned (.bool (decide (E = F))) ∧ Beh W w') := fun W hb =>
    (Pk.KBytes_any bE (some adE) cE E bF aF cF F W (HSE.out.kept (kept_beh hb) (fun _ h => h)) (HOF.out.src.kept (kept_beh hb) (fun _ h => h)) (by have := HLEN.out; omega) (by have := HLN.out; omega)).mono fun e w' ⟨he, nd, hw⟩ => ⟨he, by rw [hw]; exact (Beh.start W).drewN nd⟩
  have hle := HLEN.out
  have hbe : ((E.length : Int) == 0) = false := beq_eq_false_iff_ne.2 (by omega)
  generalize decide (E = F) = same at *
  have hne : (same != same) = false := by cases same <;> rfl
  go_wp2_with fail
  refine wp_region_quiet (C := Beh w4) (by kernel_rfl) (by kernel_rfl) (Beh.start _).drew ?_
  repeat (first
    | (refine BigFrame.wpQuiet_skip (by exact Eq.refl false) ?_
       ((try simp only [Act.put]); (try simp only [List.setIfInBounds_toArray]); (try simp only [List.set_cons_zero, List.set_cons_succ])))
    | (refine BigFrame.wpQuiet_want (by exact Eq.refl true) (fun K hK => ?_)
       first
       | (refine quiet_move2 _ rfl (by go_simp; rfl) ?_; refine hK _ ?_)
       | (apply Exists.intro
          refine ⟨fun wq hq => ?_, hK _ ?_⟩
          · ((obtain ⟨m0, m1⟩ := cells2 (hq.box HO1.out)); (obtain ⟨n0, n1⟩ := cells2 (hq.box HO2.out))
             have HQ := Lib.hid hq
             clear hq
             unfold Oper.quietAt
             go_simp
             first
             | rfl
             | (go_at_call 9; exact (HKB.out _ HQ.out).mono (fun e w' ⟨he, hb⟩ => ⟨he, HQ.out.trans hb⟩))
             | (go_at_call 15; exact (HKP.out _ (HB4.out.trans HQ.out)).mono (fun e w' ⟨he, hb⟩ => ⟨he, HQ.out.trans hb⟩))))
       clear hK K
       ((try simp only [Act.put]); (try simp only [List.setIfInBounds_toArray]); (try simp only [List.set_cons_zero, List.set_cons_succ]); (try simp only [hne]))))
  refine wpQuiet_nil ?_
  intro w5 hq
  have HB5 := Lib.hid hq
  clear hq
  obtain ⟨p, hp, hpe⟩ : ∃ p : Nat, p < E.length ∧ (IntKind.u64.wrap AT).tmod (E.length : Int) = (p : Int) := by
    have h0 : 0 ≤ IntKind.u64.wrap AT := by simp [IntKind.wrap, IntKind.bits, IntKind.signed]; omega
    refine ⟨((IntKind.u64.wrap AT).tmod (E.length : Int)).toNat, ?_, ?_⟩
    · have := Int.tmod_lt_of_pos (IntKind.u64.wrap AT) (b := (E.length : Int)) (by omega)
      omega
    · have := Int.tmod_nonneg (E.length : Int) h0
      omega
  have HTL : Hid ((E.take p).length = p) := by show _ = _; rw [List.length_take]; omega
  have HD1 : Hid (∀ W, Beh w4 W → Calls Tryz.prog 12 #[.slice (some adE) p cE] W fun e w' => ∃ t : Ms, e = .returned (.tuple #[t.agg Ma.zero, .int .i64 6]) ∧ Beh W w') := fun W hb => by
    have := Decode_any bE (some adE) cE (E.take p) W (HFIT.out p hp _ (HB34.out.trans hb)) (HE8.out.take _) (by rw [HTL.out]; omega)
    rw [HTL.out] at this
    unfold DecTold at this
    rw [HCUT.out p hp] at this
    exact this.mono fun e w' ⟨t, _, _, he, _, hb⟩ => ⟨t, he, hb⟩
  have HTW : Hid (∀ W, Beh w4 W → Calls Tryz.prog 11 #[.slice (some adE) E.length cE] W (Pk.NewB E W)) := fun W hb => Pk.Twin_any bE (some adE) cE E W (HSE.out.kept (kept_beh hb) (fun _ h => h)) (by omega)
  clear HCUT HFIT
  go_wp2_with fail
  refine Calls.mono (HD1.out _ HB5.out) ?_
  rintro e w6 ⟨t6, rfl, hb⟩
  have HB6 := Lib.hid (HB5.out.trans hb)
  clear hb HD1
  go_wp2_with fail
  refine Calls.mono (HTW.out _ HB6.out) ?_
  rintro e w7 ⟨b7, a7, cap7, rfl, ho7, hb7, k7, _⟩
  have HO7 := Lib.hid ho7
  have HK7 := Lib.hid k7
  clear ho7 k7 HTW
  go_wp2_with (at_builtin; refine wpList_append_bytes rfl _ _ 26 rfl 5 i0 Tryz.underlying26 hi0 hz0 hz1 hz2 b7 a7 cap7 E _ rfl (HO7.out.kept ((Kept.refl Mem.None _).alloc _) (fun _ h => h)) rfl w7.heap.size _ 1 [M] 1 rfl (shows_lit w7 _ _ _ rfl) rfl (by omega) ?_)
  intro b9 a9 cap9 w8 h2 h3 h4 h5
  have HS9 : Hid (Src w8 b9 a9 cap9 (E ++ [M])) := h2.src
  have HB8 : Hid (Beh w4 w8) := HB6.out.trans (beh_kept ((HK7.out.alloc _).trans' h3 (fun x hx => .inr (by rw [hx.2]; exact hb7))))
  clear h2 h3 h4 h5 HO7 HK7
  have HD2 : Hid (Calls Tryz.prog 12 #[.slice a9 (E.length + 1) cap9] w8 fun e w' => ∃ t : Ms, e = .returned (.tuple #[t.agg Ma.zero, .int .i64 6]) ∧ Beh w8 w') := by
    have := Decode_any b9 a9 cap9 (E ++ [M]) w8 HS9.out (HE8.out.append (by intro y hy; simp at hy; omega)) (by rw [List.length_append]; simp; omega)
    rw [show (E ++ [M]).length = E.length + 1 from by simp] at this
    unfold DecTold at this
    rw [HMORE.out] at this
    exact this.mono fun e w' ⟨t, _, _, he, _, hb⟩ => ⟨t, he, hb⟩
  go_wp2_with fail
  refine Calls.mono HD2.out ?_
  rintro e w9 ⟨t9, rfl, hb⟩
  have HB9 := Lib.hid (HB8.out.trans hb)
  clear hb HD2
  go_wp2_with fail
  refine Calls.mono (Swakes_any _) ?_
  rintro e w10 ⟨rfl, hb⟩
  have HE := Lib.hid (HB2.out.trans ((HB4.out.trans HB9.out).trans hb))
  go_wp2_with fail
  go_ret
  exact ⟨rfl, HE.out⟩
theorem byte_bounds {n : Int} (h : (Lit.int .u8 n).wf = true) : 0 ≤ n ∧ n ≤ 255 := by
  have h2 : IntKind.u8.min ≤ n ∧ n ≤ IntKind.u8.max := by simpa [Lit.wf] using h
  exact h2
theorem SessCuts_law (a : Option Addr) (len cap : Nat) (ak : Option Addr) (klen kcap : Nat) (at_ m : Int) (W : World) (h0 : ∃ C : List Cl, C.length = len ∧ CallsAt W a C) (h1 : ∃ C : List Cl, C.length = klen ∧ CallsAt W ak C) (_w2 : (Lit.int .i64 at_).wf = true) (w3 : (Lit.int .u8 m).wf = true) :
    Calls Tryz.prog 5 #[.slice a len cap, .slice ak klen kcap, .int .i64 at_, .int .u8 m] W fun e w' => e = .returned (.bool true) ∧ Below W.heap.size W w' := by
  obtain ⟨C, rfl, hC⟩ := h0
  obtain ⟨K, rfl, hK⟩ := h1
  have hb := byte_bounds w3
  obtain ⟨M, rfl⟩ : ∃ M : Nat, m = M := ⟨m.toNat, by omega⟩
  exact SessCuts_any a cap C ak kcap K at_ M W hC hK (by omega)
end Go.Proofs.YtlgmjkbaihpmmaaGreat.Ss
end
