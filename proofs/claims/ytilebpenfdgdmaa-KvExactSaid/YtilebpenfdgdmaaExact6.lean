/- KvExact's walk. -/
import Derived.Test.YtilebpenfdgdmaaGrown6
import Derived.Test.YtilebpenfdgdmaaKeep6
import Derived.Test.YtilebpenfdgdmaaRefCmd6
import Derived.Test.YtilebpenfdgdmaaCmds7
import Derived.Test.YtilebpenfdgdmaaChk6
import Derived.Test.YtilebpenfdgdmaaRefPairs6
import Derived.Test.YtilebpenfdgdmaaGet6
import Derived.Test.YtilebpenfdgdmaaSpoil6
import Derived.Test.YtilebpenfdgdmaaRefDo6
import Derived.Test.YtilebpenfdgdmaaDoAll6
import Derived.Test.YtilebpenfdgdmaaParts6
namespace Go.Proofs.Ytilebpenfdgdmaa.Kv
open Go Go.RowKit Vl Nm Mem
attribute [local go_sem] run_bits run_frombits run_store_float
attribute [local irreducible] wpQuiet

theorem doing_short {L : List Pr} {c : Cm} (h : L.length ≤ 200) : (doing L c).L.length ≤ 200 := by
  unfold doing
  split
  · exact h
  · split
    · exact h
    · unfold put
      split
      · exact h
      · split
        · exact h
        · rename_i h2
          show (set L c.key (act (get L c.key) c).next).length ≤ 200
          omega
theorem heavyP_len {L : List Pr} (h : heavyP L = false) : L.length ≤ 200 := by
  unfold heavyP at h
  have := (Bool.or_eq_false_iff.1 h).1
  have := of_decide_eq_false this
  omega
theorem sameR_self (c : Int) (u : V) : sameR c c u u = true := by simp [sameR, V.same_refl]
set_option maxHeartbeats 3200000 in
theorem KvExact_any (a : Option Addr) (cap : Nat) (L : List Pr) (c : Cm) (key : ByteArray) (w : World) (h : PairsAt w a cap L) (hF : Fits L) (hc : c.ok) :
    Calls Try.prog 3 #[.slice a L.length cap, c.agg, .string key] w fun e w' => e = .returned (.bool true) ∧ Beh w w' := by
  have HI := Lib.hid (h.alloc c.obj)
  have HFI := Lib.hid hF
  have HOK := Lib.hid hc
  have HK := Lib.hid (Ck.start w c)
  have HHV := fun w => Lib.hid (heavyCmd_any c w)
  have HHP := Lib.hid (heavyPairs_any a cap L (w.alloc c.obj) HI.out)
  have HPL : Hid (heavyP L = false → L.length ≤ 200) := heavyP_len
  obtain ⟨hv, hhv⟩ : ∃ v, c.heavy = v := ⟨_, rfl⟩
  obtain ⟨hp, hhp⟩ : ∃ v, heavyP L = v := ⟨_, rfl⟩
  rw [hhv] at HHV
  rw [hhp] at HHP HPL
  clear hhv hhp h hc hF
  cases hp
  case true =>
    obtain ⟨k, ckey, ⟨ok, on, os⟩, ⟨vk, vn, vs⟩⟩ := c
    have HHP : Hid (Calls Try.prog 11 #[.slice a L.length cap] (w.alloc (.cells #[.int .i64 k, .string ckey, .int .i64 ok, .float .f64 on, .string os, .int .i64 vk, .float .f64 vn, .string vs] 27)) fun e w' => e = .returned (.bool true) ∧ w.alloc (.cells #[.int .i64 k, .string ckey, .int .i64 ok, .float .f64 on, .string os, .int .i64 vk, .float .f64 vn, .string vs] 27) = w') := HHP.out
    have HI : Hid (PairsAt (w.alloc (.cells #[.int .i64 k, .string ckey, .int .i64 ok, .float .f64 on, .string os, .int .i64 vk, .float .f64 vn, .string vs] 27)) a cap L) := HI.out
    go_enter Try.func3, Try.ntmps3
    go_wp2_with (first | (go_at_call 11; refine Calls.mono HHP.out ?_; rintro e _ ⟨rfl, rfl⟩))
    go_ret
    exact ⟨rfl, HK.out.beh⟩
  have hlen : L.length ≤ 200 := HPL.out rfl
  clear HPL
  cases hv
  case true =>
    obtain ⟨k, ckey, ⟨ok, on, os⟩, ⟨vk, vn, vs⟩⟩ := c
    have HHP : Hid (Calls Try.prog 11 #[.slice a L.length cap] (w.alloc (.cells #[.int .i64 k, .string ckey, .int .i64 ok, .float .f64 on, .string os, .int .i64 vk, .float .f64 vn, .string vs] 27)) fun e w' => e = .returned (.bool false) ∧ w.alloc (.cells #[.int .i64 k, .string ckey, .int .i64 ok, .float .f64 on, .string os, .int .i64 vk, .float .f64 vn, .string vs] 27) = w') := HHP.out
    have HI : Hid (PairsAt (w.alloc (.cells #[.int .i64 k, .string ckey, .int .i64 ok, .float .f64 on, .string os, .int .i64 vk, .float .f64 vn, .string vs] 27)) a cap L) := HI.out
    go_enter Try.func3, Try.ntmps3
    go_wp2_with (first | (go_at_call 11; refine Calls.mono HHP.out ?_; rintro e _ ⟨rfl, rfl⟩) | (go_at_call 12; refine ((HHV _).out).mono ?_; rintro e w' ⟨rfl, hb⟩; (have HK := Lib.hid (HK.out.on hb)); clear hb))
    go_ret
    exact ⟨rfl, HK.out.beh⟩
  cases d2 : decide ((2000 : Int) < (key.size : Int))
  case true =>
    obtain ⟨k, ckey, ⟨ok, on, os⟩, ⟨vk, vn, vs⟩⟩ := c
    have HHP : Hid (Calls Try.prog 11 #[.slice a L.length cap] (w.alloc (.cells #[.int .i64 k, .string ckey, .int .i64 ok, .float .f64 on, .string os, .int .i64 vk, .float .f64 vn, .string vs] 27)) fun e w' => e = .returned (.bool false) ∧ w.alloc (.cells #[.int .i64 k, .string ckey, .int .i64 ok, .float .f64 on, .string os, .int .i64 vk, .float .f64 vn, .string vs] 27) = w') := HHP.out
    have HI : Hid (PairsAt (w.alloc (.cells #[.int .i64 k, .string ckey, .int .i64 ok, .float .f64 on, .string os, .int .i64 vk, .float .f64 vn, .string vs] 27)) a cap L) := HI.out
    go_enter Try.func3, Try.ntmps3
    go_wp2_with (first | (go_at_call 11; refine Calls.mono HHP.out ?_; rintro e _ ⟨rfl, rfl⟩) | (go_at_call 12; refine ((HHV _).out).mono ?_; rintro e w' ⟨rfl, hb⟩; (have HI := Lib.hid (HI.out.below hb)); (have HK := Lib.hid (HK.out.on hb)); clear hb))
    go_ret
    exact ⟨rfl, HK.out.beh⟩
  have HRG := fun w => Lib.hid (Right_any c w)
  have HRC := fun w => Lib.hid (refCmd_any c w)
  have HCH := fun w => Lib.hid (changes_any c w)
  generalize c.right = cr at HRG HRC
  have HDO : Hid (∀ ax cx wq, PairsAt wq ax cx L → Calls Try.prog 22 #[.slice ax L.length cx, c.agg] wq (DoTold wq (doing L c))) := fun ax cx wq hq => Do_told ax cx L c wq hq (by omega) HFI.out HOK.out.2
  have HRD : Hid (∀ ax cx wq, PairsAt wq ax cx L → Calls Try.prog 23 #[.slice ax L.length cx, c.agg] wq (DoTold wq (doing L c))) := fun ax cx wq hq => refDo_told ax cx L c wq hq (by omega) HFI.out HOK.out.2
  have hsD : (doing L c).L.length ≤ 200 := doing_short hlen
  generalize doing L c = D at *
  obtain ⟨k, ckey, ⟨ok, on, os⟩, ⟨vk, vn, vs⟩⟩ := c
  have HHP : Hid (Calls Try.prog 11 #[.slice a L.length cap] (w.alloc (.cells #[.int .i64 k, .string ckey, .int .i64 ok, .float .f64 on, .string os, .int .i64 vk, .float .f64 vn, .string vs] 27)) fun e w' => e = .returned (.bool false) ∧ w.alloc (.cells #[.int .i64 k, .string ckey, .int .i64 ok, .float .f64 on, .string os, .int .i64 vk, .float .f64 vn, .string vs] 27) = w') := HHP.out
  have HI : Hid (PairsAt (w.alloc (.cells #[.int .i64 k, .string ckey, .int .i64 ok, .float .f64 on, .string os, .int .i64 vk, .float .f64 vn, .string vs] 27)) a cap L) := HI.out
  dsimp only at HCH
  go_enter Try.func3, Try.ntmps3
  go_wp2_with (first | (go_at_call 11; refine Calls.mono HHP.out ?_; rintro e _ ⟨rfl, rfl⟩) | (go_at_call 12; refine ((HHV _).out).mono ?_; rintro e w' ⟨rfl, hb⟩; (have HI := Lib.hid (HI.out.below hb)); (have HK := Lib.hid (HK.out.on hb)); clear hb))
  refine Calls.mono (twin_any a cap L _ HI.out (by omega)) ?_
  rintro e w2 ⟨bi, ai, ci, rfl, hm⟩
  have PI := Lib.hid hm.pairs
  have PA := Lib.hid (HI.out.below hm.beh)
  have HHc : Hid (w2.heap[w.heap.size]? = some (.cells #[.int .i64 k, .string ckey, .int .i64 ok, .float .f64 on, .string os, .int .i64 vk, .float .f64 vn, .string vs] 27)) := box_on HK.out.b1 hm.beh
  have HW := Lib.hid (HK.out.beh.trans hm.beh)
  clear hm HI HK HHP
  have HRP : Hid (∀ ax cx wq, PairsAt wq ax cx L → Calls Try.prog 15 #[.slice ax L.length cx] wq fun e w' => e = .returned (.bool (rightP L)) ∧ Below wq.heap.size wq w') := fun ax cx wq hq => refPairs_any ax cx L wq hq (by omega)
  have HCK : Hid (∀ ax cx wq, PairsAt wq ax cx L → Calls Try.prog 14 #[.slice ax L.length cx] wq fun e w' => e = .returned (.int .i64 (if rightP L = true then 0 else 6)) ∧ Below wq.heap.size wq w') := fun ax cx wq hq => Check_any ax cx L wq hq
  have HGT : Hid (∀ ax cx wq, PairsAt wq ax cx L → Calls Try.prog 19 #[.slice ax L.length cx, .string key] wq fun e w' => e = .returned (get L key).val ∧ Below wq.heap.size wq w') := fun ax cx wq hq => Get_any ax cx L key wq hq (by omega)
  have HRT : Hid (∀ ax cx wq, PairsAt wq ax cx L → Calls Try.prog 20 #[.slice ax L.length cx, .string key] wq fun e w' => e = .returned (get L key).val ∧ Below wq.heap.size wq w') := fun ax cx wq hq => refGet_any ax cx L key wq hq (by omega)
  obtain ⟨r, hr⟩ : ∃ r, rightP L = r := ⟨_, rfl⟩
  obtain ⟨ck, hck⟩ : ∃ ck : Int, (if r = true then (0 : Int) else 6) = ck := ⟨_, rfl⟩
  rw [hr] at HRP HCK
  rw [hck] at HCK
  generalize get L key = g at *
  have s1 := V.same_refl g
  have e1 : (ck == 0) = r := by subst hck; cases r <;> rfl
  have e2 : (r != r) = false := by cases r <;> rfl
  have e6 : r = false → ck = 6 := fun h => by subst hck; rw [h]; rfl
  have H6 := Lib.hid e6
  clear hr hck e6
  go_wp2_with fail
  refine wp_region_quiet (C := Beh w2) (by kernel_rfl) (by kernel_rfl) (Beh.start _).drew ?_
  repeat (first
    | (refine BigFrame.wpQuiet_skip (by exact Eq.refl false) ?_
       ((try simp only [Act.put]); (try simp only [List.setIfInBounds_toArray]); (try simp only [List.set_cons_zero, List.set_cons_succ])))
    | (refine BigFrame.wpQuiet_want (by exact Eq.refl true) (fun K hK => ?_)
       first
       | (refine quiet_move2 _ rfl (by go_simp; rfl) ?_; refine hK _ ?_)
       | (apply Exists.intro
          refine ⟨fun wq hq => ?_, hK _ ?_⟩
          · ((obtain ⟨c0, c1, c2, c3, c4, c5, c6, c7⟩ := cells8 (hq.box HHc.out))
             have HQ := Lib.hid hq
             clear hq
             unfold Oper.quietAt
             go_simp
             first
             | rfl
             | (go_at_call 14; exact Calls.mono (HCK.out _ _ _ (PI.out.below HQ.out)) (fun e w' ⟨he, hb⟩ => ⟨he, HQ.out.on hb⟩)) | (go_at_call 15; exact Calls.mono (HRP.out _ _ _ (PA.out.below HQ.out)) (fun e w' ⟨he, hb⟩ => ⟨he, HQ.out.on hb⟩)) | (go_at_call 16; exact Calls.mono ((HRG _).out) (fun e w' ⟨he, hb⟩ => ⟨he, HQ.out.on hb⟩)) | (go_at_call 17; exact Calls.mono ((HRC _).out) (fun e w' ⟨he, hb⟩ => ⟨he, HQ.out.on hb⟩)) | (go_at_call 19; exact Calls.mono (HGT.out _ _ _ (PI.out.below HQ.out)) (fun e w' ⟨he, hb⟩ => ⟨he, HQ.out.on hb⟩)) | (go_at_call 20; exact Calls.mono (HRT.out _ _ _ (PA.out.below HQ.out)) (fun e w' ⟨he, hb⟩ => ⟨he, HQ.out.on hb⟩)) | (go_at_call 18; exact Calls.mono (keepValue_any g g _) (fun e w' ⟨he, hb⟩ => ⟨he, HQ.out.on hb⟩)) | (go_at_call 21; exact Calls.mono ((HCH _).out) (fun e w' ⟨he, hb⟩ => ⟨he, HQ.out.on hb⟩))))
       clear hK K
       ((try simp only [Act.put]); (try simp only [List.setIfInBounds_toArray]); (try simp only [List.set_cons_zero, List.set_cons_succ]); (try simp only [e1]); (try simp only [bne_self_eq_false]); (try simp only [e2]); (try simp only [s1]))))
  refine wpQuiet_nil ?_
  intro w3 hq
  have PI := Lib.hid (PI.out.below hq)
  have PA := Lib.hid (PA.out.below hq)
  have HHc := Lib.hid (hq.box HHc.out)
  have HW := Lib.hid (HW.out.trans hq)
  clear hq HGT HRT HRG HRC HCH HHV
  obtain ⟨c0, c1, c2, c3, c4, c5, c6, c7⟩ := cells8 HHc.out
  go_wp2_with fail
  refine Calls.mono (HDO.out _ _ _ PI.out) ?_
  rintro e w4 ⟨bD, aD, cD, rfl, hm⟩
  clear c0 c1 c2 c3 c4 c5 c6 c7
  have HM := Lib.hid hm
  have HB := Lib.hid hm.beh
  have HHc := Lib.hid (hm.beh.box HHc.out)
  clear hm
  obtain ⟨c0, c1, c2, c3, c4, c5, c6, c7⟩ := cells8 HHc.out
  have c0a := fun o => cell_on ((Beh.start _).alloc o) c0
  have c1a := fun o => cell_on ((Beh.start _).alloc o) c1
  have c2a := fun o => cell_on ((Beh.start _).alloc o) c2
  have c3a := fun o => cell_on ((Beh.start _).alloc o) c3
  have c4a := fun o => cell_on ((Beh.start _).alloc o) c4
  have c5a := fun o => cell_on ((Beh.start _).alloc o) c5
  have c6a := fun o => cell_on ((Beh.start _).alloc o) c6
  have c7a := fun o => cell_on ((Beh.start _).alloc o) c7
  go_wp2_with fail
  refine Calls.mono (HRD.out _ _ _ (by exact PA.out.below (show Beh w3 _ from (by repeat' (first | with_reducible exact HB.out | with_reducible refine Beh.alloc ?_ _))))) ?_
  rintro e w5 ⟨bE, aE, cE, rfl, hm⟩
  clear c0a c1a c2a c3a c4a c5a c6a c7a
  clear c0 c1 c2 c3 c4 c5 c6 c7
  have PE := Lib.hid hm.pairs
  have HM := Lib.hid (HM.out.on (Beh.trans (w0 := w4) ((Beh.start w4).alloc (.cells #[.int .i64 D.code, .int .i64 D.told.kind, .float .f64 D.told.num, .string D.told.text] 37)) hm.beh))
  have HHr := Lib.hid (box_on (v := (.cells #[.int .i64 D.code, .int .i64 D.told.kind, .float .f64 D.told.num, .string D.told.text] 37)) (alloc_here (w := w4) (.cells #[.int .i64 D.code, .int .i64 D.told.kind, .float .f64 D.told.num, .string D.told.text] 37) rfl) hm.beh)
  have HB := Lib.hid (Beh.trans (w0 := w3) (HB.out.alloc (.cells #[.int .i64 D.code, .int .i64 D.told.kind, .float .f64 D.told.num, .string D.told.text] 37)) hm.beh)
  clear hm HHc
  have hsame := samePs_refl D.L
  have hrep := sameR_self D.code D.told
  go_wp2_with fail
  refine Calls.mono (keepPairs_any aD cD D.L aE cE D.L _ (by exact HM.out.pairs.below (show Beh w5 _ from (by repeat' (first | with_reducible exact Beh.start _ | with_reducible refine Beh.alloc ?_ _)))) (by exact PE.out.below (show Beh w5 _ from (by repeat' (first | with_reducible exact Beh.start _ | with_reducible refine Beh.alloc ?_ _)))) (by omega)) ?_
  rintro e w6 ⟨rfl, hb⟩
  have HM := Lib.hid (HM.out.on (Beh.trans (w0 := w5) ((Beh.start w5).alloc (.cells #[.int .i64 D.code, .int .i64 D.told.kind, .float .f64 D.told.num, .string D.told.text] 37)) hb))
  have HHr := Lib.hid (box_on (v := (.cells #[.int .i64 D.code, .int .i64 D.told.kind, .float .f64 D.told.num, .string D.told.text] 37)) (old_alloc (.cells #[.int .i64 D.code, .int .i64 D.told.kind, .float .f64 D.told.num, .string D.told.text] 37) HHr.out) hb)
  have HHs := Lib.hid (box_on (v := (.cells #[.int .i64 D.code, .int .i64 D.told.kind, .float .f64 D.told.num, .string D.told.text] 37)) (alloc_here (w := w5) (.cells #[.int .i64 D.code, .int .i64 D.told.kind, .float .f64 D.told.num, .string D.told.text] 37) rfl) hb)
  have HB := Lib.hid (Beh.trans (w0 := w3) (HB.out.alloc (.cells #[.int .i64 D.code, .int .i64 D.told.kind, .float .f64 D.told.num, .string D.told.text] 37)) hb)
  clear hb PE
  obtain ⟨r0, r1, r2, r3⟩ := cells4 HHr.out
  obtain ⟨t0, t1, t2, t3⟩ := cells4 HHs.out
  go_wp2_with fail
  refine Calls.mono (keepReply_any D.code D.code D.told D.told _) ?_
  rintro e w7 ⟨rfl, hb⟩
  have HM := Lib.hid (HM.out.on hb)
  have HB := Lib.hid (HB.out.trans hb)
  clear hb r0 r1 r2 r3 t0 t1 t2 t3 HHr HHs
  go_wp2_with fail
  refine Calls.mono (spoil_any bD aD cD D.L _ HM.out.own (by omega)) ?_
  rintro e w8 ⟨rfl, hk⟩
  have HB : Hid (Beh w3 w8) := (HB.out.below.trans (hk.below HM.out.beh.size (fun k hk => by have := hk.2; have := HM.out.new; omega)) : Below _ _ _)
  clear hk HM
  have hs2 := samePs_refl L
  go_wp2_with fail
  refine Calls.mono (keepPairs_any ai ci L a cap L _ (PI.out.below HB.out) (PA.out.below HB.out) (by omega)) ?_
  rintro e w9 ⟨rfl, hb⟩
  have HB := Lib.hid (HB.out.trans hb)
  clear hb
  cases r
  · have hck6 := H6.out rfl
    go_wp2_with fail
    refine Calls.mono (HRP.out _ _ _ (PA.out.below HB.out)) ?_
    rintro e w10 ⟨rfl, hb⟩
    have HB := Lib.hid (HB.out.trans hb)
    clear hb
    go_wp2_with fail
    refine Calls.mono (HCK.out _ _ _ (PI.out.below HB.out)) ?_
    rintro e w11 ⟨rfl, hb⟩
    have HB := Lib.hid (HB.out.trans hb)
    clear hb
    subst hck6
    go_wp2_with fail
    refine Calls.mono (wakes_any _) ?_
    rintro e wE ⟨rfl, hb⟩
    have HE := Lib.hid (HW.out.trans (HB.out.trans hb))
    clear hb
    go_wp2_with fail
    go_ret
    exact ⟨rfl, HE.out⟩
  · go_wp2_with fail
    refine Calls.mono (HRP.out _ _ _ (PA.out.below HB.out)) ?_
    rintro e w10 ⟨rfl, hb⟩
    have HB := Lib.hid (HB.out.trans hb)
    clear hb
    go_wp2_with fail
    refine Calls.mono (wakes_any _) ?_
    rintro e wE ⟨rfl, hb⟩
    have HE := Lib.hid (HW.out.trans (HB.out.trans hb))
    clear hb
    go_wp2_with fail
    go_ret
    exact ⟨rfl, HE.out⟩
theorem KvExact_law (a : Option Addr) (len cap : Nat) (c : Cm) (key : ByteArray) (W : World) (h0 : PairsIn W a len cap) (h1 : c.ok) (_h2 : key.size ≤ maxLen) :
    Calls Try.prog 3 #[.slice a len cap, c.agg, .string key] W fun e w' => e = .returned (.bool true) ∧ Below W.heap.size W w' := by
  obtain ⟨L, rfl, hL, hF⟩ := h0
  exact KvExact_any a cap L c key W hL hF h1
end Go.Proofs.Ytilebpenfdgdmaa.Kv
