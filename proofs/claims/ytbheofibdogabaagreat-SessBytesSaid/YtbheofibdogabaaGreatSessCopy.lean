import Derived.Test.YtbheofibdogabaaGreatMergeSb41
import Derived.Deep.RegionWith
/- The landed copied. -/
namespace Go.Proofs.YtbheofibdogabaaGreat.Ss
open Go Go.RowKit Vl Kv Mem Nm
attribute [local go_sem] run_bits run_frombits run_store_float
set_option maxHeartbeats 3200000 in
set_option maxRecDepth 100000 in
theorem copied_any (s : Ms) (m : Ma) (w : World) (h : MaAt w s m) (h1 : m.pairs.length ≤ 100000) (h2 : m.sess.length ≤ 100000) :
    Calls Tryz.prog 61 #[s.agg m] w fun e w' => ∃ (t : Ms) (bp bq : Nat), e = .returned (t.agg m) ∧ MadeM w w' t m bp bq ∧ Beh w w' := by
  have HM0 := Lib.hid (old_alloc (Ms.zero.obj Ma.zero) (alloc_here (w := w) (s.obj m) rfl))
  have HZ0 : Hid (((w.alloc (s.obj m)).alloc (Ms.zero.obj Ma.zero)).heap[w.heap.size + 1]? = some (.cells #[.slice none 0 0, .slice none 0 0] 25)) := alloc_here (Ms.zero.obj Ma.zero) (by simp)
  have HB0 := Lib.hid (((Beh.start w).alloc (s.obj m)).alloc (Ms.zero.obj Ma.zero))
  have HCP : Hid (∀ W, Beh w W → Calls Tryz.prog 82 #[.slice s.a m.pairs.length s.cap] W fun e w' => ∃ b' a' cap', e = .returned (.slice a' m.pairs.length cap') ∧ Made W w' b' a' cap' m.pairs) := fun W hb => clone_any _ _ _ W (h.pairs.below hb) h1
  have HCS : Hid (∀ W, Beh w W → Calls Tryz.prog 83 #[.slice s.a2 m.sess.length s.cap2] W fun e w' => ∃ b' a' cap', e = .returned (.slice a' m.sess.length cap') ∧ MadeS W w' b' a' cap' m.sess) := fun W hb => cloneS_any _ _ _ W (h.sess.below hb) h2
  clear h
  obtain ⟨L, S⟩ := m
  obtain ⟨a, cap, a2, cap2⟩ := s
  unfold Ms.obj at HM0 HZ0 HB0
  dsimp only at HM0 HZ0 HB0 HCP HCS
  have hms : Ms.zero.a = none ∧ Ms.zero.a2 = none := ⟨rfl, rfl⟩
  go_enter Tryz.func61, Tryz.ntmps61
  go_wp2_with fail
  obtain ⟨w1, hw1⟩ : ∃ w1, w1 = ((w.alloc (.cells #[.slice a L.length cap, .slice a2 S.length cap2] 25)).alloc (.cells #[.slice none 0 0, .slice none 0 0] 25)) := ⟨_, rfl⟩
  rw [← hw1]
  have HM1 : Hid (w1.heap[w.heap.size]? = some (.cells #[.slice a L.length cap, .slice a2 S.length cap2] 25)) := by show w1.heap[w.heap.size]? = _; rw [hw1]; exact HM0.out
  have HZ1 : Hid (w1.heap[w.heap.size + 1]? = some (.cells #[.slice none 0 0, .slice none 0 0] 25)) := by show w1.heap[w.heap.size + 1]? = _; rw [hw1]; exact HZ0.out
  have HB1 : Hid (Beh w w1) := by show Beh w w1; rw [hw1]; exact HB0.out
  clear hw1 HM0 HZ0 HB0 hms
  obtain ⟨m0, m1⟩ := cells2 HM1.out
  obtain ⟨z0, z1⟩ := cells2 HZ1.out
  have hs1 := Lib.hid (heap_lt HZ1.out)
  have HBC := Lib.hid HB1.out.drew
  have HOS : Hid (∀ W, Beh w1 W → True) := fun _ _ => trivial
  have HWW := Lib.hid (Beh.start w1).drew
  go_region_with ((first
    | (go_at_call 82; refine Calls.mono (HCP.out _ (HB1.out.trans HWW.out)) ?_; rintro e wP ⟨bP, aP, cP, rfl, hm⟩; (have HMP := Lib.hid hm); clear hm; (have HWW := Lib.hid (HWW.out.trans HMP.out.beh)); (obtain ⟨m0, m1⟩ := cells2 (HWW.out.box HM1.out)); (obtain ⟨z0, z1⟩ := cells2 (HWW.out.box HZ1.out)); (have f0 := frozen_of (HWW.out.box HZ1.out) 0); (have f1 := frozen_of (HWW.out.box HZ1.out) 1))
    | (go_at_call 83; refine Calls.mono (HCS.out _ (HB1.out.trans HWW.out)) ?_; rintro e wS ⟨bS, aS, cS, rfl, hm⟩; (have HMS := Lib.hid hm); clear hm; (have HWW := Lib.hid (HWW.out.trans HMS.out.beh)); (obtain ⟨m0, m1⟩ := cells2 (HWW.out.box HM1.out)); (obtain ⟨z0, z1⟩ := cells2 (HWW.out.box HZ1.out)); (have f0 := frozen_of (HWW.out.box HZ1.out) 0); (have f1 := frozen_of (HWW.out.box HZ1.out) 1))))
  all_goals
    have hn1 := HMP.out.new
    have hn2 := HMS.out.new
    have hq1 := HMP.out.beh.size
    have hq2 := HMS.out.beh.size
    have hs := hs1.out
    have hd : w1.drew.heap.size = w1.heap.size := rfl
    have HBE := Lib.hid (HB1.out.trans HWW.out)
    go_wp2_with fail
    (try simp only [Exit.inBlock, Exit.then])
    refine bodyPost_ret (v := .agg #[.slice aP L.length cP, .slice aS S.length cS]) ?_ rfl ⟨⟨aP, cP, aS, cS⟩, bP, bS, rfl, ?_, ?_⟩
    · rw [results_cell_one rfl]
      go_simp
    · first
        | exact MadeM.twice (a := w.heap.size + 1) (b := w.heap.size + 1) (w' := wS) ⟨OwnC.kept HMP.out.own (kept_beh HMS.out.beh) (fun _ h => h), HMS.out.own, fun _ => by omega, fun _ => by omega, fun ha _ => by have h1 := OwnC.lt HMP.out.own ha; show bP ≠ bS; omega⟩ (by repeat' (first | with_reducible exact Kept.refl _ _ | with_reducible refine Kept.setAt ?_ (.inl (by simp)) _ _ | with_reducible refine Kept.drew ?_)) (fun _ => by omega) (fun _ => by omega)
        | exact MadeM.twice (a := w.heap.size + 1) (b := w.heap.size + 1) (w' := wP) ⟨HMP.out.own, OwnC.kept HMS.out.own (kept_beh HMP.out.beh) (fun _ h => h), fun _ => by omega, fun _ => by omega, fun _ ha => by have h1 := OwnC.lt HMS.out.own ha; show bP ≠ bS; omega⟩ (by repeat' (first | with_reducible exact Kept.refl _ _ | with_reducible refine Kept.setAt ?_ (.inl (by simp)) _ _ | with_reducible refine Kept.drew ?_)) (fun _ => by omega) (fun _ => by omega)
    · show Beh w _
      repeat' (first | with_reducible exact HBE.out | with_reducible refine Beh.set ?_ (by omega) _ _ | with_reducible refine Beh.drew ?_)
end Go.Proofs.YtbheofibdogabaaGreat.Ss
