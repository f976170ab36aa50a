import Derived.Test.YtbheofibdogabaaGreatRefCmd60
import Derived.Test.YtbheofibdogabaaGreatMergeSb22
import Derived.Test.YtbheofibdogabaaGreatCallW
import Derived.Test.YtbheofibdogabaaGreatMergeSb11
import Derived.Test.YtbheofibdogabaaGreatWith6
import Derived.Defers
import Derived.Recover
section
/- The reference's Cmd. -/
namespace Go.Proofs.YtbheofibdogabaaGreat.Kv
open Go Go.RowKit Vl Nm Mem
attribute [local go_sem] run_bits run_frombits run_store_float
end Go.Proofs.YtbheofibdogabaaGreat.Kv
end
section
/- Calls: the landed Right, Last; the reference's Call, Last. -/
namespace Go.Proofs.YtbheofibdogabaaGreat.Ss
open Go Go.RowKit Vl Kv Mem Nm
attribute [local go_sem] run_bits run_frombits run_store_float
def lastOf (S : List Se) (c : Int) : Se := (S.find? (fun s => s.client == c)).getD Se.zero
theorem lastOf_here {S : List Se} {c : Int} {k : Nat} (hk : k < S.length) (h : (S.take k).all (fun s => s.client != c) = true) (he : (S.getD k Se.zero).client = c) : lastOf S c = S.getD k Se.zero := by
  unfold lastOf
  have e : S = S.take k ++ S[k] :: S.drop (k + 1) := by rw [← List.drop_eq_getElem_cons hk, List.take_append_drop]
  have hg : S.getD k Se.zero = S[k] := by simp [hk]
  rw [hg] at he ⊢
  have hn : (S.take k).find? (fun s => s.client == c) = none := by
    rw [List.find?_eq_none]
    intro s hs
    have := List.all_eq_true.1 h s hs
    simpa using this
  conv => lhs; rw [e]
  rw [List.find?_append, hn, List.find?_cons]
  simp [he]
theorem lastOf_none {S : List Se} {c : Int} (h : S.all (fun s => s.client != c) = true) : lastOf S c = Se.zero := by
  unfold lastOf
  rw [List.find?_eq_none.2 (fun s hs => by have := List.all_eq_true.1 h s hs; simpa using this)]
  rfl
theorem take_all {S : List Se} {c : Int} {k : Nat} (hk : k < S.length) (h : (S.take k).all (fun s => s.client != c) = true) (he : ((S.getD k Se.zero).client == c) = false) : (S.take (k + 1)).all (fun s => s.client != c) = true := by
  rw [List.take_succ_eq_append_getElem hk, List.all_append, h]
  have hg : S.getD k Se.zero = S[k] := by simp [hk]
  rw [hg] at he
  simpa using he
/-- what Last tells -/
def LastTold (S : List Se) (c : Int) (w : World) (e : Ending) (w' : World) : Prop := e = .returned (.tuple #[.int .i64 (lastOf S c).seq, rep (lastOf S c).code (lastOf S c).val]) ∧ Beh w w'
end Go.Proofs.YtbheofibdogabaaGreat.Ss
end
section
/- The landed Last; the reference's. -/
namespace Go.Proofs.YtbheofibdogabaaGreat.Ss
open Go Go.RowKit Vl Kv Mem Nm
attribute [local go_sem] run_bits run_frombits run_store_float
theorem results_tmp_cell {fn : Func} {p u : Tmp} {ty : TypeId} (h : fn.results = #[.tmp u, .cell p ty]) (tmps : Array Value) (P : Program) (w : World) :
    (results fn tmps).run P w = ((asAddr (tmps.getD p undef)).run P w).andThen fun a w₁ => ((loadVar ty a).run P w₁).andThen fun v w₂ => .ok (.tuple #[tmps.getD u undef, v]) w₂ := by
  simp only [results, h]
  simp [Sem.run_bind, Result.andThen]
set_option maxHeartbeats 3200000 in
set_option maxRecDepth 100000 in
theorem SLast_any (s : Ms) (m : Ma) (c : Int) (w : World) (h : MaAt w s m) : Calls Tryz.prog 60 #[s.agg m, .int .i64 c] w (LastTold m.sess c w) := by
  have HM0 := Lib.hid (old_alloc (repObj 0 V.zero) (alloc_here (w := w) (s.obj m) rfl))
  have HB0 := Lib.hid (((Beh.start w).alloc (s.obj m)).alloc (repObj 0 V.zero))
  have HR0 : Hid (((w.alloc (s.obj m)).alloc (repObj 0 V.zero)).heap[w.heap.size + 1]? = some (repObj 0 V.zero)) := alloc_here _ (by simp)
  have HSS := Lib.hid h.sess
  obtain ⟨L, S⟩ := m
  obtain ⟨a, cap, a2, cap2⟩ := s
  unfold Ms.obj repObj at HM0 HB0 HR0
  dsimp only at HM0 HB0 HSS HR0
  clear h
  have hmx : S.length ≤ 9223372036854775807 := Nat.le_trans HSS.out.len HSS.out.max
  have HLH : Hid (∀ k, k < S.length → (S.take k).all (fun s => s.client != c) = true → (S.getD k Se.zero).client = c → lastOf S c = S.getD k Se.zero) := fun k => lastOf_here
  have HLN : Hid (S.all (fun s => s.client != c) = true → lastOf S c = Se.zero) := lastOf_none
  unfold LastTold
  dsimp only
  generalize lastOf S c = LO at *
  obtain ⟨oc, os, od, ⟨ok, on, ot⟩⟩ := LO
  obtain ⟨m0, m1⟩ := cells2 HM0.out
  go_enter Tryz.func60, Tryz.ntmps60
  go_wp2_with fail
  clear m0 m1
  obtain ⟨w1, hw1⟩ : ∃ w1, w1 = ((w.alloc (.cells #[.slice a L.length cap, .slice a2 S.length cap2] 25)).alloc (.cells #[.int .i64 0, .int .i64 0, .float .f64 0, .string ⟨#[]⟩] 52)) := ⟨_, rfl⟩
  rw [← hw1] at HM0 HB0 HR0
  try rw [← hw1]
  clear hw1
  go_loopw [7, 11] (fun _ i wr => ∃ k : Nat, k ≤ S.length ∧ i = .int .i64 k ∧ Hid ((S.take k).all (fun s => s.client != c) = true) ∧ Hid (Beh w1 wr)) (fun _ i _ => S.length - (intOf i).toNat)
  case atStart => exact ⟨0, by omega, rfl, rfl, Beh.start _⟩
  case round =>
    obtain ⟨k, hk, rfl, hs, HW⟩ := hrel
    by_cases hlt : k < S.length
    · obtain ⟨b, off, rfl, hc⟩ := (HSS.out.below (HB0.out.trans HW.out)).at_ (by omega)
      obtain ⟨c0, c1, c2, c3, c4, c5⟩ := hc k hlt
      clear hc
      have HN := Lib.hid (fun he => take_all hlt hs.out he)
      have HY := Lib.hid (HLH.out k hlt hs.out)
      generalize S.getD k Se.zero = p at *
      obtain ⟨pc, ps, pd, ⟨vk, vn, vs⟩⟩ := p
      dsimp only at HN HY
      have HB2 := Lib.hid (HB0.out.trans (HW.out.alloc (Se.obj ⟨pc, ps, pd, ⟨vk, vn, vs⟩⟩)))
      have HBX := Lib.hid (HW.out.alloc (Se.obj ⟨pc, ps, pd, ⟨vk, vn, vs⟩⟩))
      unfold Se.obj at HB2 HBX
      obtain ⟨r0, r1, r2, r3⟩ := cells4 (HW.out.box HR0.out)
      have r0a := fun o => cellOn ((Beh.start _).alloc o) r0
      have r1a := fun o => cellOn ((Beh.start _).alloc o) r1
      have r2a := fun o => cellOn ((Beh.start _).alloc o) r2
      have r3a := fun o => cellOn ((Beh.start _).alloc o) r3
      have f0 := frozen_of (old_alloc (.cells #[.int .i64 pc, .int .i64 ps, .int .i64 pd, .int .i64 vk, .float .f64 vn, .string vs] 54) (HW.out.box HR0.out)) 0
      have f1 := frozen_of (old_alloc (.cells #[.int .i64 pc, .int .i64 ps, .int .i64 pd, .int .i64 vk, .float .f64 vn, .string vs] 54) (HW.out.box HR0.out)) 1
      have f2 := frozen_of (old_alloc (.cells #[.int .i64 pc, .int .i64 ps, .int .i64 pd, .int .i64 vk, .float .f64 vn, .string vs] 54) (HW.out.box HR0.out)) 2
      have f3 := frozen_of (old_alloc (.cells #[.int .i64 pc, .int .i64 ps, .int .i64 pd, .int .i64 vk, .float .f64 vn, .string vs] 54) (HW.out.box HR0.out)) 3
      have e0 := frozen_of (HW.out.box HR0.out) 0
      have e1 := frozen_of (HW.out.box HR0.out) 1
      have e2 := frozen_of (HW.out.box HR0.out) 2
      have e3 := frozen_of (HW.out.box HR0.out) 3
      have hlt2 := heap_lt (HW.out.box HR0.out)
      have HBW := Lib.hid (HB0.out.trans HW.out)
      have hne : wr.heap.size ≠ w.heap.size + 1 := by omega
      have hne2 : w.heap.size + 1 ≠ wr.heap.size := by omega
      cases x : (pc == c)
      · have y := x
        rw [x] at HN
        go_wp2_with fail
        go_roundw
        case rel => exact ⟨k + 1, by omega, by go_num, HN.out rfl, HBX.out⟩
        case measure => simp [intOf]; omega
      · have hx : pc = c := by simpa using x
        have he := HY.out hx
        injection he with i1 i2 i3 i4
        injection i4 with i4 i5 i6
        subst i2 i3 i4 i5 i6
        clear i1 hx HY HN
        go_wp2_with fail
        go_region
        all_goals
          go_wp2_with fail
          (try simp only [Exit.inBlock, Exit.then])
          refine bodyPost_ret (v := .tuple #[.int .i64 os, rep od ⟨ok, on, ot⟩]) ?_ rfl ⟨rfl, ?_⟩
          · rw [results_tmp_cell rfl]
            go_simp
          · show Beh w _
            repeat' (first | with_reducible exact HB2.out | with_reducible exact HBW.out | with_reducible refine Beh.set ?_ (by omega) _ _ | with_reducible refine Beh.drew ?_ | with_reducible refine Beh.alloc ?_ _)
    · obtain rfl : k = S.length := by omega
      have hs2 := hs.out
      rw [List.take_length] at hs2
      have he := HLN.out hs2
      injection he with e1 e2 e3 e4
      injection e4 with e4 e5 e6
      subst e2 e3 e4 e5 e6
      clear e1 hs2
      obtain ⟨r0, r1, r2, r3⟩ := cells4 (HW.out.box HR0.out)
      have f0 := frozen_of (HW.out.box HR0.out) 0
      have f1 := frozen_of (HW.out.box HR0.out) 1
      have f2 := frozen_of (HW.out.box HR0.out) 2
      have f3 := frozen_of (HW.out.box HR0.out) 3
      go_wp2_with fail
      (try simp only [Exit.inBlock, Exit.then])
      refine bodyPost_ret (v := .tuple #[.int .i64 0, rep 0 V.zero]) ?_ rfl ⟨rfl, ?_⟩
      · rw [results_tmp_cell rfl]
        go_simp
      · show Beh w _
        have HB2 := Lib.hid (HB0.out.trans HW.out)
        repeat' (first | with_reducible exact HB2.out | with_reducible refine Beh.set ?_ (by omega) _ _ | with_reducible refine Beh.drew ?_ | with_reducible refine Beh.alloc ?_ _)
end Go.Proofs.YtbheofibdogabaaGreat.Ss
end
section
/- What a key has: the landed Get, the reference's. -/
namespace Go.Proofs.YtbheofibdogabaaGreat.Kv
open Go Go.RowKit Vl Nm Mem
attribute [local go_sem] run_bits run_frombits run_store_float

theorem get_here {L : List Pr} {k : Nat} {key : ByteArray} (h : k < L.length) (he : (L.getD k Pr.zero).key = key) : get (L.drop k) key = (L.getD k Pr.zero).val := by
  rw [List.drop_eq_getElem_cons h]
  rw [getD_lt h] at he ⊢
  show (if L[k].key = key then _ else _) = _
  rw [if_pos he]
theorem get_next {L : List Pr} {k : Nat} {key : ByteArray} (h : k < L.length) (he : (L.getD k Pr.zero).key ≠ key) : get (L.drop k) key = get (L.drop (k + 1)) key := by
  rw [List.drop_eq_getElem_cons h]
  rw [getD_lt h] at he
  show (if L[k].key = key then _ else _) = _
  rw [if_neg he]
set_option maxHeartbeats 800000 in
theorem refGet_any (a : Option Addr) (cap : Nat) (L : List Pr) (key : ByteArray) (w : World) (h : PairsAt w a cap L) (hl : L.length ≤ 100000) :
    Calls Tryz.prog 95 #[.slice a L.length cap, .string key] w fun e w' => e = .returned (get L key).val ∧ Below w.heap.size w w' := by
  have HI := Lib.hid (h.alloc (Vobj V.zero))
  have HB := Lib.hid ((Beh.start w).alloc (Vobj V.zero))
  have HA := Lib.hid (alloc_here (w := w) (Vobj V.zero) rfl)
  clear h
  unfold Vobj V.zero at HI HB HA
  go_enter Tryz.func95, Tryz.ntmps95
  go_wp2
  go_loop [5] (fun i => ∃ k : Nat, k ≤ L.length ∧ i = .int .i64 k ∧ Hid (get L key = get (L.drop k) key)) (fun i => L.length - (intOf i).toNat)
  case atStart => exact ⟨0, by omega, rfl, rfl⟩
  case round =>
    obtain ⟨k, hk, rfl, hw⟩ := hrel
    by_cases hlt : k < L.length
    · obtain ⟨b, off, rfl, hc⟩ := HI.out.at_ (by omega)
      obtain ⟨h1, h2, h3, h4⟩ := hc k hlt
      have HH := Lib.hid (get_here (key := key) hlt)
      have HN := Lib.hid (get_next (key := key) hlt)
      clear hc
      generalize L.getD k Pr.zero = x at *
      obtain ⟨ley, ⟨vk, vn, vs⟩⟩ := x
      have HT := Lib.hid (key_test ley key)
      cases hx : (ley.toList == key.toList)
      · go_wp2
        go_round
        case rel => exact ⟨k + 1, by omega, by go_num, hw.out.trans (HN.out (by have := HT.out; rw [hx] at this; simpa using this.symm))⟩
        case measure => simp [intOf]; omega
      · have hg := hw.out.trans (HH.out (by have := HT.out; rw [hx] at this; simpa using this.symm))
        rw [hg]
        obtain ⟨f0, f1, f2, _⟩ := cells3 HA.out
        go_wp2
        refine bodyPost_ret (v := (V.mk vk vn vs).val) ?_ rfl ⟨rfl, below_alloc _ _⟩
        rw [results_cell_one rfl]
        go_simp
    · obtain rfl : k = L.length := by omega
      have hg : get L key = V.zero := hw.out.trans (by rw [List.drop_length]; rfl)
      rw [hg]
      obtain ⟨f0, f1, f2, _⟩ := cells3 HA.out
      go_wp2
      refine bodyPost_ret (v := V.zero.val) ?_ rfl ⟨by first | rfl | rw [hg], below_alloc _ _⟩
      rw [results_cell_one rfl]
      go_simp
set_option maxHeartbeats 1600000 in
theorem Get_any (a : Option Addr) (cap : Nat) (L : List Pr) (key : ByteArray) (w : World) (h : PairsAt w a cap L) (hl : L.length ≤ 100000) :
    Calls Tryz.prog 87 #[.slice a L.length cap, .string key] w fun e w' => e = .returned (get L key).val ∧ Below w.heap.size w w' := by
  have HI := Lib.hid h
  have HB0 := Lib.hid ((Beh.start w).alloc (Vobj V.zero))
  have HA0 := Lib.hid (alloc_here (w := w) (Vobj V.zero) rfl)
  clear h
  unfold Vobj V.zero at HB0 HA0
  go_enter Tryz.func87, Tryz.ntmps87
  go_wp2
  go_loopw [6, 9] (fun i j wr => ∃ k : Nat, k ≤ L.length ∧ j = .int .i64 k ∧ Hid (get L key = get (L.drop k) key) ∧ Hid (Beh w wr) ∧ Hid (wr.heap[w.heap.size]? = some (.cells #[.int .i64 0, .float .f64 0, .string ⟨#[]⟩] 50))) (fun _ j _ => L.length - (intOf j).toNat)
  case atStart => exact ⟨0, by omega, rfl, rfl, HB0.out, HA0.out⟩
  case round =>
    obtain ⟨k, hk, rfl, hw, HB, HA⟩ := hrel
    by_cases hlt : k < L.length
    · obtain ⟨b, off, rfl, hc⟩ := (HI.out.below HB.out.below).at_ (by omega)
      obtain ⟨h1, h2, h3, h4⟩ := hc k hlt
      have HH := Lib.hid (get_here (key := key) hlt)
      have HN := Lib.hid (get_next (key := key) hlt)
      clear hc
      generalize L.getD k Pr.zero = x at *
      obtain ⟨ley, ⟨vk, vn, vs⟩⟩ := x
      have HT := Lib.hid (key_test ley key)
      cases hx : (ley.toList == key.toList)
      · go_wp2
        go_roundw
        case rel => exact ⟨k + 1, by omega, by go_num, hw.out.trans (HN.out (by have := HT.out; rw [hx] at this; simpa using this.symm)), HB.out.alloc _, old_alloc _ HA.out⟩
        case measure => simp [intOf]; omega
      · have hg := hw.out.trans (HH.out (by have := HT.out; rw [hx] at this; simpa using this.symm))
        rw [hg]
        obtain ⟨f0, f1, f2, g0, g1, g2⟩ := cells3_on HA.out
        go_wp2
        refine bodyPost_ret (v := (V.mk vk vn vs).val) ?_ rfl ⟨rfl, by show Beh w _; repeat' (first | exact HB.out | refine Beh.alloc ?_ _ | refine Beh.set ?_ (Nat.le_refl _) _ _)⟩
        rw [results_cell_one rfl]
        go_simp
    · obtain rfl : k = L.length := by omega
      have hg : get L key = V.zero := hw.out.trans (by rw [List.drop_length]; rfl)
      rw [hg]
      obtain ⟨f0, f1, f2, g0, g1, g2⟩ := cells3 HA.out
      go_wp2
      refine bodyPost_ret (v := V.zero.val) ?_ rfl ⟨by first | rfl | rw [hg], by show Beh w _; repeat' (first | exact HB.out | refine Beh.alloc ?_ _ | refine Beh.set ?_ (Nat.le_refl _) _ _)⟩
      rw [results_cell_one rfl]
      go_simp
end Go.Proofs.YtbheofibdogabaaGreat.Kv
end
section
/- The landed Do: what is thrown is caught. -/
namespace Go.Proofs.YtbheofibdogabaaGreat.Kv
open Go Go.RowKit Vl Nm Mem
attribute [local go_sem] run_bits run_frombits run_store_float

set_option maxRecDepth 100000 in
theorem joined_err2 {f : Nat → Nat → Nat} {a b : V} (h : (joined f a b).2 ≠ 0) : (joined f a b).1 = V.zero := by
  revert h
  unfold joined
  split
  · exact fun _ => rfl
  · split
    · exact fun _ => rfl
    · split
      · exact fun h => absurd rfl h
      · split
        · exact fun _ => rfl
        · exact fun h => absurd rfl h
set_option maxRecDepth 100000 in
/-- work, all ways -/
theorem work_told (v : V) (c : Cm) (hv : v.num < 18446744073709551616) (hc : c.val.num < 18446744073709551616) (w : World) :
    Calls Tryz.prog 86 #[v.val, c.agg] w fun e w' => e = (if (act v c).code = 0 then .returned (.tuple #[(act v c).next.val, (act v c).told.val]) else .panicked (thrown (act v c).code (act v c).told)) ∧ Below w.heap.size w w' := by
  have z0 : ((0 : Int) = 0) = True := eq_self 0
  by_cases h2 : c.kind = 2
  · have e : act v c = ⟨c.val, 0, v⟩ := by unfold act; rw [if_pos h2]
    rw [e, if_pos rfl]; exact work_put v c h2 w
  · by_cases h3 : c.kind = 3
    · have e : act v c = ⟨V.zero, 0, v⟩ := by unfold act; rw [if_neg h2, if_pos h3]
      rw [e, if_pos rfl]; exact work_del v c h3 w
    · by_cases h4 : c.kind = 4
      · by_cases hs : v.same c.old = true
        · have e : act v c = ⟨c.val, 0, v⟩ := by unfold act; rw [if_neg h2, if_neg h3, if_pos h4, if_pos hs]
          rw [e, if_pos rfl]; exact work_cas v c h4 hs w
        · have hs' : v.same c.old = false := by simpa using hs
          have e : act v c = ⟨V.zero, 9, v⟩ := by unfold act; rw [if_neg h2, if_neg h3, if_pos h4, if_neg hs]
          rw [e, if_neg (show ¬ (9 : Int) = 0 by decide)]; exact work_other v c h4 hs' w
      · by_cases h5 : c.kind = 5
        · have e : act v c = ⟨(joined sumC v c.val).1, (joined sumC v c.val).2, (joined sumC v c.val).1⟩ := by unfold act; rw [if_neg h2, if_neg h3, if_neg h4, if_pos h5]
          rw [e]
          by_cases hj : (joined sumC v c.val).2 = 0
          · rw [if_pos hj]; exact work_add v c h5 hv hc hj w
          · rw [if_neg hj]
            have hz : (joined sumC v c.val).1 = V.zero := joined_err2 hj
            show Calls _ _ _ _ (fun e w' => e = .panicked (thrown (joined sumC v c.val).2 (joined sumC v c.val).1) ∧ _)
            rw [hz]
            exact work_add_not v c h5 hv hc hj w
        · by_cases h6 : c.kind = 6
          · have e : act v c = ⟨(joined maxF v c.val).1, (joined maxF v c.val).2, (joined maxF v c.val).1⟩ := by unfold act; rw [if_neg h2, if_neg h3, if_neg h4, if_neg h5, if_pos h6]
            rw [e]
            by_cases hj : (joined maxF v c.val).2 = 0
            · rw [if_pos hj]; exact work_max v c h6 hv hc hj w
            · rw [if_neg hj]
              have hz : (joined maxF v c.val).1 = V.zero := joined_err2 hj
              show Calls _ _ _ _ (fun e w' => e = .panicked (thrown (joined maxF v c.val).2 (joined maxF v c.val).1) ∧ _)
              rw [hz]
              exact work_max_not v c h6 hv hc hj w
          · have e : act v c = ⟨v, 0, v⟩ := by unfold act; rw [if_neg h2, if_neg h3, if_neg h4, if_neg h5, if_neg h6]
            rw [e, if_pos rfl]; exact work_get v c h2 h3 h4 h5 h6 w
set_option maxRecDepth 100000 in
theorem run_assert (v : Value) (w : World) : (Instr.typeAssert (.iface 52 v) 20 52 false).run Tryz.prog w = .ok v w := by
  simp [Instr.typeAssert, run_underlying Tryz.underlying52]
/-- the blocks of a call of Do: the pairs, the command, the two results -/
structure Dk (w0 w : World) (a : Option Addr) (n cap : Nat) (c : Cm) (x : Value) (r : Obj) : Prop where
  b0 : w.heap[w0.heap.size]? = some (.cells #[.slice a n cap] 22)
  b1 : w.heap[w0.heap.size + 1]? = some c.obj
  b2 : w.heap[w0.heap.size + 1 + 1]? = some (.cells #[x] 22)
  b3 : w.heap[w0.heap.size + 1 + 1 + 1]? = some r
  beh : Beh w0 w
set_option maxRecDepth 100000 in
theorem heap_seto {w : World} {b : Nat} {o : Obj} (h : w.heap[b]? = some o) {k : Nat} (i : Nat) (ha : k ≠ b) (v : Value) : (w.setCell ⟨k, i, none⟩ v).heap[b]? = some o := by
  rw [Below.heap_setCell _ _ _ _ (fun e => ha e.symm)]; exact h
set_option maxRecDepth 100000 in
theorem Made.set {w0 w : World} {b : Nat} {a : Option Addr} {cap : Nat} {L : List Pr} (m : Made w0 w b a cap L) {k : Nat} (h0 : w0.heap.size ≤ k) (hk : k < b) (i : Nat) (v : Value) : Made w0 (w.setCell ⟨k, i, none⟩ v) b a cap L :=
  ⟨OwnC.kept m.own ((Kept.refl (Only k) _).setAt (.inl rfl) i v) (fun _ e => by have : b = k := e; omega), m.new, m.beh.set h0 i v⟩
set_option maxRecDepth 100000 in
/-- the two results stored: one cell, and four -/
theorem stored_two {w : World} {p q : Nat} {x y r0 r1 r2 r3 c0 c1 c2 c3 : Value} {t u : TypeId} (hp : w.heap[p]? = some (.cells #[x] t)) (hq : w.heap[q]? = some (.cells #[r0, r1, r2, r3] u)) (hpq : p ≠ q) :
    (((((w.setCell ⟨p, 0, none⟩ y).setCell ⟨q, 0, none⟩ c0).setCell ⟨q, 1, none⟩ c1).setCell ⟨q, 2, none⟩ c2).setCell ⟨q, 3, none⟩ c3).heap[p]? = some (.cells #[y] t) ∧
    (((((w.setCell ⟨p, 0, none⟩ y).setCell ⟨q, 0, none⟩ c0).setCell ⟨q, 1, none⟩ c1).setCell ⟨q, 2, none⟩ c2).setCell ⟨q, 3, none⟩ c3).heap[q]? = some (.cells #[c0, c1, c2, c3] u) :=
  ⟨heap_seto (heap_seto (heap_seto (heap_seto (heap_setc hp) 0 hpq.symm _) 1 hpq.symm _) 2 hpq.symm _) 3 hpq.symm _, heap_setc (heap_setc (heap_setc (heap_setc (heap_seto hq 0 hpq _))))⟩
set_option maxRecDepth 100000 in
theorem Dk.on {w0 w w' : World} {a : Option Addr} {n cap : Nat} {c : Cm} {x : Value} {r : Obj} (h : Dk w0 w a n cap c x r) (hb : Below w.heap.size w w') : Dk w0 w' a n cap c x r :=
  ⟨box_on h.b0 hb, box_on h.b1 hb, box_on h.b2 hb, box_on h.b3 hb, h.beh.on hb⟩
set_option maxRecDepth 100000 in
/-- where nothing was thrown, nothing is done -/
theorem catch_idle (p0 p1 p2 : Value) (w : World) :
    CallsD Tryz.prog 84 #[p0, p1, p2] .returning w fun e u' w' => e = .returned (.tuple #[]) ∧ u' = .returning ∧ w' = w := by
  refine callsD_of_wpS Tryz.func84 rfl fun c₀ cs hu => ?_
  apply wpS_seq
  apply wpS_region
  simp [wpOpsS, go_sem, recoverD, hu, Tryz.ntmps84, Exit.thenS]
  show Code.wpS _ _ _ { tmps := #[p0, p1, p2, .nilIface, .nilIface, undef, undef, undef, undef, undef, undef], defers := [] } _ _
  refine wpS_of_wp ?_
  go_wp2
  cases c₀
  simp_all [bodyPostS, results, Tryz.results84]
set_option maxRecDepth 100000 in
theorem catch_thrown (w0 w : World) (a : Option Addr) (cap : Nat) (L : List Pr) (c : Cm) (code : Int) (v : V) (h : PairsAt w a cap L) (hl : L.length ≤ 100000) (x : Value) (r : Value × Value × Value × Value)
    (HD : Dk w0 w a L.length cap c x (.cells #[r.1, r.2.1, r.2.2.1, r.2.2.2] 52)) :
    CallsD Tryz.prog 84 #[.pointer (some ⟨w0.heap.size, 0, none⟩), .pointer (some ⟨w0.heap.size + 1 + 1, 0, none⟩), .pointer (some ⟨w0.heap.size + 1 + 1 + 1, 0, none⟩)] (.panicking (thrown code v)) w fun e u' w' =>
      e = .returned (.tuple #[]) ∧ u' = .panicking [{ v := .iface 52 (rep code v), recovered := true }] ∧
      ∃ b' a' cap', Made w0 w' b' a' cap' L ∧ w0.heap.size + 4 ≤ b' ∧ w'.cell? ⟨w0.heap.size + 1 + 1, 0, none⟩ = some (.slice a' L.length cap') ∧ w'.heap[w0.heap.size + 1 + 1 + 1]? = some (repObj code v) := by
  refine callsD_of_wpS Tryz.func84 rfl fun c₀ cs hu => ?_
  unfold thrown at hu
  apply wpS_seq
  apply wpS_region
  simp [wpOpsS, go_sem, recoverD, hu, Tryz.ntmps84, Exit.thenS]
  show Code.wpS _ _ _ { tmps := #[.pointer (some ⟨w0.heap.size, 0, none⟩), .pointer (some ⟨w0.heap.size + 1 + 1, 0, none⟩), .pointer (some ⟨w0.heap.size + 1 + 1 + 1, 0, none⟩), .iface 52 (rep code v), .iface 52 (rep code v), undef, undef, undef, undef, undef, undef], defers := [] } _ _
  refine wpS_of_wp ?_
  have l0 := cells1 HD.b0
  go_wp2_with fail
  have HI := Lib.hid h
  have HDD := Lib.hid HD
  clear h HD
  have hra := fun w => run_assert (rep code v) w
  obtain ⟨r0, r1, r2, r3⟩ := r
  dsimp only at HDD
  go_region_with ((go_at_call 82; refine Calls.mono (clone_any _ _ _ _ (by exact HI.out.below ((Beh.start _).drew)) (by exact hl)) ?_; rintro e w1 ⟨b', a', cap', rfl, hm⟩; (have HM := Lib.hid hm); clear hm; (have HD1 := Lib.hid (HDD.out.on (Beh.trans ((Beh.start _).drew) HM.out.beh))); (have x0 := cells1 HD1.out.b2); (have x1 := frozen_of HD1.out.b2 0); obtain ⟨y0, y1, y2, y3⟩ := cells4 HD1.out.b3; (have z0 := frozen_of HD1.out.b3 0); (have z1 := frozen_of HD1.out.b3 1); (have z2 := frozen_of HD1.out.b3 2); (have z3 := frozen_of HD1.out.b3 3)))
  all_goals
    have hlt := heap_lt HDD.out.b3
    have hbn : w.heap.size ≤ b' := HM.out.new
    obtain ⟨hs1, hs2⟩ := stored_two (y := .slice a' L.length cap') (c0 := .int .i64 code) (c1 := .int .i64 v.kind) (c2 := .float .f64 v.num) (c3 := .string v.text) HD1.out.b2 HD1.out.b3 (by omega)
    refine ⟨rfl, .panicking [{ v := .iface 52 (rep code v), recovered := true }], rfl, .tuple #[], results_none rfl _ _ _, rfl, rfl, b', a', cap', ?_, by omega, cells1 hs1, hs2⟩
    exact (((((HM.out.from (HDD.out.beh.drew)).set (by omega) (by omega) _ _).set (by omega) (by omega) _ _).set (by omega) (by omega) _ _).set (by omega) (by omega) _ _).set (by omega) (by omega) _ _
end Go.Proofs.YtbheofibdogabaaGreat.Kv
end
