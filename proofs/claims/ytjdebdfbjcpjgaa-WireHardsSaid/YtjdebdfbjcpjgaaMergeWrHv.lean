import Derived.Test.YtjdebdfbjcpjgaaMergeWr13
import Derived.Test.YtjdebdfbjcpjgaaMergeWr2
import Derived.Test.YtjdebdfbjcpjgaaConfC2
import Derived.WalkKit
import Derived.Test.YtjdebdfbjcpjgaaMergeWr20
import Derived.Test.YtjdebdfbjcpjgaaMergeWr11
section
/- The keeper's Cmd, Call, Entry. -/
namespace Go.Proofs.Ytjdebdfbjcpjgaa.Lg
open Go Go.RowKit Vl Kv Ss Cn Mem Li Nm
attribute [local go_sem] Nm.run_bits Nm.run_frombits run_store_float
attribute [local irreducible] wpQuiet

theorem Cm.same_told (a b : Cm) : Cm.same a b = ((a.kind == b.kind) && (a.key.toList == b.key.toList) && a.old.same b.old && a.val.same b.val) := by
  unfold Cm.same; rw [key_test]
set_option maxHeartbeats 1600000 in
set_option maxRecDepth 100000 in
theorem keepCmd_any (a b : Cm) (w : World) :
    Calls Try.prog 86 #[a.agg, b.agg] w fun e w' => e = .returned (.bool (Cm.same a b)) ∧ Below w.heap.size w w' := by
  have HC := Lib.hid (Cm.same_told a b)
  have HT := Lib.hid (Bh.Two.start w a.obj b.obj)
  obtain ⟨ka, ya, oa, va⟩ := a
  obtain ⟨kb, yb, ob, vb⟩ := b
  unfold Cm.obj at HT
  dsimp only at HT HC
  cases h1 : ka == kb
  · go_enter Try.func86, Try.ntmps86
    go_wp2_with fail
    go_ret
    exact ⟨ret_bool (by rw [HC.out, h1]; rfl), HT.out.beh⟩
  cases h2 : (ya.toList == yb.toList)
  · go_enter Try.func86, Try.ntmps86
    go_wp2_with fail
    go_ret
    exact ⟨ret_bool (by rw [HC.out, h1, h2]; rfl), HT.out.beh⟩
  obtain ⟨ok, on, os⟩ := oa
  obtain ⟨ok', on', os'⟩ := ob
  obtain ⟨vk, vn, vs⟩ := va
  obtain ⟨vk', vn', vs'⟩ := vb
  dsimp only at HT
  cases h3 : (V.mk ok on os).same ⟨ok', on', os'⟩
  all_goals
    go_enter Try.func86, Try.ntmps86
    go_wp2_with (first | (go_at_call 110; refine (keepValue_any ⟨_, _, _⟩ ⟨_, _, _⟩ _).mono ?_; rintro e w' ⟨rfl, hb⟩; (first | rw [h3] | skip); (have HT := Lib.hid (HT.out.on hb)); clear hb; (obtain ⟨c0, c1, c2, c3, c4, c5, c6, c7⟩ := cells8 HT.out.a); (obtain ⟨d0, d1, d2, d3, d4, d5, d6, d7⟩ := cells8 HT.out.b)))
    go_ret
    exact ⟨ret_bool (by rw [HC.out, h1, h2, h3]; simp), HT.out.beh⟩
theorem cells10c {w : World} {b : Nat} {c : Cl} (h : w.heap[b]? = some c.obj) :
    w.cell? ⟨b, 0, none⟩ = some (.int .i64 c.client) ∧ w.cell? ⟨b, 1, none⟩ = some (.int .i64 c.seq) ∧ w.cell? ⟨b, 2, none⟩ = some (.int .i64 c.cmd.kind) ∧ w.cell? ⟨b, 3, none⟩ = some (.string c.cmd.key) ∧ w.cell? ⟨b, 4, none⟩ = some (.int .i64 c.cmd.old.kind) ∧ w.cell? ⟨b, 5, none⟩ = some (.float .f64 c.cmd.old.num) ∧ w.cell? ⟨b, 6, none⟩ = some (.string c.cmd.old.text) ∧ w.cell? ⟨b, 7, none⟩ = some (.int .i64 c.cmd.val.kind) ∧ w.cell? ⟨b, 8, none⟩ = some (.float .f64 c.cmd.val.num) ∧ w.cell? ⟨b, 9, none⟩ = some (.string c.cmd.val.text) := cells10 h
set_option maxHeartbeats 1600000 in
set_option maxRecDepth 100000 in
theorem keepCall_any (a b : Cl) (w : World) :
    Calls Try.prog 41 #[a.agg, b.agg] w fun e w' => e = .returned (.bool (Cl.same a b)) ∧ Below w.heap.size w w' := by
  have HC := Lib.hid (show Cl.same a b = ((a.client == b.client) && (a.seq == b.seq) && Cm.same a.cmd b.cmd) from rfl)
  have HT := Lib.hid (Bh.Two.start w a.obj b.obj)
  have HK := Lib.hid (keepCmd_any a.cmd b.cmd)
  obtain ⟨ca, sa, da⟩ := a
  obtain ⟨cb, sb, db⟩ := b
  unfold Cl.obj at HT
  dsimp only at HT HC HK
  generalize Cm.same da db = q at *
  cases h1 : ca == cb
  · go_enter Try.func41, Try.ntmps41
    go_wp2_with fail
    go_ret
    exact ⟨ret_bool (by rw [HC.out, h1]; rfl), HT.out.beh⟩
  cases h2 : sa == sb
  · go_enter Try.func41, Try.ntmps41
    go_wp2_with fail
    go_ret
    exact ⟨ret_bool (by rw [HC.out, h1, h2]; rfl), HT.out.beh⟩
  go_enter Try.func41, Try.ntmps41
  go_wp2_with (first | (go_at_call 86; refine (HK.out _).mono ?_; rintro e w' ⟨rfl, hb⟩; (have HT := Lib.hid (HT.out.on hb)); clear hb))
  go_ret
  exact ⟨ret_bool (by rw [HC.out, h1, h2]; rfl), HT.out.beh⟩
set_option maxHeartbeats 1600000 in
set_option maxRecDepth 100000 in
theorem keepEntry_self (x : E) (w : World) :
    Calls Try.prog 16 #[x.agg, x.agg] w fun e w' => e = .returned (.bool true) ∧ Below w.heap.size w w' := by
  have HT := Lib.hid (Bh.Two.start w x.obj x.obj)
  have HK : Hid (∀ w, Calls Try.prog 41 #[x.call.agg, x.call.agg] w fun e w' => e = .returned (.bool true) ∧ Below w.heap.size w w') := fun w => by
    have := keepCall_any x.call x.call w
    rwa [Cl.same_refl] at this
  have HN : Hid (∀ w, Calls Try.prog 42 #[x.conf.val, x.conf.val] w fun e w' => e = .returned (.bool true) ∧ Below w.heap.size w w') := fun w => by
    have := keepConf_any x.conf x.conf w
    rwa [decide_eq_true rfl] at this
  unfold E.obj at HT
  go_enter Try.func16, Try.ntmps16
  go_wp2_with (first
    | (go_at_call 41; refine (HK.out _).mono ?_; rintro e w' ⟨rfl, hb⟩; (have HT := Lib.hid (HT.out.on hb)); clear hb; (obtain ⟨c0, c1, c2, c3, c4, c5, c6, c7, c8, c9, c10, c11, c12, c13, c14, c15⟩ := cells16 HT.out.a); (obtain ⟨d0, d1, d2, d3, d4, d5, d6, d7, d8, d9, d10, d11, d12, d13, d14, d15⟩ := cells16 HT.out.b))
    | (go_at_call 42; refine (HN.out _).mono ?_; rintro e w' ⟨rfl, hb⟩; (have HT := Lib.hid (HT.out.on hb)); clear hb))
  go_ret
  exact ⟨rfl, HT.out.beh⟩
end Go.Proofs.Ytjdebdfbjcpjgaa.Lg
end
section
/- Cut out of Cmds60 so that every seat fills it. -/
namespace Go.Proofs.Ytjdebdfbjcpjgaa.Kv
open Go Go.RowKit Vl Nm Mem
attribute [local go_sem] run_bits run_frombits run_store_float
def Cm.heavy (c : Cm) : Bool := decide (2000 < c.key.size) || decide (2000 < c.old.text.size) || decide (2000 < c.val.text.size)
set_option maxHeartbeats 800000 in
theorem heavyCmd_any (c : Cm) (w : World) :
    Calls Try.prog 30 #[c.agg] w fun e w' => e = .returned (.bool c.heavy) ∧ Below w.heap.size w w' := by
  obtain ⟨k, key, ⟨ok, on, os⟩, ⟨vk, vn, vs⟩⟩ := c
  have HC := Lib.hid (show (Cm.mk k key ⟨ok, on, os⟩ ⟨vk, vn, vs⟩).heavy = (decide ((2000 : Int) < (key.size : Int)) || decide ((2000 : Int) < (os.size : Int)) || decide ((2000 : Int) < (vs.size : Int))) by
    unfold Cm.heavy; rw [← int_gt (n := 2000), ← int_gt (n := 2000), ← int_gt (n := 2000)]; rfl)
  cases h0 : decide ((2000 : Int) < (key.size : Int)) <;> cases h1 : decide ((2000 : Int) < (os.size : Int))
  all_goals
    go_enter Try.func30, Try.ntmps30
    go_wp2_with fail
    go_ret
    exact ⟨ret_bool (by rw [HC.out, h0, h1]; simp), below_alloc _ _⟩
end Go.Proofs.Ytjdebdfbjcpjgaa.Kv
end
section
/- Cut out of LogKeepB so that every seat fills it. -/
namespace Go.Proofs.Ytjdebdfbjcpjgaa.Lg
open Go Go.RowKit Vl Kv Ss Cn Mem Li Nm
attribute [local go_sem] Nm.run_bits Nm.run_frombits run_store_float
attribute [local irreducible] wpQuiet
def heavyL (L : List E) : Bool := decide (200 < L.length) || L.any (fun x => x.call.cmd.heavy)
theorem any_next {L : List E} {k : Nat} (hk : k < L.length) (h : (L.take k).any (fun x => x.call.cmd.heavy) = false) (hx : (L.getD k E.zero).call.cmd.heavy = false) : (L.take (k + 1)).any (fun x => x.call.cmd.heavy) = false := by
  have e : L.getD k E.zero = L[k] := by simp [hk]
  rw [e] at hx
  rw [List.take_succ_eq_append_getElem hk, List.any_append, h]
  simp [hx]
theorem any_hit {L : List E} {k : Nat} (hk : k < L.length) (hx : (L.getD k E.zero).call.cmd.heavy = true) : heavyL L = true := by
  have e : L.getD k E.zero = L[k] := by simp [hk]
  rw [e] at hx
  unfold heavyL
  rw [Bool.or_eq_true, List.any_eq_true]
  exact .inr ⟨_, List.getElem_mem hk, hx⟩
set_option maxHeartbeats 1600000 in
set_option maxRecDepth 100000 in
theorem heavyEnts_any (a : Option Addr) (cap : Nat) (L : List E) (w : World) (h : EntAt w a cap L) :
    Calls Try.prog 10 #[.slice a L.length cap] w fun e w' => e = .returned (.bool (heavyL L)) ∧ Below w.heap.size w w' := by
  have HI := Lib.hid h
  have hmx : L.length ≤ 9223372036854775807 := Nat.le_trans h.len h.max
  clear h
  by_cases hm : 200 < L.length
  · have d1 : decide ((200 : Int) < (L.length : Int)) = true := decide_eq_true (by omega)
    have HR := Lib.hid (show heavyL L = true by unfold heavyL; rw [decide_eq_true hm]; rfl)
    clear hm
    go_enter Try.func10, Try.ntmps10
    go_wp2
    go_ret
    exact ⟨ret_bool HR.out.symm, Below.refl _ _⟩
  · have d1 : decide ((200 : Int) < (L.length : Int)) = false := decide_eq_false (by omega)
    have HM := Lib.hid hm
    go_enter Try.func10, Try.ntmps10
    go_wp2
    go_loopw [3] (fun i wr => ∃ k : Nat, k ≤ L.length ∧ i = .int .i64 k ∧ Hid ((L.take k).any (fun x => x.call.cmd.heavy) = false) ∧ Hid (Beh w wr)) (fun i _ => L.length - (intOf i).toNat)
    case atStart => exact ⟨0, by omega, rfl, rfl, Beh.start _⟩
    case round =>
      obtain ⟨k, hk, rfl, hs, HW⟩ := hrel
      by_cases hlt : k < L.length
      · obtain ⟨b, off, rfl, hc⟩ := EntAt.cells (HI.out.below HW.out) (by omega)
        obtain ⟨c0, c1, c2, c3, c4, c5, c6, c7, c8, c9, c10, c11, c12, c13, c14, c15⟩ := hc k hlt
        have HN := Lib.hid (any_next hlt hs.out)
        have HH := Lib.hid (any_hit hlt)
        clear hc
        generalize L.getD k E.zero = x at *
        have HV := fun w => Lib.hid (heavyCmd_any x.call.cmd w)
        cases hq : x.call.cmd.heavy
        · simp only [hq] at HV
          go_wp2_with (go_at_call 30; refine ((HV _).out).mono ?_; rintro e w' ⟨rfl, hb⟩; (have HW := Lib.hid (HW.out.on hb)); clear hb)
          go_roundw
          case rel => exact ⟨k + 1, by omega, by go_num, HN.out hq, HW.out⟩
          case measure => simp [intOf]; omega
        · simp only [hq] at HV
          go_wp2_with (go_at_call 30; refine ((HV _).out).mono ?_; rintro e w' ⟨rfl, hb⟩; (have HW := Lib.hid (HW.out.on hb)); clear hb)
          go_ret
          exact ⟨ret_bool (HH.out hq).symm, HW.out⟩
      · obtain rfl : k = L.length := by omega
        go_wp2
        go_ret
        refine ⟨ret_bool ?_, HW.out⟩
        have := hs.out
        rw [List.take_length] at this
        unfold heavyL
        rw [this, decide_eq_false HM.out]; rfl
end Go.Proofs.Ytjdebdfbjcpjgaa.Lg
end
section
/- The keeper's Entries, of one list with itself. -/
namespace Go.Proofs.Ytjdebdfbjcpjgaa.Lg
open Go Go.RowKit Vl Kv Ss Cn Mem Li Nm
attribute [local go_sem] Nm.run_bits Nm.run_frombits run_store_float
attribute [local irreducible] wpQuiet

set_option maxHeartbeats 3200000 in
set_option maxRecDepth 100000 in
theorem keepEnts_self (a : Option Addr) (cap : Nat) (a2 : Option Addr) (cap2 : Nat) (L : List E) (w : World) (h : EntAt w a cap L) (h2 : EntAt w a2 cap2 L) :
    Calls Try.prog 56 #[.slice a L.length cap, .slice a2 L.length cap2] w fun e w' => e = .returned (.bool true) ∧ Below w.heap.size w w' := by
  have HI := Lib.hid h
  have HJ := Lib.hid h2
  have hmx : L.length ≤ 9223372036854775807 := Nat.le_trans h.len h.max
  clear h h2
  go_enter Try.func56, Try.ntmps56
  go_wp2
  go_loopw [5] (fun i wr => ∃ k : Nat, k ≤ L.length ∧ i = .int .i64 k ∧ Hid (Kv.Beh w wr)) (fun i _ => L.length - (intOf i).toNat)
  case atStart => exact ⟨0, by omega, rfl, Beh.start _⟩
  case round =>
    obtain ⟨k, hk, rfl, HW⟩ := hrel
    by_cases hlt : k < L.length
    · obtain ⟨cS, oS, rfl, _⟩ := EntAt.cells HI.out (by omega)
      obtain ⟨cT, oT, rfl, _⟩ := EntAt.cells HJ.out (by omega)
      have HPS : Hid (∀ wq, Kv.Beh w wq → E.Cells wq cS (oS + k * 16) (L.getD k E.zero)) := fun wq hq => by
        obtain ⟨_, _, he, hc⟩ := EntAt.cells (HI.out.below hq) (by omega); cases he; exact hc k hlt
      have HPT : Hid (∀ wq, Kv.Beh w wq → E.Cells wq cT (oT + k * 16) (L.getD k E.zero)) := fun wq hq => by
        obtain ⟨_, _, he, hc⟩ := EntAt.cells (HJ.out.below hq) (by omega); cases he; exact hc k hlt
      generalize L.getD k E.zero = x at *
      go_wp2_with fail
      refine wp_region_quiet (C := Kv.Beh wr) (by kernel_rfl) (by kernel_rfl) (Beh.start _).drew ?_
      repeat (first
        | (refine BigFrame.wpQuiet_skip (by exact Eq.refl false) ?_
           ((try simp only [Act.put]); (try simp only [List.setIfInBounds_toArray]); (try simp only [List.set_cons_zero, List.set_cons_succ])))
        | (refine BigFrame.wpQuiet_want (by exact Eq.refl true) (fun K hK => ?_)
           first
           | (refine quiet_move2 _ rfl (by go_simp; rfl) ?_; refine hK _ ?_)
           | (apply Exists.intro
              refine ⟨fun wq hq => ?_, hK _ ?_⟩
              · ((obtain ⟨c0, c1, c2, c3, c4, c5, c6, c7, c8, c9, c10, c11, c12, c13, c14, c15⟩ := HPS.out _ (HW.out.trans hq)); (obtain ⟨d0, d1, d2, d3, d4, d5, d6, d7, d8, d9, d10, d11, d12, d13, d14, d15⟩ := HPT.out _ (HW.out.trans hq))
                 have HQ := Lib.hid hq
                 clear hq
                 unfold Oper.quietAt
                 go_simp
                 first
                 | rfl
                 | (go_at_call 16; exact (keepEntry_self x _).mono (fun e w' ⟨he, hb⟩ => ⟨he, HQ.out.on hb⟩))))
           clear hK K
           ((try simp only [Act.put]); (try simp only [List.setIfInBounds_toArray]); (try simp only [List.set_cons_zero, List.set_cons_succ]))))
      refine wpQuiet_nil ?_
      intro wq hq
      have HQ := Lib.hid (HW.out.trans hq)
      clear hq
      go_wp2_with fail
      go_roundw
      case rel => exact ⟨k + 1, by omega, by go_num, HQ.out⟩
      case measure => simp [intOf]; omega
    · obtain rfl : k = L.length := by omega
      go_wp2
      go_ret
      exact ⟨rfl, HW.out⟩
end Go.Proofs.Ytjdebdfbjcpjgaa.Lg
end
section
/- Cut out of LogKeepD so that every seat fills it. -/
namespace Go.Proofs.Ytjdebdfbjcpjgaa.Lg
open Go Go.RowKit Vl Kv Ss Cn Mem Li Nm
attribute [local go_sem] Nm.run_bits Nm.run_frombits run_store_float
attribute [local irreducible] wpQuiet
set_option maxHeartbeats 3200000 in
set_option maxRecDepth 100000 in
theorem heavy_any (h : H) (p : Hp) (w : World) (ha : HardAt w h p) :
    Calls Try.prog 18 #[h.val p] w fun e w' => e = .returned (.bool (heavyL h.log || decide (32768 < (h.snap.length : Int)))) ∧ Below w.heap.size w w' := by
  have HB := Lib.hid (Bh.Bx.one w (h.obj p))
  have hl := ha.snap.len
  have HV : Hid (∀ W, Kv.Beh w W → Calls Try.prog 10 #[.slice p.la h.log.length p.lc] W fun e w' => e = .returned (.bool (heavyL h.log)) ∧ Below W.heap.size W w') := fun W hW => heavyEnts_any p.la p.lc h.log W (ha.on hW).log
  clear ha
  generalize heavyL h.log = q at *
  obtain ⟨c0, c1, c2, c3, c4, c5, c6, c7, c8, c9⟩ := cells10h HB.out.b0
  cases q
  all_goals
    go_enter Try.func18, Try.ntmps18
    go_wp2_with (first | (go_at_call 10; refine Calls.mono (HV.out _ HB.out.beh) ?_; rintro e w' ⟨rfl, hb⟩; (have HB := Lib.hid (HB.out.on hb)); clear hb; (obtain ⟨c0, c1, c2, c3, c4, c5, c6, c7, c8, c9⟩ := cells10h HB.out.b0)))
    go_ret
    exact ⟨by first | rfl | simp, HB.out.beh⟩
theorem same_bytes {l : List Nat} {w : World} {x : Ending} {w' : World} (h : Kp.SameB l l w x w') : x = .returned (.bool true) ∧ Below w.heap.size w w' := by
  obtain ⟨h1, n, rfl⟩ := h
  rw [decide_eq_true rfl] at h1
  exact ⟨h1, Bh.below_drewN (Below.refl _ _) _⟩
set_option maxHeartbeats 3200000 in
set_option maxRecDepth 100000 in
theorem keepHard_self (h : H) (p q : Hp) (w : World) (ha : HardAt w h p) (hb : HardAt w h q) (hs : h.snap.length ≤ 100000) :
    Calls Try.prog 25 #[h.val p, h.val q] w fun e w' => e = .returned (.bool true) ∧ Below w.heap.size w w' := by
  have HB := Lib.hid (Bh.Bx.two w (h.obj p) (h.obj q))
  have HN : Hid (∀ w, Calls Try.prog 42 #[h.conf.val, h.conf.val] w fun e w' => e = .returned (.bool true) ∧ Below w.heap.size w w') := fun w => by
    have := keepConf_any h.conf h.conf w
    rwa [decide_eq_true rfl] at this
  have HY : Hid (∀ W, Kv.Beh w W → Calls Try.prog 13 #[.slice p.sa h.snap.length p.sc, .slice q.sa h.snap.length q.sc] W fun e w' => e = .returned (.bool true) ∧ Below W.heap.size W w') := fun W hW =>
    (Kp.KBytes_any p.sb p.sa p.sc h.snap q.sb q.sa q.sc h.snap W (ha.on hW).snap (hb.on hW).snap (by omega) (by omega)).mono fun e w' hx => same_bytes hx
  have HE : Hid (∀ W, Kv.Beh w W → Calls Try.prog 56 #[.slice p.la h.log.length p.lc, .slice q.la h.log.length q.lc] W fun e w' => e = .returned (.bool true) ∧ Below W.heap.size W w') := fun W hW => keepEnts_self _ _ _ _ _ W (ha.on hW).log (hb.on hW).log
  clear ha hb
  obtain ⟨c0, c1, c2, c3, c4, c5, c6, c7, c8, c9⟩ := cells10h HB.out.b0
  obtain ⟨d0, d1, d2, d3, d4, d5, d6, d7, d8, d9⟩ := cells10h HB.out.b1
  go_enter Try.func25, Try.ntmps25
  go_wp2_with (first
    | (go_at_call 42; refine Calls.mono (HN.out _) ?_; rintro e w' ⟨rfl, hb⟩; (have HB := Lib.hid (HB.out.on hb)); clear hb; (obtain ⟨c0, c1, c2, c3, c4, c5, c6, c7, c8, c9⟩ := cells10h HB.out.b0); (obtain ⟨d0, d1, d2, d3, d4, d5, d6, d7, d8, d9⟩ := cells10h HB.out.b1))
    | (go_at_call 13; refine Calls.mono (HY.out _ HB.out.beh) ?_; rintro e w' ⟨rfl, hb⟩; (have HB := Lib.hid (HB.out.on hb)); clear hb; (obtain ⟨c0, c1, c2, c3, c4, c5, c6, c7, c8, c9⟩ := cells10h HB.out.b0); (obtain ⟨d0, d1, d2, d3, d4, d5, d6, d7, d8, d9⟩ := cells10h HB.out.b1))
    | (go_at_call 56; refine Calls.mono (HE.out _ HB.out.beh) ?_; rintro e w' ⟨rfl, hb⟩; (have HB := Lib.hid (HB.out.on hb)); clear hb))
  go_ret
  exact ⟨rfl, HB.out.beh⟩
end Go.Proofs.Ytjdebdfbjcpjgaa.Lg
end
