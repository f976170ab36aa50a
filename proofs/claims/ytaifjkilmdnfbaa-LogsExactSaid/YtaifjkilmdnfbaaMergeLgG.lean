import Derived.Test.YtaifjkilmdnfbaaLogInst
import Derived.Test.YtaifjkilmdnfbaaLogCode9
import Derived.Test.YtaifjkilmdnfbaaLogInstM
import Derived.Test.YtaifjkilmdnfbaaMergeLgR
import Derived.Test.YtaifjkilmdnfbaaLogRef4
import Derived.Test.YtaifjkilmdnfbaaLogRef6
import Derived.Test.YtaifjkilmdnfbaaLogSlice
import Derived.Test.YtaifjkilmdnfbaaLogCodeA
section
/- Package logs: Compact. -/
namespace Go.Proofs.Ytaifjkilmdnfbaa.Lg
open Go Go.RowKit Vl Kv Ss Cn Mem Li Nm
attribute [local go_sem] Nm.run_bits Nm.run_frombits run_store_float
attribute [local irreducible] wpQuiet
set_option maxHeartbeats 12800000 in
set_option maxRecDepth 100000 in
theorem Compact_any (h : H) (p : Hp) (i : Int) (b : Nat) (a : Option Addr) (cap : Nat) (s : List Nat) (w : World) (ha : HardAt w h p) (hl : Src w b a cap s) (hs : s.length ≤ 100000) (hn : h.log.length ≤ 100000) :
    Calls Try.prog 44 #[h.val p, .int .i64 i, .slice a s.length cap] w (HardTold (h.comp i s) (h.compOk i s) w) := by
  have HB := Lib.hid (Bh.Bx.two w (h.obj p) (H.zero.obj Hp.none))
  have HC : Hid (∀ W, Kv.Beh w W → Calls Try.prog 18 #[h.val p] W fun e w' => e = .returned (.int .i64 h.check) ∧ Below W.heap.size W w') := fun W hW => Check_h h p W (ha.on hW)
  have HK : Hid (h.check = if h.right = true then 0 else 6) := rfl
  have HA := Lib.hid (show HardAt w h p ∧ Src w b a cap s from ⟨ha, hl⟩)
  clear ha hl
  cases hr : h.right
  · obtain ⟨e1, e2⟩ := comp_bad (i := i) (s := s) hr
    rw [e1, e2]
    rw [hr] at HK
    have hk6 : h.check = 6 := HK.out
    rw [hk6] at HC
    clear HK hk6 e1 e2
    go_enter Try.func44, Try.ntmps44
    go_wp2_with (first
      | (apply Bh.load_bx 0 HB.out Try.underlying27; rfl; rfl; rfl; rfl; rfl; kernel_rfl)
      | (go_at_call 18; refine Calls.mono (HC.out _ HB.out.beh) ?_; rintro e wq ⟨rfl, hb⟩; (have HB := Lib.hid (HB.out.on hb)); clear hb)
      | (apply Bh.store_bx 10 1 HB.out; rfl; rfl; rfl; rfl; rfl; rfl; kernel_rfl; rfl; rfl; intro wz hz; have HB := Lib.hid hz; clear hz))
    (try simp only [Exit.inBlock, Exit.then])
    refine bodyPost_ret (Bh.results_cell_row2 rfl _ _ _ _ _ _ _ rfl HB.out.b1 Try.underlying27 rfl (by kernel_rfl)) rfl ?_
    exact HardTold.zero HB.out.beh
  have hnum := right_num hr hn
  rw [hr] at HK
  have hk0 : h.check = 0 := HK.out
  rw [hk0] at HC
  clear HK hk0
  have HEN : Hid (∀ W, Kv.Beh w W → Calls Try.prog 16 #[h.val p, .int .i64 i] W fun e w' => e = .returned (.tuple #[(h.entry i).agg, .bool (h.has i)]) ∧ Below W.heap.size W w') := fun W hW => Entry_any h p i W hnum (HA.out.1.on hW)
  cases hh : h.has i
  case false =>
    obtain ⟨e1, e2⟩ := comp_arg (s := s) hr hh
    rw [e1, e2]
    rw [hh] at HEN
    generalize h.entry i = en at *
    clear e1 e2 hnum
    go_enter Try.func44, Try.ntmps44
    go_wp2_with (first
      | (apply Bh.load_bx 0 HB.out Try.underlying27; rfl; rfl; rfl; rfl; rfl; kernel_rfl)
      | (go_at_call 18; refine Calls.mono (HC.out _ HB.out.beh) ?_; rintro e wq ⟨rfl, hb⟩; (have HB := Lib.hid (HB.out.on hb)); clear hb)
      | (go_at_call 16; refine Calls.mono (HEN.out _ HB.out.beh) ?_; rintro e wq ⟨rfl, hb⟩; (have HB := Lib.hid (HB.out.on hb)); clear hb; (have HE := Lib.hid (Bh.Bx.one wq E.zero.obj)))
      | (apply Bh.store_bx 16 0 HE.out; rfl; rfl; rfl; rfl; rfl; rfl; kernel_rfl; rfl; rfl; intro wz hz; have HE := Lib.hid hz; (have HB := Lib.hid (HB.out.on hz.beh)); clear hz; (have ce := (cells16e HE.out.b0).1))
      | (apply Bh.store_bx 10 1 HB.out; rfl; rfl; rfl; rfl; rfl; rfl; kernel_rfl; rfl; rfl; intro wz hz; have HB := Lib.hid hz; clear hz))
    (try simp only [Exit.inBlock, Exit.then])
    refine bodyPost_ret (Bh.results_cell_row2 rfl _ _ _ _ _ _ _ rfl HB.out.b1 Try.underlying27 rfl (by kernel_rfl)) rfl ?_
    exact HardTold.zero HB.out.beh
  case true =>
    obtain ⟨e1, e2, _⟩ := comp_inst (s := s) hr hh
    have e3 := termOf_has (h := h) (i := i) (by have := (has_iff.1 hh).1; omega) hh
    have HIN : Hid (∀ W, Kv.Beh w W → Calls Try.prog 46 #[h.val p, .int .i64 i, .int .i64 (h.entry i).term, (h.force i).1.val, .slice a s.length cap] W (HardTold (h.comp i s) (h.compOk i s) W)) := fun W hW => by
      have := Install_any h p i (h.entry i).term (h.force i).1 b a cap s W (HA.out.1.on hW) (HA.out.2.kept (Kept.of_below hW) (fun _ h => h)) hs hn
      rwa [← e3, ← e1, ← e2, e3] at this
    have HCO : Hid (∀ W, Kv.Beh w W → Calls Try.prog 23 #[h.val p, .int .i64 i] W fun e w' => e = .returned (.tuple #[(h.force i).1.val, .int .i64 (h.force i).2]) ∧ Below W.heap.size W w') := fun W hW => Conf_any h p i W hnum (HA.out.1.on hW)
    rw [hh] at HEN
    generalize h.comp i s = X at *
    generalize h.compOk i s = cc at *
    generalize h.entry i = en at *
    generalize h.force i = fc at *
    obtain ⟨cf, ci⟩ := fc
    dsimp only at HIN HCO
    clear e1 e2 e3 hnum HA
    go_enter Try.func44, Try.ntmps44
    go_wp2_with (first
      | (apply Bh.load_bx 0 HB.out Try.underlying27; rfl; rfl; rfl; rfl; rfl; kernel_rfl)
      | (apply Bh.load_bx 0 HF.out Try.underlying23; rfl; rfl; rfl; rfl; rfl; kernel_rfl)
      | (go_at_call 18; refine Calls.mono (HC.out _ HB.out.beh) ?_; rintro e wq ⟨rfl, hb⟩; (have HB := Lib.hid (HB.out.on hb)); clear hb)
      | (go_at_call 16; refine Calls.mono (HEN.out _ HB.out.beh) ?_; rintro e wq ⟨rfl, hb⟩; (have HB := Lib.hid (HB.out.on hb)); clear hb; (have HE := Lib.hid (Bh.Bx.one wq E.zero.obj)))
      | (apply Bh.store_bx 16 0 HE.out; rfl; rfl; rfl; rfl; rfl; rfl; kernel_rfl; rfl; rfl; intro wz hz; have HE := Lib.hid hz; (have HB := Lib.hid (HB.out.on hz.beh)); clear hz; (have ce := (cells16e HE.out.b0).1))
      | (go_at_call 23; refine Calls.mono (HCO.out _ HB.out.beh) ?_; rintro e wr ⟨rfl, hb⟩; (have HB := Lib.hid (HB.out.on hb)); (have HE := Lib.hid (HE.out.on hb)); clear hb; (have HF := Lib.hid (Bh.Bx.one wr (Lg.C.obj C.zero))))
      | (apply Bh.store_bx 4 0 HF.out; rfl; rfl; rfl; rfl; rfl; rfl; kernel_rfl; rfl; rfl; intro wz hz; have HF := Lib.hid hz; (have HB := Lib.hid (HB.out.on hz.beh)); (have HE : Hid (Bh.Bx _ [en.obj] _) := Lib.hid (HE.out.on hz.beh)); clear hz; (have ce := (cells16e HE.out.b0).1))
      | (go_at_call 46; refine Calls.mono (HIN.out _ HB.out.beh) ?_; rintro e wi ⟨q, rfl, hm⟩; (have hB0 := HB.out); (have HB := Lib.hid (HB.out.on hm.beh)); (have HM := Lib.hid hm); clear hm)
      | (apply Bh.store_bk 10 1 HB.out; rfl; rfl; rfl; rfl; rfl; rfl; kernel_rfl; rfl; rfl; intro wz hz he; (have HM := Lib.hid (HM.out.behind hB0.beh he (by omega) hB0.lt)); have HB := Lib.hid hz; clear hz he hB0))
    (try simp only [Exit.inBlock, Exit.then])
    refine bodyPost_ret (Bh.results_cell_row2 rfl _ _ _ _ _ _ _ rfl HB.out.b1 Try.underlying27 rfl (by kernel_rfl)) rfl ?_
    exact ⟨q, rfl, HM.out⟩
end Go.Proofs.Ytaifjkilmdnfbaa.Lg
end
section
/- The reference: Compact. -/
namespace Go.Proofs.Ytaifjkilmdnfbaa.Lg
open Go Go.RowKit Vl Kv Ss Cn Mem Li Nm
attribute [local go_sem] Nm.run_bits Nm.run_frombits run_store_float
attribute [local irreducible] wpQuiet
theorem comp_within (h : H) (i : Int) : (decide (h.base + 1 ≤ i) && decide (i ≤ min h.last 1099511627776)) = (h.has i && !decide (1099511627776 < i)) := by
  unfold H.has
  have e1 : decide (h.base + 1 ≤ i) = decide (h.base < i) := decide_eq_decide.2 (by omega)
  rw [e1]
  by_cases h1 : 1099511627776 < i
  · rw [decide_eq_true h1, decide_eq_false (by omega : ¬ i ≤ min h.last 1099511627776)]; simp
  · rw [decide_eq_false h1]
    have e2 : decide (i ≤ min h.last 1099511627776) = decide (i ≤ h.last) := decide_eq_decide.2 (by omega)
    rw [e2]; simp
theorem comp_out {h : H} {i : Int} {s : List Nat} (x : h.right = true) (y : (h.has i && !decide (1099511627776 < i)) = false) : h.compOk i s = 1 ∧ h.comp i s = H.zero := by
  have : h.compOk i s = 1 := by
    unfold H.compOk
    rw [if_neg (by rw [x]; simp), if_pos]
    cases hh : h.has i
    · rfl
    · rw [hh] at y; simpa using y
  exact ⟨this, by unfold H.comp; rw [if_neg (by omega)]⟩
theorem comp_long {h : H} {i : Int} {s : List Nat} (x : h.right = true) (y : (h.has i && !decide (1099511627776 < i)) = true) (v : 16384 < s.length) : h.compOk i s = 2 ∧ h.comp i s = H.zero := by
  rw [Bool.and_eq_true] at y
  have : h.compOk i s = 2 := by
    unfold H.compOk
    rw [if_neg (by rw [x]; simp), if_neg (by rw [y.1]; have := y.2; simpa using this), if_pos v]
  exact ⟨this, by unfold H.comp; rw [if_neg (by omega)]⟩
theorem comp_ok {h : H} {i : Int} {s : List Nat} (x : h.right = true) (y : (h.has i && !decide (1099511627776 < i)) = true) (v : ¬ 16384 < s.length) : h.compOk i s = 0 ∧ h.comp i s = ⟨h.term, h.vote, i, h.termOf i, (h.force i).1, s, h.log.drop (h.off i)⟩ := by
  rw [Bool.and_eq_true] at y
  have : h.compOk i s = 0 := by
    unfold H.compOk
    rw [if_neg (by rw [x]; simp), if_neg (by rw [y.1]; have := y.2; simpa using this), if_neg v]
  exact ⟨this, by unfold H.comp; rw [if_pos this]⟩
set_option maxHeartbeats 12800000 in
set_option maxRecDepth 100000 in
theorem rCompact_any (h : H) (p : Hp) (i : Int) (b : Nat) (a : Option Addr) (cap : Nat) (s : List Nat) (w : World) (ha : HardAt w h p) (hl : Src w b a cap s) (hs : s.length ≤ 100000) (hn : h.log.length ≤ 100000) :
    Calls Try.prog 45 #[h.val p, .int .i64 i, .slice a s.length cap] w (HardTold (h.comp i s) (h.compOk i s) w) := by
  have HB := Lib.hid (Bh.Bx.two w (h.obj p) (H.zero.obj Hp.none))
  have HC : Hid (∀ W, Kv.Beh w W → Calls Try.prog 19 #[h.val p] W fun e w' => e = .returned (.bool h.right) ∧ Below W.heap.size W w') := fun W hW => rHard_any h p W (ha.on hW)
  have HA := Lib.hid (show HardAt w h p ∧ Src w b a cap s from ⟨ha, hl⟩)
  clear ha hl
  cases hr : h.right
  · obtain ⟨e1, e2⟩ := comp_bad (i := i) (s := s) hr
    rw [e1, e2]
    rw [hr] at HC
    clear e1 e2
    go_enter Try.func45, Try.ntmps45
    go_wp2_with (first
      | (apply Bh.load_bx 0 HB.out Try.underlying27; rfl; rfl; rfl; rfl; rfl; kernel_rfl)
      | (go_at_call 19; refine Calls.mono (HC.out _ HB.out.beh) ?_; rintro e wq ⟨rfl, hb⟩; (have HB := Lib.hid (HB.out.on hb)); clear hb; (obtain ⟨x0, x1, x2, x3, x4, x5, x6, x7, x8, x9⟩ := cells10h HB.out.b0))
      | (apply Bh.store_bx 10 1 HB.out; rfl; rfl; rfl; rfl; rfl; rfl; kernel_rfl; rfl; rfl; intro wz hz; have HB := Lib.hid hz; clear hz))
    (try simp only [Exit.inBlock, Exit.then])
    refine bodyPost_ret (Bh.results_cell_row2 rfl _ _ _ _ _ _ _ rfl HB.out.b1 Try.underlying27 rfl (by kernel_rfl)) rfl ?_
    exact HardTold.zero HB.out.beh
  have hnum := right_num hr hn
  have n1 := hnum.lo; have n2 := hnum.hi
  rw [hr] at HC
  have HL : Hid (∀ W, Kv.Beh w W → Calls Try.prog 15 #[h.val p] W fun e w' => e = .returned (.tuple #[.int .i64 h.last, .int .i64 h.lastT]) ∧ Below W.heap.size W w') := fun W hW => rLast_any h p W hnum (HA.out.1.on hW)
  have f1 := comp_within h i
  cases hy : (h.has i && !decide (1099511627776 < i))
  case false =>
    obtain ⟨e1, e2⟩ := comp_out (s := s) hr hy
    rw [e1, e2]
    rw [hy] at f1
    clear e1 e2 hnum
    generalize h.last = ln at *
    generalize h.lastT = lt at *
    go_enter Try.func45, Try.ntmps45
    go_wp2_with (first
      | (apply Bh.load_bx 0 HB.out Try.underlying27; rfl; rfl; rfl; rfl; rfl; kernel_rfl)
      | (go_at_call 19; refine Calls.mono (HC.out _ HB.out.beh) ?_; rintro e wq ⟨rfl, hb⟩; (have HB := Lib.hid (HB.out.on hb)); clear hb; (obtain ⟨x0, x1, x2, x3, x4, x5, x6, x7, x8, x9⟩ := cells10h HB.out.b0))
      | (go_at_call 15; refine Calls.mono (HL.out _ HB.out.beh) ?_; rintro e wq ⟨rfl, hb⟩; (have HB := Lib.hid (HB.out.on hb)); clear hb; (obtain ⟨x0, x1, x2, x3, x4, x5, x6, x7, x8, x9⟩ := cells10h HB.out.b0))
      | (go_at_call 54; refine (rwithin_any _ _ _ _).mono ?_; rintro e w' ⟨rfl, rfl⟩; rw [f1])
      | (apply Bh.store_bx 10 1 HB.out; rfl; rfl; rfl; rfl; rfl; rfl; kernel_rfl; rfl; rfl; intro wz hz; have HB := Lib.hid hz; clear hz))
    (try simp only [Exit.inBlock, Exit.then])
    refine bodyPost_ret (Bh.results_cell_row2 rfl _ _ _ _ _ _ _ rfl HB.out.b1 Try.underlying27 rfl (by kernel_rfl)) rfl ?_
    exact HardTold.zero HB.out.beh
  case true =>
    rw [hy] at f1
    by_cases hlen : 16384 < s.length
    case pos =>
      obtain ⟨e1, e2⟩ := comp_long (s := s) hr hy hlen
      rw [e1, e2]
      have d1 : decide ((16384 : Int) < (s.length : Int)) = true := decide_eq_true (by omega)
      clear e1 e2 hnum
      generalize h.last = ln at *
      generalize h.lastT = lt at *
      go_enter Try.func45, Try.ntmps45
      go_wp2_with (first
        | (apply Bh.load_bx 0 HB.out Try.underlying27; rfl; rfl; rfl; rfl; rfl; kernel_rfl)
        | (go_at_call 19; refine Calls.mono (HC.out _ HB.out.beh) ?_; rintro e wq ⟨rfl, hb⟩; (have HB := Lib.hid (HB.out.on hb)); clear hb; (obtain ⟨x0, x1, x2, x3, x4, x5, x6, x7, x8, x9⟩ := cells10h HB.out.b0))
        | (go_at_call 15; refine Calls.mono (HL.out _ HB.out.beh) ?_; rintro e wq ⟨rfl, hb⟩; (have HB := Lib.hid (HB.out.on hb)); clear hb; (obtain ⟨x0, x1, x2, x3, x4, x5, x6, x7, x8, x9⟩ := cells10h HB.out.b0))
        | (go_at_call 54; refine (rwithin_any _ _ _ _).mono ?_; rintro e w' ⟨rfl, rfl⟩; rw [f1])
        | (apply Bh.store_bx 10 1 HB.out; rfl; rfl; rfl; rfl; rfl; rfl; kernel_rfl; rfl; rfl; intro wz hz; have HB := Lib.hid hz; clear hz))
      (try simp only [Exit.inBlock, Exit.then])
      refine bodyPost_ret (Bh.results_cell_row2 rfl _ _ _ _ _ _ _ rfl HB.out.b1 Try.underlying27 rfl (by kernel_rfl)) rfl ?_
      exact HardTold.zero HB.out.beh
    case neg =>
      obtain ⟨e1, e2⟩ := comp_ok (s := s) hr hy hlen
      rw [e1, e2]
      have d1 : decide ((16384 : Int) < (s.length : Int)) = false := decide_eq_false (by omega)
      have hh : h.has i = true := by rw [Bool.and_eq_true] at hy; exact hy.1
      have hh1 := has_iff.1 hh
      have hok : i - h.base = (h.off i : Int) ∧ h.off i ≤ h.log.length := by unfold H.last at hh1; unfold H.off; omega
      obtain ⟨ho1, ho2⟩ := hok
      have hi1 : h.base < i := hh1.1
      have hi2 : i ≤ 1099511627776 := by rw [Bool.and_eq_true, Bool.not_eq_true', decide_eq_false_iff_not] at hy; omega
      have hsub : IntKind.i64.wrap (i - h.base) = (h.off i : Int) := by rw [wrap_in (by omega) (by omega)]; exact ho1
      obtain ⟨a1, m1, c1, hs11, hm1, he1⟩ := slice_from HA.out.1.log (h.off i) ho2
      have HFR : Hid (∀ W, Kv.Beh w W → Calls Try.prog 40 #[.slice a1 m1 c1] W fun e w' => ∃ b' a' cap', e = .returned (.slice a' (h.log.drop (h.off i)).length cap') ∧ Made 40 W w' b' a' cap' (h.log.drop (h.off i))) := fun W hW => by
        rw [hm1]; exact twinEnts_any a1 c1 _ W (he1 W hW) (by rw [List.length_drop]; omega)
      have HSN0 : Hid (∀ W, Kv.Beh w W → Calls Try.prog 41 #[.slice a s.length cap] W (Kp.NewB s W)) := fun W hW => Kp.Twin_any b a cap s W (HA.out.2.kept (Kept.of_below hW) (fun _ h => h)) (by omega)
      have HTM : Hid (∀ W, Kv.Beh w W → Calls Try.prog 21 #[h.val p, .int .i64 i] W fun e w' => e = .returned (.int .i64 (h.termOf i)) ∧ Below W.heap.size W w') := fun W hW => rTerm_any h p i W hnum (HA.out.1.on hW)
      have HCO : Hid (∀ W, Kv.Beh w W → Calls Try.prog 24 #[h.val p, .int .i64 i] W fun e w' => e = .returned (.tuple #[(h.force i).1.val, .int .i64 (h.force i).2]) ∧ Below W.heap.size W w') := fun W hW => rForce_any h p i W hnum (HA.out.1.on hW)
      clear e1 e2 hlen hh hh1 hm1 he1 ho1 ho2 hnum hy
      generalize h.log.drop (h.off i) = DL at *
      generalize h.off i = kk at *
      generalize h.termOf i = tm at *
      generalize h.force i = fc at *
      obtain ⟨cf, ci⟩ := fc
      dsimp only at HCO
      generalize h.last = ln at *
      generalize h.lastT = lt at *
      go_enter Try.func45, Try.ntmps45
      go_wp2_with (first
        | (apply Bh.load_bx 0 HB.out Try.underlying27; rfl; rfl; rfl; rfl; rfl; kernel_rfl)
        | (go_at_call 19; refine Calls.mono (HC.out _ HB.out.beh) ?_; rintro e wq ⟨rfl, hb⟩; (have HB := Lib.hid (HB.out.on hb)); clear hb; (obtain ⟨x0, x1, x2, x3, x4, x5, x6, x7, x8, x9⟩ := cells10h HB.out.b0))
        | (go_at_call 15; refine Calls.mono (HL.out _ HB.out.beh) ?_; rintro e wq ⟨rfl, hb⟩; (have HB := Lib.hid (HB.out.on hb)); clear hb; (obtain ⟨x0, x1, x2, x3, x4, x5, x6, x7, x8, x9⟩ := cells10h HB.out.b0))
        | (go_at_call 54; refine (rwithin_any _ _ _ _).mono ?_; rintro e w' ⟨rfl, rfl⟩; rw [f1])
        | (go_at_call 24; refine Calls.mono (HCO.out _ HB.out.beh) ?_; rintro e wr ⟨rfl, hb⟩; (have HB := Lib.hid (HB.out.on hb)); clear hb; (have HW := HB); (have HF := Lib.hid (Bh.Bx.one wr (Lg.C.obj C.zero))))
        | (apply Bh.store_bx 4 0 HF.out; rfl; rfl; rfl; rfl; rfl; rfl; kernel_rfl; rfl; rfl; intro wz hz; have HF := Lib.hid hz; (have HB := Lib.hid (HB.out.on hz.beh)); clear hz))
      refine wp_region_held_drew (S := fun W => Bh.Bx w [h.obj p] W ∧ W.heap[wr.heap.size]? = some (Lg.C.obj cf)) (by kernel_rfl) (⟨HB.out.head.drew, HF.out.b0⟩) (fun hS => ?_)
      have HB := Lib.hid HB.out.drew
      have hwr : w.heap.size + 2 ≤ wr.heap.size := HW.out.lt
      clear HF HW
      generalize World.drew wz = wd at HB hS ⊢
      (try simp only [Act.put, List.getElem_toArray, List.getElem_cons_succ, List.getElem_cons_zero, List.setIfInBounds_toArray, List.set_cons_zero, List.set_cons_succ])
      refine wpAnyH_take (i := 0) (v := ?_) rfl (by kernel_rfl) (by kernel_rfl) (by kernel_rfl) (fun _ _ _ h => h) (Or.inl ⟨by rfl, ?_⟩) hS ?_
      rotate_left
      · intro W hW; go_simp; try with_reducible rfl
      (try simp only [Act.put, List.getElem_toArray, List.getElem_cons_zero, List.setIfInBounds_toArray, List.set_cons_zero, List.set_cons_succ])
      refine wpAnyH_take (i := 1) (v := ?_) rfl (by kernel_rfl) (by kernel_rfl) (by kernel_rfl) (fun _ _ _ h => h) (Or.inl ⟨by rfl, ?_⟩) hS ?_
      rotate_left
      · intro W hW; (obtain ⟨x0, x1, x2, x3, x4, x5, x6, x7, x8, x9⟩ := cells10h hW.1.b0); go_simp; try with_reducible rfl
      (try simp only [Act.put, List.getElem_toArray, List.getElem_cons_succ, List.getElem_cons_zero, List.setIfInBounds_toArray, List.set_cons_zero, List.set_cons_succ])
      refine wpAnyH_take (i := 2) (v := ?_) rfl (by kernel_rfl) (by kernel_rfl) (by kernel_rfl) (fun _ _ _ h => h) (Or.inl ⟨by rfl, ?_⟩) hS ?_
      rotate_left
      · intro W hW; go_simp; try with_reducible rfl
      (try simp only [Act.put, List.getElem_toArray, List.getElem_cons_succ, List.getElem_cons_zero, List.setIfInBounds_toArray, List.set_cons_zero, List.set_cons_succ])
      refine wpAnyH_take (i := 3) (v := ?_) rfl (by kernel_rfl) (by kernel_rfl) (by kernel_rfl) (fun _ _ _ h => h) (Or.inl ⟨by rfl, ?_⟩) hS ?_
      rotate_left
      · intro W hW; (obtain ⟨x0, x1, x2, x3, x4, x5, x6, x7, x8, x9⟩ := cells10h hW.1.b0); go_simp; try with_reducible rfl
      (try simp only [Act.put, List.getElem_toArray, List.getElem_cons_succ, List.getElem_cons_zero, List.setIfInBounds_toArray, List.set_cons_zero, List.set_cons_succ])
      refine wpAnyH_take (i := 4) (v := ?_) rfl (by kernel_rfl) (by kernel_rfl) (by kernel_rfl) (fun _ _ _ h => h) (Or.inl ⟨by rfl, ?_⟩) hS ?_
      rotate_left
      · intro W hW; go_simp; try with_reducible rfl
      (try simp only [Act.put, List.getElem_toArray, List.getElem_cons_succ, List.getElem_cons_zero, List.setIfInBounds_toArray, List.set_cons_zero, List.set_cons_succ])
      refine' wpAnyH_take (i := 5) (v := _) rfl (by kernel_rfl) (by kernel_rfl) (by kernel_rfl) (fun _ _ _ h => h) (Bh.yif_load_bx 0 (fun _ h => h.1) Try.underlying27 rfl rfl rfl rfl rfl (by kernel_rfl)) hS ?_
      (try simp only [Act.put, List.getElem_toArray, List.getElem_cons_succ, List.getElem_cons_zero, List.setIfInBounds_toArray, List.set_cons_zero, List.set_cons_succ])
      refine wpAnyH_take (i := 6) (v := ?_) rfl (by kernel_rfl) (by kernel_rfl) (by kernel_rfl) (fun _ _ _ h => h) (Or.inl ⟨by rfl, ?_⟩) hS ?_
      rotate_left
      · intro W hW; go_simp; try with_reducible rfl
      (try simp only [Act.put, List.getElem_toArray, List.getElem_cons_succ, List.getElem_cons_zero, List.setIfInBounds_toArray, List.set_cons_zero, List.set_cons_succ])
      refine' wpAnyH_take (i := 8) (v := _) rfl (by kernel_rfl) (by kernel_rfl) (by kernel_rfl) (fun _ _ _ h => h) (Bh.yif_load_at (fun _ h => h.2) Try.underlying23 rfl rfl rfl rfl (by kernel_rfl)) hS ?_
      (try simp only [Act.put, List.getElem_toArray, List.getElem_cons_succ, List.getElem_cons_zero, List.setIfInBounds_toArray, List.set_cons_zero, List.set_cons_succ])
      refine wpAnyH_take (i := 9) (v := ?_) rfl (by kernel_rfl) (by kernel_rfl) (by kernel_rfl) (fun _ _ _ h => h) (Or.inl ⟨by rfl, ?_⟩) hS ?_
      rotate_left
      · intro W hW; go_simp; try with_reducible rfl
      (try simp only [Act.put, List.getElem_toArray, List.getElem_cons_succ, List.getElem_cons_zero, List.setIfInBounds_toArray, List.set_cons_zero, List.set_cons_succ])
      refine wpAnyH_take (i := 11) (v := ?_) rfl (by kernel_rfl) (by kernel_rfl) (by kernel_rfl) (fun _ _ _ h => h) (Or.inl ⟨by rfl, ?_⟩) hS ?_
      rotate_left
      · intro W hW; go_simp; try with_reducible rfl
      (try simp only [Act.put, List.getElem_toArray, List.getElem_cons_succ, List.getElem_cons_zero, List.setIfInBounds_toArray, List.set_cons_zero, List.set_cons_succ])
      refine wpAnyH_take (i := 12) (v := ?_) rfl (by kernel_rfl) (by kernel_rfl) (by kernel_rfl) (fun _ _ _ h => h) (Or.inl ⟨by rfl, ?_⟩) hS ?_
      rotate_left
      · intro W hW; (obtain ⟨x0, x1, x2, x3, x4, x5, x6, x7, x8, x9⟩ := cells10h hW.1.b0); go_simp; try with_reducible rfl
      (try simp only [Act.put, List.getElem_toArray, List.getElem_cons_succ, List.getElem_cons_zero, List.setIfInBounds_toArray, List.set_cons_zero, List.set_cons_succ])
      refine wpAnyH_take (i := 13) (v := ?_) rfl (by kernel_rfl) (by kernel_rfl) (by kernel_rfl) (fun _ _ _ h => h) (Or.inl ⟨by rfl, ?_⟩) hS ?_
      rotate_left
      · intro W hW; go_simp; try with_reducible rfl
      (try simp only [Act.put, List.getElem_toArray, List.getElem_cons_succ, List.getElem_cons_zero, List.setIfInBounds_toArray, List.set_cons_zero, List.set_cons_succ])
      refine wpAnyH_take (i := 14) (v := ?_) rfl (by kernel_rfl) (by kernel_rfl) (by kernel_rfl) (fun _ _ _ h => h) (Or.inl ⟨by rfl, ?_⟩) hS ?_
      rotate_left
      · intro W hW; go_simp; try with_reducible rfl
      (try simp only [Act.put, List.getElem_toArray, List.getElem_cons_succ, List.getElem_cons_zero, List.setIfInBounds_toArray, List.set_cons_zero, List.set_cons_succ])
      refine wpAnyH_take (i := 15) (v := ?_) rfl (by kernel_rfl) (by kernel_rfl) (by kernel_rfl) (fun _ _ _ h => h) (Or.inl ⟨by rfl, ?_⟩) hS ?_
      rotate_left
      · intro W hW; (obtain ⟨x0, x1, x2, x3, x4, x5, x6, x7, x8, x9⟩ := cells10h hW.1.b0); go_simp; try with_reducible rfl
      (try simp only [Act.put, List.getElem_toArray, List.getElem_cons_succ, List.getElem_cons_zero, List.setIfInBounds_toArray, List.set_cons_zero, List.set_cons_succ])
      refine wpAnyH_take (i := 16) (v := ?_) rfl (by kernel_rfl) (by kernel_rfl) (by kernel_rfl) (fun _ _ _ h => h) (Or.inl ⟨by rfl, ?_⟩) hS ?_
      rotate_left
      · intro W hW; go_simp; try with_reducible rfl
      (try simp only [Act.put, List.getElem_toArray, List.getElem_cons_succ, List.getElem_cons_zero, List.setIfInBounds_toArray, List.set_cons_zero, List.set_cons_succ])
      refine wpAnyH_take (i := 17) (v := ?_) rfl (by kernel_rfl) (by kernel_rfl) (by kernel_rfl) (fun _ _ _ h => h) (Or.inl ⟨by rfl, ?_⟩) hS ?_
      rotate_left
      · intro W hW; go_simp; try with_reducible rfl
      (try simp only [Act.put, List.getElem_toArray, List.getElem_cons_succ, List.getElem_cons_zero, List.setIfInBounds_toArray, List.set_cons_zero, List.set_cons_succ])
      refine wpAnyH_ready (rs := [7]) (by kernel_rfl) (by simp) ?_
      refine AllReadyH.cons rfl (fun K hK => ?_) (AllReadyH.nil)
      all_goals (try simp only [List.getElem_toArray, List.getElem_cons_succ, List.getElem_cons_zero])
      go_simp
      go_at_call 21
      refine Calls.mono (HTM.out _ hS.1.beh) ?_
      rintro e wf1 ⟨rfl, hb⟩
      have HB := Lib.hid (HB.out.on hb)
      refine hK.out _ _ (⟨hS.1.on hb, Bh.box_on hS.2 hb⟩) (fun hS => ?_)
      clear hK K
      (try simp only [Act.put, List.getElem_toArray, List.getElem_cons_succ, List.getElem_cons_zero, List.setIfInBounds_toArray, List.set_cons_zero, List.set_cons_succ])
      clear hb
      refine wpAnyH_ready (rs := [10]) (by kernel_rfl) (by simp) ?_
      refine AllReadyH.cons rfl (fun K hK => ?_) (AllReadyH.nil)
      all_goals (try simp only [List.getElem_toArray, List.getElem_cons_succ, List.getElem_cons_zero])
      go_simp
      go_at_call 41
      refine Calls.mono (HSN0.out _ hS.1.beh) ?_
      intro e wf2 hq
      obtain ⟨sb, sa, sc, rfl, hown, hb⟩ := OwnS.of (lo := w.heap.size + 2) hq HB.out.lt
      have HB := Lib.hid (HB.out.on hb)
      refine hK.out _ _ (⟨hS.1.on hb, Bh.box_on hS.2 hb⟩) (fun hS => ?_)
      clear hK K
      (try simp only [Act.put, List.getElem_toArray, List.getElem_cons_succ, List.getElem_cons_zero, List.setIfInBounds_toArray, List.set_cons_zero, List.set_cons_succ])
      have HSN := Lib.hid hown
      clear hb hq hown
      refine wpAnyH_ready (rs := [18]) (by kernel_rfl) (by simp) ?_
      refine AllReadyH.cons rfl (fun K hK => ?_) (AllReadyH.nil)
      all_goals (try simp only [List.getElem_toArray, List.getElem_cons_succ, List.getElem_cons_zero])
      go_simp
      go_at_call 40
      refine Calls.mono (HFR.out _ hS.1.beh) ?_
      rintro e wf3 ⟨lb, la, lc, rfl, hml⟩
      have HLN := Lib.hid (OwnN.of (lo := w.heap.size + 2) hml HB.out.lt)
      have hb : Below _ _ _ := hml.beh
      have HSN := Lib.hid (HSN.out.on hb)
      have HB := Lib.hid (HB.out.on hb)
      refine hK.out _ _ (⟨hS.1.on hb, Bh.box_on hS.2 hb⟩) (fun hS => ?_)
      clear hK K
      (try simp only [Act.put, List.getElem_toArray, List.getElem_cons_succ, List.getElem_cons_zero, List.setIfInBounds_toArray, List.set_cons_zero, List.set_cons_succ])
      clear hb hml
      refine wpAnyH_take (i := 19) (v := ?_) rfl (by kernel_rfl) (by kernel_rfl) (by kernel_rfl) (fun _ _ _ h => h) (Or.inl ⟨by rfl, ?_⟩) hS ?_
      rotate_left
      · intro W hW; go_simp; try with_reducible rfl
      (try simp only [Act.put, List.getElem_toArray, List.getElem_cons_succ, List.getElem_cons_zero, List.setIfInBounds_toArray, List.set_cons_zero, List.set_cons_succ])
      refine wpAnyH_ready (rs := [20]) (by kernel_rfl) (by simp) ?_
      refine AllReadyH.cons rfl (fun K hK => ?_) (AllReadyH.nil)
      all_goals (try simp only [List.getElem_toArray, List.getElem_cons_succ, List.getElem_cons_zero])
      (apply Bh.step_store_bx 10 1 HB.out; rfl; rfl; rfl; rfl; rfl; rfl; kernel_rfl; rfl; rfl)
      intro wz3 hz he
      have HSN := Lib.hid (HSN.out.els he (by omega))
      have HLN := Lib.hid (HLN.out.els he (by omega))
      refine hK.out _ _ ⟨hS.1.els he (Nat.le_refl _), (he.block _ (by omega)).trans hS.2⟩ (fun hS => ?_)
      clear hK K
      (try simp only [Act.put])
      refine wpAnyH_take (i := 21) (v := ?_) rfl (by kernel_rfl) (by kernel_rfl) (by kernel_rfl) (fun _ _ _ h => h) (Or.inl ⟨by rfl, ?_⟩) hS ?_
      rotate_left
      · intro W hW; go_simp; try with_reducible rfl
      (try simp only [Act.put, List.getElem_toArray, List.getElem_cons_succ, List.getElem_cons_zero, List.setIfInBounds_toArray, List.set_cons_zero, List.set_cons_succ])
      refine wpAnyH_done (by kernel_rfl) ?_ _
      have HB := Lib.hid hz
      go_wp2_with fail
      (try simp only [Exit.inBlock, Exit.then])
      refine bodyPost_ret (Bh.results_cell_row2 rfl _ _ _ _ _ _ _ rfl HB.out.b1 Try.underlying27 rfl (by kernel_rfl)) rfl ?_
      exact ⟨⟨sb, sa, sc, lb, la, lc⟩, rfl, HSN.out.own, by have := HSN.out.new; show w.heap.size ≤ sb; omega, HLN.out.own, by have := HLN.out.new; show w.heap.size ≤ lb; omega, HB.out.beh⟩
end Go.Proofs.Ytaifjkilmdnfbaa.Lg
end
section
/- The keeper's SpoilHard; the reference's Begin. -/
namespace Go.Proofs.Ytaifjkilmdnfbaa.Lg
open Go Go.RowKit Vl Kv Ss Cn Mem Li Nm
attribute [local go_sem] Nm.run_bits Nm.run_frombits run_store_float
attribute [local irreducible] wpQuiet
/-- own bytes and own entries lie in two blocks -/
theorem own_apart {w : World} {b b' : Nat} {a a' : Option Addr} {cap cap' : Nat} {l : List Nat} {L : List E} (x : OwnB 5 w b a cap l) (y : OwnL 40 w b' a' cap' L) (ha : a ≠ none) (ha' : a' ≠ none) : b ≠ b' := by
  intro e
  subst e
  rcases x with h | ⟨_, _, _, cur, h1, _⟩
  · exact ha h.1
  · rcases y.2 with h | ⟨_, _, _, cur2, h2, _⟩
    · exact ha' h.1
    · rw [h1] at h2
      have h3 := Option.some.inj h2
      injection h3 with _ h4
      exact absurd h4 (by decide)
set_option maxHeartbeats 1600000 in
set_option maxRecDepth 100000 in
theorem spoilHard_any (h : H) (p : Hp) (w0 w : World) (m : MadeH w0 w h p) (hs : h.snap.length ≤ 100000) (hl : h.log.length ≤ 100000) :
    Calls Try.prog 48 #[h.val p] w fun e w' => e = .returned (.tuple #[]) ∧ Kv.Beh w0 w' := by
  have HB := Lib.hid (Bh.Bx.one w (h.obj p))
  have HM := Lib.hid (m.on (below_alloc w (h.obj p)))
  have HBB := Lib.hid (show p.sa ≠ none → p.sb < w.heap.size from fun h0 => m.snap.lt h0)
  clear m
  (obtain ⟨x0, x1, x2, x3, x4, x5, x6, x7, x8, x9⟩ := cells10h HB.out.b0)
  go_enter Try.func48, Try.ntmps48
  go_wp2_with fail
  refine Calls.mono (Kp.Spoil_any p.sb p.sa p.sc h.snap _ (by exact HM.out.snap) (by omega)) ?_
  rintro e w2 ⟨rfl, l', _, _, hk⟩
  have hb2 := hk.heap HB.out.b0 (fun h0 => by have := HBB.out h0.1; have := h0.2; omega)
  have HLG : Hid (OwnL 40 w2 p.lb p.la p.lc h.log) := OwnC.kept HM.out.log hk (fun ha h0 => own_apart HM.out.snap HM.out.log h0.1 ha h0.2.symm)
  have HE2 : Hid (Kv.Beh w0 w2) := Below.trans HM.out.beh (hk.below HM.out.beh.size (fun k h0 => by rw [h0.2]; exact HM.out.snew))
  have HNW : Hid (w0.heap.size ≤ p.lb) := HM.out.lnew
  (obtain ⟨y0, y1, y2, y3, y4, y5, y6, y7, y8, y9⟩ := cells10h hb2)
  clear hb2 hk HM HBB
  go_wp2_with fail
  refine Calls.mono (spoilEnts_any p.lb p.la p.lc h.log _ (by exact HLG.out) (by omega)) ?_
  rintro e w3 ⟨rfl, hk⟩
  have HE3 : Hid (Kv.Beh w0 w3) := Below.trans HE2.out (hk.below HE2.out.size (fun k h0 => by rw [h0.2]; exact HNW.out))
  clear hk
  go_wp2_with fail
  go_end0
  exact ⟨rfl, HE3.out⟩
set_option maxHeartbeats 1600000 in
set_option maxRecDepth 100000 in
theorem rBegin_any (c : C) (w : World) :
    Calls Try.prog 39 #[c.val] w fun e w' => e = .returned ((begin_ c).val (Hp.zero w)) ∧ Below w.heap.size w w' := by
  have HB := Lib.hid (Bh.Bx.two w (Lg.C.obj c) (H.zero.obj Hp.none))
  go_enter Try.func39, Try.ntmps39
  go_wp2_with (first
    | (apply Bh.load_bx 0 HB.out Try.underlying23; rfl; rfl; rfl; rfl; rfl; kernel_rfl)
    | (apply Bh.store_bx 10 1 HB.out; rfl; rfl; rfl; rfl; rfl; rfl; kernel_rfl; rfl; rfl; intro wz hz; have HB := Lib.hid hz; clear hz))
  (try simp only [Exit.inBlock, Exit.then])
  refine bodyPost_ret (Bh.results_cell_row1 rfl _ _ _ _ _ _ _ rfl HB.out.b1 Try.underlying27 rfl (by kernel_rfl)) rfl ?_
  exact ⟨rfl, HB.out.beh⟩
end Go.Proofs.Ytaifjkilmdnfbaa.Lg
end
