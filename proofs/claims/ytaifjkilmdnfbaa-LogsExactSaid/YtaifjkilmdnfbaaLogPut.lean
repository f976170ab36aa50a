/- Package logs: Put. -/
import Derived.Test.YtaifjkilmdnfbaaLogCodeA
import Derived.Test.YtaifjkilmdnfbaaLogCode6
import Derived.Test.YtaifjkilmdnfbaaLogCode7
import Derived.Test.YtaifjkilmdnfbaaLogSlice
namespace Go.Proofs.Ytaifjkilmdnfbaa.Lg
open Go Go.RowKit Vl Kv Ss Cn Mem Li Nm
attribute [local go_sem] Nm.run_bits Nm.run_frombits run_store_float
attribute [local irreducible] wpQuiet
theorem right_num {h : H} (hr : h.right = true) (hl : h.log.length ≤ 100000) : h.Num := by
  unfold H.right at hr
  rw [nums_told] at hr
  simp only [Bool.and_eq_true, decide_eq_true_eq] at hr
  exact ⟨hr.1.1.1.2.1, hr.1.1.1.2.2, hl⟩
theorem put_bad {h : H} {i : Int} {l : List E} (x : h.right = false) : h.putOk i l = 6 ∧ h.put i l = H.zero := by
  have : h.putOk i l = 6 := by unfold H.putOk; rw [if_pos x]
  exact ⟨this, by unfold H.put; rw [if_neg (by omega)]⟩
theorem put_arg {h : H} {i : Int} {l : List E} (x : h.right = true) (y : ((h.termOf i == -1) || !rowOk l (h.termOf i) h.term) = true) : h.putOk i l = 1 ∧ h.put i l = H.zero := by
  have : h.putOk i l = 1 := by unfold H.putOk; rw [if_neg (by rw [x]; simp), if_pos y]
  exact ⟨this, by unfold H.put; rw [if_neg (by omega)]⟩
theorem put_ok {h : H} {i : Int} {l : List E} (x : h.right = true) (y : ((h.termOf i == -1) || !rowOk l (h.termOf i) h.term) = false) : h.putOk i l = 0 ∧ h.put i l = { h with log := putL h.log (h.off i) l } := by
  have : h.putOk i l = 0 := by unfold H.putOk; rw [if_neg (by rw [x]; simp), if_neg (by rw [y]; simp)]
  exact ⟨this, by unfold H.put; rw [if_pos this]⟩
theorem off_ok {h : H} {i : Int} (x : (h.termOf i == -1) = false) : i - h.base = (h.off i : Int) ∧ h.off i ≤ h.log.length := by
  by_cases hb : i = h.base
  · unfold H.off; omega
  · cases hh : h.has i
    · rw [termOf_not hb hh] at x; cases x
    · have := has_iff.1 hh
      unfold H.last at this
      unfold H.off
      omega
theorem concatEnts2 (B0 : Nat) (a1 a2 : Option Addr) (n1 n2 c1 c2 : Nat) (L1 L2 : List E) (w : World) (e1 : n1 = L1.length) (e2 : n2 = L2.length)
    (hh : w.heap[B0]? = some (.cells #[.slice a1 n1 c1, .slice a2 n2 c2] 25))
    (h1 : EntAt w a1 c1 L1) (h2 : EntAt w a2 c2 L2) (l1 : L1.length ≤ 100000) (l2 : L2.length ≤ 100000) :
    Calls Try.prog 62 #[.slice (some ⟨B0, 0, none⟩) 2 2] w fun e w' => ∃ b' a' cap', e = .returned (.slice a' (L1 ++ L2).length cap') ∧ Made 40 w w' b' a' cap' (L1 ++ L2) := by
  subst e1 e2
  exact concatEnts_any B0 a1 a2 c1 c2 L1 L2 w hh h1 h2 l1 l2
set_option maxHeartbeats 6400000 in
set_option maxRecDepth 100000 in
theorem Put_any (h : H) (p : Hp) (i : Int) (a : Option Addr) (cap : Nat) (l : List E) (w : World) (ha : HardAt w h p) (hl : EntAt w a cap l) (hs : h.snap.length ≤ 100000) (hn : h.log.length ≤ 100000) (hn2 : l.length ≤ 100000) :
    Calls Try.prog 42 #[h.val p, .int .i64 i, .slice a l.length cap] w (HardTold (h.put i l) (h.putOk i l) w) := by
  have HB := Lib.hid (Bh.Bx.two w (h.obj p) (H.zero.obj Hp.none))
  have HA := Lib.hid ha
  have HJ := Lib.hid hl
  have HC : Hid (∀ W, Kv.Beh w W → Calls Try.prog 18 #[h.val p] W fun e w' => e = .returned (.int .i64 h.check) ∧ Below W.heap.size W w') := fun W hW => Check_h h p W (ha.on hW)
  have HK : Hid (h.check = if h.right = true then 0 else 6) := rfl
  clear ha hl
  cases hr : h.right
  · obtain ⟨e1, e2⟩ := put_bad (i := i) (l := l) hr
    rw [e1, e2]
    rw [hr] at HK
    have hk6 : h.check = 6 := HK.out
    rw [hk6] at HC
    clear HK hk6 e1 e2
    go_enter Try.func42, Try.ntmps42
    go_wp2_with (first
      | (apply Bh.load_bx 0 HB.out Try.underlying27; rfl; rfl; rfl; rfl; rfl; kernel_rfl)
      | (go_at_call 18; refine Calls.mono (HC.out _ HB.out.beh) ?_; rintro e wq ⟨rfl, hb⟩; (have HB := Lib.hid (HB.out.on hb)); clear hb)
      | (apply Bh.store_bx 10 1 HB.out; rfl; rfl; rfl; rfl; rfl; rfl; kernel_rfl; rfl; rfl; intro wz hz; have HB := Lib.hid hz; clear hz))
    (try simp only [Exit.inBlock, Exit.then])
    refine bodyPost_ret (Bh.results_cell_row2 rfl _ _ _ _ _ _ _ rfl HB.out.b1 Try.underlying27 rfl (by kernel_rfl)) rfl ?_
    exact HardTold.zero HB.out.beh
  have hnum := right_num hr hn
  have HT : Hid (∀ W, Kv.Beh w W → Calls Try.prog 20 #[h.val p, .int .i64 i] W fun e w' => e = .returned (.int .i64 (h.termOf i)) ∧ Below W.heap.size W w') := fun W hW => Term_any h p i W hnum (HA.out.on hW)
  have HR : Hid (∀ W, Kv.Beh w W → Calls Try.prog 53 #[.slice a l.length cap, .int .i64 (h.termOf i), .int .i64 h.term] W fun e w' => e = .returned (.bool (rowOk l (h.termOf i) h.term)) ∧ Below W.heap.size W w') := fun W hW => couldStand_any a cap l _ _ W (HJ.out.below hW)
  rw [hr] at HK
  have hk0 : h.check = 0 := HK.out
  rw [hk0] at HC
  clear HK hk0
  have HP1 := Lib.hid (put_arg (i := i) (l := l) hr)
  have HP2 := Lib.hid (put_ok (i := i) (l := l) hr)
  have HO := Lib.hid (off_ok (h := h) (i := i))
  clear hr
  generalize rowOk l (h.termOf i) h.term = r at *
  cases hx : (h.termOf i == -1)
  case true =>
    obtain ⟨e1, e2⟩ := HP1.out (by rw [hx]; rfl)
    rw [e1, e2]
    generalize h.termOf i = tm at *
    clear e1 e2 HP1 HP2 HO
    go_enter Try.func42, Try.ntmps42
    go_wp2_with (first
      | (apply Bh.load_bx 0 HB.out Try.underlying27; rfl; rfl; rfl; rfl; rfl; kernel_rfl)
      | (go_at_call 18; refine Calls.mono (HC.out _ HB.out.beh) ?_; rintro e wq ⟨rfl, hb⟩; (have HB := Lib.hid (HB.out.on hb)); clear hb)
      | (go_at_call 20; refine Calls.mono (HT.out _ HB.out.beh) ?_; rintro e wq ⟨rfl, hb⟩; (have HB := Lib.hid (HB.out.on hb)); clear hb; (obtain ⟨x0, x1, x2, x3, x4, x5, x6, x7, x8, x9⟩ := cells10h HB.out.b0))
      | (apply Bh.store_bx 10 1 HB.out; rfl; rfl; rfl; rfl; rfl; rfl; kernel_rfl; rfl; rfl; intro wz hz; have HB := Lib.hid hz; clear hz))
    (try simp only [Exit.inBlock, Exit.then])
    refine bodyPost_ret (Bh.results_cell_row2 rfl _ _ _ _ _ _ _ rfl HB.out.b1 Try.underlying27 rfl (by kernel_rfl)) rfl ?_
    exact HardTold.zero HB.out.beh
  cases hy : r
  case false =>
    obtain ⟨e1, e2⟩ := HP1.out (by rw [hx, hy]; rfl)
    rw [e1, e2]
    subst hy
    generalize h.termOf i = tm at *
    clear e1 e2 HP1 HP2 HO
    go_enter Try.func42, Try.ntmps42
    go_wp2_with (first
      | (apply Bh.load_bx 0 HB.out Try.underlying27; rfl; rfl; rfl; rfl; rfl; kernel_rfl)
      | (go_at_call 18; refine Calls.mono (HC.out _ HB.out.beh) ?_; rintro e wq ⟨rfl, hb⟩; (have HB := Lib.hid (HB.out.on hb)); clear hb)
      | (go_at_call 20; refine Calls.mono (HT.out _ HB.out.beh) ?_; rintro e wq ⟨rfl, hb⟩; (have HB := Lib.hid (HB.out.on hb)); clear hb; (obtain ⟨x0, x1, x2, x3, x4, x5, x6, x7, x8, x9⟩ := cells10h HB.out.b0))
      | (go_at_call 53; refine Calls.mono (HR.out _ HB.out.beh) ?_; rintro e wq ⟨rfl, hb⟩; (have HB := Lib.hid (HB.out.on hb)); clear hb)
      | (apply Bh.store_bx 10 1 HB.out; rfl; rfl; rfl; rfl; rfl; rfl; kernel_rfl; rfl; rfl; intro wz hz; have HB := Lib.hid hz; clear hz))
    (try simp only [Exit.inBlock, Exit.then])
    refine bodyPost_ret (Bh.results_cell_row2 rfl _ _ _ _ _ _ _ rfl HB.out.b1 Try.underlying27 rfl (by kernel_rfl)) rfl ?_
    exact HardTold.zero HB.out.beh
  obtain ⟨e1, e2⟩ := HP2.out (by rw [hx, hy]; rfl)
  rw [e1, e2]
  subst hy
  obtain ⟨ho1, ho2⟩ := HO.out hx
  generalize h.termOf i = tm at *
  clear e1 e2 HP1 HP2 HO
  have n1 := hnum.lo; have n2 := hnum.hi
  clear hnum
  generalize h.off i = k at *
  obtain ⟨a1, m1, c1, hs1, hm1, he1⟩ := slice_from HA.out.log k ho2
  have htl := there_le_l (h.log.drop k) l
  have htT := there_le_T (h.log.drop k) l
  rw [List.length_drop] at htT
  have HCT : Hid (∀ W, Kv.Beh w W → Calls Try.prog 61 #[.slice a1 m1 c1, .slice a l.length cap] W fun e w' => e = .returned (.int .i64 (there (h.log.drop k) l : Nat)) ∧ Below W.heap.size W w') := fun W hW => by
    rw [hm1]; exact countThere_any a1 c1 _ a cap l W (he1 W hW) (HJ.out.below hW) (by rw [List.length_drop]; omega) hn2
  have HPL := Lib.hid (show putL h.log k l = (if there (h.log.drop k) l < l.length then h.log.take (k + there (h.log.drop k) l) else h.log) ++ l.drop (there (h.log.drop k) l) from rfl)
  generalize there (h.log.drop k) l = tt at *
  obtain ⟨a2, m2, c2, hs2, hm2, he2⟩ := slice_from HJ.out tt htl
  obtain ⟨m, hm⟩ : ∃ m : Nat, (k : Int) + (tt : Int) = (m : Int) := ⟨k + tt, by omega⟩
  obtain ⟨m3, hs3, hm3, he3⟩ := slice_to (n := h.log.length) HA.out.log m (by omega)
  have hmk : k + tt = m := by omega
  rw [hmk] at HPL
  have HSN0 : Hid (∀ W, Kv.Beh w W → Calls Try.prog 63 #[.slice p.sa h.snap.length p.sc] W (Kp.NewB h.snap W)) := fun W hW => cloneBytes_any p.sb p.sa p.sc h.snap W (HA.out.on hW).snap (by omega)
  have HE2 := Lib.hid he2
  have HE3 := Lib.hid he3
  have HM2 := Lib.hid hm2
  have HM3 := Lib.hid hm3
  have HL := Lib.hid HA.out.log
  clear he1 he2 he3 hm1 hm2 hm3 hmk HJ HA
  by_cases hlt : tt < l.length
  · rw [if_pos hlt] at HPL
    have d1 : decide ((tt : Int) < (l.length : Int)) = true := decide_eq_true (by omega)
    have HCC : Hid (∀ W b0, Kv.Beh w W → W.heap[b0]? = some (.cells #[.slice p.la m3 p.lc, .slice a2 m2 c2] 25) → Calls Try.prog 62 #[.slice (some ⟨b0, 0, none⟩) 2 2] W fun e w' => ∃ b' a' cap', e = .returned (.slice a' (putL h.log k l).length cap') ∧ Made 40 W w' b' a' cap' (putL h.log k l)) := fun W b0 hW hh => by
      rw [HPL.out]
      exact concatEnts2 b0 _ _ _ _ _ _ _ _ W HM3.out HM2.out hh (HE3.out W hW) (HE2.out W hW) (by rw [List.length_take]; omega) (by rw [List.length_drop]; omega)
    clear HPL
    generalize putL h.log k l = PL at *
    go_enter Try.func42, Try.ntmps42
    go_wp2_with (first
      | (go_at_call 18; refine Calls.mono (HC.out _ HB.out.beh) ?_; rintro e wq ⟨rfl, hb⟩; (have HB := Lib.hid (HB.out.on hb)); clear hb)
      | (go_at_call 20; refine Calls.mono (HT.out _ HB.out.beh) ?_; rintro e wq ⟨rfl, hb⟩; (have HB := Lib.hid (HB.out.on hb)); clear hb; (obtain ⟨x0, x1, x2, x3, x4, x5, x6, x7, x8, x9⟩ := cells10h HB.out.b0))
      | (go_at_call 53; refine Calls.mono (HR.out _ HB.out.beh) ?_; rintro e wq ⟨rfl, hb⟩; (have HB := Lib.hid (HB.out.on hb)); clear hb; (obtain ⟨x0, x1, x2, x3, x4, x5, x6, x7, x8, x9⟩ := cells10h HB.out.b0))
      | (go_at_call 61; refine Calls.mono (HCT.out _ HB.out.beh) ?_; rintro e wq ⟨rfl, hb⟩; (have HB := Lib.hid (HB.out.on hb)); clear hb; (obtain ⟨x0, x1, x2, x3, x4, x5, x6, x7, x8, x9⟩ := cells10h HB.out.b0))
      | (go_at_call 62; refine Calls.mono (HCC.out _ _ (HB.out.alloc _).beh (Bh.alloc_here _ rfl)) ?_; rintro e wq ⟨lb, la2, lc2, rfl, hmade⟩; (have HLN := Lib.hid (OwnN.of (lo := w.heap.size + 2) hmade (HB.out.alloc _).lt)); (have HB := Lib.hid ((HB.out.alloc _).on hmade.beh)); clear hmade; (obtain ⟨x0, x1, x2, x3, x4, x5, x6, x7, x8, x9⟩ := cells10h HB.out.b0))
      | (apply Bh.store1_bk 0 9 HB.out; rfl; rfl; rfl; rfl; rfl; rfl; rfl; kernel_rfl; intro wz hz he; (have HLN := Lib.hid (HLN.out.els he (by omega))); have HB := Lib.hid hz; clear hz he; (obtain ⟨x0, x1, x2, x3, x4, x5, x6, x7, x8, x9⟩ := cells10 HB.out.b0))
      | (go_at_call 63; refine Calls.mono (HSN0.out _ HB.out.beh) ?_; intro e wq hq; obtain ⟨sb, sa, sc, rfl, hown, hb⟩ := OwnS.of (lo := w.heap.size + 2) hq HB.out.lt; (have HSN := Lib.hid hown); (have HLN := Lib.hid (HLN.out.on hb)); (have HB := Lib.hid (HB.out.on hb)); clear hb hown hq)
      | (apply Bh.store1_bk 0 8 HB.out; rfl; rfl; rfl; rfl; rfl; rfl; rfl; kernel_rfl; intro wz hz he; (have HSN := Lib.hid (HSN.out.els he (by omega))); (have HLN := Lib.hid (HLN.out.els he (by omega))); have HB := Lib.hid hz; clear hz he)
      | (apply Bh.load_bx 0 HB.out Try.underlying27; rfl; rfl; rfl; rfl; rfl; kernel_rfl)
      | (apply Bh.store_bk 10 1 HB.out; rfl; rfl; rfl; rfl; rfl; rfl; kernel_rfl; rfl; rfl; intro wz hz he; (have HSN := Lib.hid (HSN.out.els he (by omega))); (have HLN := Lib.hid (HLN.out.els he (by omega))); have HB := Lib.hid hz; clear hz he))
    (try simp only [Exit.inBlock, Exit.then])
    refine bodyPost_ret (Bh.results_cell_row2 rfl _ _ _ _ _ _ _ rfl HB.out.b1 Try.underlying27 rfl (by kernel_rfl)) rfl ?_
    exact ⟨⟨sb, sa, sc, lb, la2, lc2⟩, rfl, HSN.out.own, by have := HSN.out.new; show w.heap.size ≤ sb; omega, HLN.out.own, by have := HLN.out.new; show w.heap.size ≤ lb; omega, HB.out.beh⟩
  · rw [if_neg hlt] at HPL
    have d1 : decide ((tt : Int) < (l.length : Int)) = false := decide_eq_false (by omega)
    have HCC : Hid (∀ W b0, Kv.Beh w W → W.heap[b0]? = some (.cells #[.slice p.la h.log.length p.lc, .slice a2 m2 c2] 25) → Calls Try.prog 62 #[.slice (some ⟨b0, 0, none⟩) 2 2] W fun e w' => ∃ b' a' cap', e = .returned (.slice a' (putL h.log k l).length cap') ∧ Made 40 W w' b' a' cap' (putL h.log k l)) := fun W b0 hW hh => by
      rw [HPL.out]
      exact concatEnts2 b0 _ _ _ _ _ _ _ _ W rfl HM2.out hh (HL.out.below hW) (HE2.out W hW) (by omega) (by rw [List.length_drop]; omega)
    clear HPL
    generalize putL h.log k l = PL at *
    go_enter Try.func42, Try.ntmps42
    go_wp2_with (first
      | (go_at_call 18; refine Calls.mono (HC.out _ HB.out.beh) ?_; rintro e wq ⟨rfl, hb⟩; (have HB := Lib.hid (HB.out.on hb)); clear hb)
      | (go_at_call 20; refine Calls.mono (HT.out _ HB.out.beh) ?_; rintro e wq ⟨rfl, hb⟩; (have HB := Lib.hid (HB.out.on hb)); clear hb; (obtain ⟨x0, x1, x2, x3, x4, x5, x6, x7, x8, x9⟩ := cells10h HB.out.b0))
      | (go_at_call 53; refine Calls.mono (HR.out _ HB.out.beh) ?_; rintro e wq ⟨rfl, hb⟩; (have HB := Lib.hid (HB.out.on hb)); clear hb; (obtain ⟨x0, x1, x2, x3, x4, x5, x6, x7, x8, x9⟩ := cells10h HB.out.b0))
      | (go_at_call 61; refine Calls.mono (HCT.out _ HB.out.beh) ?_; rintro e wq ⟨rfl, hb⟩; (have HB := Lib.hid (HB.out.on hb)); clear hb; (obtain ⟨x0, x1, x2, x3, x4, x5, x6, x7, x8, x9⟩ := cells10h HB.out.b0))
      | (go_at_call 62; refine Calls.mono (HCC.out _ _ (HB.out.alloc _).beh (Bh.alloc_here _ rfl)) ?_; rintro e wq ⟨lb, la2, lc2, rfl, hmade⟩; (have HLN := Lib.hid (OwnN.of (lo := w.heap.size + 2) hmade (HB.out.alloc _).lt)); (have HB := Lib.hid ((HB.out.alloc _).on hmade.beh)); clear hmade; (obtain ⟨x0, x1, x2, x3, x4, x5, x6, x7, x8, x9⟩ := cells10h HB.out.b0))
      | (apply Bh.store1_bk 0 9 HB.out; rfl; rfl; rfl; rfl; rfl; rfl; rfl; kernel_rfl; intro wz hz he; (have HLN := Lib.hid (HLN.out.els he (by omega))); have HB := Lib.hid hz; clear hz he; (obtain ⟨x0, x1, x2, x3, x4, x5, x6, x7, x8, x9⟩ := cells10 HB.out.b0))
      | (go_at_call 63; refine Calls.mono (HSN0.out _ HB.out.beh) ?_; intro e wq hq; obtain ⟨sb, sa, sc, rfl, hown, hb⟩ := OwnS.of (lo := w.heap.size + 2) hq HB.out.lt; (have HSN := Lib.hid hown); (have HLN := Lib.hid (HLN.out.on hb)); (have HB := Lib.hid (HB.out.on hb)); clear hb hown hq)
      | (apply Bh.store1_bk 0 8 HB.out; rfl; rfl; rfl; rfl; rfl; rfl; rfl; kernel_rfl; intro wz hz he; (have HSN := Lib.hid (HSN.out.els he (by omega))); (have HLN := Lib.hid (HLN.out.els he (by omega))); have HB := Lib.hid hz; clear hz he)
      | (apply Bh.load_bx 0 HB.out Try.underlying27; rfl; rfl; rfl; rfl; rfl; kernel_rfl)
      | (apply Bh.store_bk 10 1 HB.out; rfl; rfl; rfl; rfl; rfl; rfl; kernel_rfl; rfl; rfl; intro wz hz he; (have HSN := Lib.hid (HSN.out.els he (by omega))); (have HLN := Lib.hid (HLN.out.els he (by omega))); have HB := Lib.hid hz; clear hz he))
    (try simp only [Exit.inBlock, Exit.then])
    refine bodyPost_ret (Bh.results_cell_row2 rfl _ _ _ _ _ _ _ rfl HB.out.b1 Try.underlying27 rfl (by kernel_rfl)) rfl ?_
    exact ⟨⟨sb, sa, sc, lb, la2, lc2⟩, rfl, HSN.out.own, by have := HSN.out.new; show w.heap.size ≤ sb; omega, HLN.out.own, by have := HLN.out.new; show w.heap.size ≤ lb; omega, HB.out.beh⟩
end Go.Proofs.Ytaifjkilmdnfbaa.Lg
