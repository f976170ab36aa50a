import Derived.Test.YtaifjkilmdnfbaaLogInst
import Derived.Test.YtaifjkilmdnfbaaMergeLgI
import Derived.Test.YtaifjkilmdnfbaaMergeLgO
import Derived.Test.YtaifjkilmdnfbaaMergeLgR
/- The law LogsInstalls. -/
namespace Go.Proofs.Ytaifjkilmdnfbaa.Lg
open Go Go.RowKit Vl Kv Ss Cn Mem Li Nm
attribute [local go_sem] Nm.run_bits Nm.run_frombits run_store_float
attribute [local irreducible] wpQuiet
/-- a load of a whole struct out of the block i, under a guard that holds -/
theorem yif_load_bxw {P : Program} {ops : Array Oper} {S : World → Prop} {o : Oper} {a : Go.Act} {w0 : World} {l : List Obj} (i : Nat) (hS : ∀ w, S w → Bh.Bx w0 l w) {ty : TypeId} {d : TypeDesc} (hu : P.underlying ty = some d) {t : TypeId} {cs : Array Value} (hl : l[i]? = some (.cells cs t))
    {x : Operand} (hgd : Region.wanted o (yielded ops a.tmps) = true) (ho : o.op = .load ty x) (hx : a.eval x = .pointer (some ⟨w0.heap.size + i, 0, none⟩))
    (hd : (match d with | .struct _ | .array _ _ => true | _ => false) = true) (hi : (P.info? ty).map (·.size) = some cs.size) : YieldsIf P ops S o (.agg cs) a :=
  .inl ⟨hgd, fun w hw => by
    unfold execOp
    simp only [ho, hx, Instr.loadAt, Instr.sureAddr, Sem.run_bind, Sem.run_pure, Result.andThen_ok, run_loadVar_row w _ t ty cs (0, 0) d ((hS w hw).box i _ hl) hu hd hi]⟩
set_option maxHeartbeats 12800000 in
set_option maxRecDepth 100000 in
theorem LogsInstalls_law (h : H) (p : Hp) (i t : Int) (c : C) (b : Nat) (a : Option Addr) (cap : Nat) (s : List Nat) (w : World) (hh : HardAt w h p) (hl : Src w b a cap s) :
    Calls Try.prog 7 #[h.val p, .int .i64 i, .int .i64 t, c.val, .slice a s.length cap] w fun e w' => e = .returned (.bool true) ∧ Below w.heap.size w w' := by
  have HB := Lib.hid (Bh.Bx.two w (h.obj p) (Lg.C.obj c))
  have HV1 : Hid (∀ W, Kv.Beh w W → Calls Try.prog 11 #[h.val p] W fun e w' => e = .returned (.bool (heavyL h.log || decide (32768 < (h.snap.length : Int)))) ∧ Below W.heap.size W w') := fun W hW => heavy_any h p W (hh.on hW)
  have HV2 : Hid (∀ W, Kv.Beh w W → Calls Try.prog 12 #[h.val p] W fun e w' => e = .returned (.bool (lookedB h)) ∧ Below W.heap.size W w') := fun W _ => looked_any h p W
  have HWK := fun w => Lib.hid (wakes_any w)
  (obtain ⟨c0, c1, c2, c3, c4, c5, c6, c7, c8, c9⟩ := cells10h (h := h) (p := p) HB.out.b0)
  have HA1 : Hid (HardAt w h p ∧ Src w b a cap s) := ⟨hh, hl⟩
  clear hh hl
  cases k1 : (heavyL h.log || decide (32768 < (h.snap.length : Int)))
  case true =>
    rw [k1] at HV1
    go_enter Try.func7, Try.ntmps7
    go_wp2_with (first
      | (go_at_call 11; (with_reducible refine Calls.mono (HV1.out _ ?_) ?_); exact HB.out.beh; rintro e wy ⟨rfl, hb⟩; (have HB := Lib.hid (HB.out.on hb)); clear hb; (obtain ⟨c0, c1, c2, c3, c4, c5, c6, c7, c8, c9⟩ := cells10h (h := h) (p := p) HB.out.b0))
      | (go_at_call 12; (with_reducible refine Calls.mono (HV2.out _ ?_) ?_); exact HB.out.beh; rintro e wy ⟨rfl, hb⟩; (have HB := Lib.hid (HB.out.on hb)); clear hb; (obtain ⟨c0, c1, c2, c3, c4, c5, c6, c7, c8, c9⟩ := cells10h (h := h) (p := p) HB.out.b0))
      | (apply Bh.load_bx 0 HB.out Try.underlying27; rfl; rfl; rfl; rfl; rfl; kernel_rfl))
    go_ret
    exact ⟨rfl, HB.out.beh⟩
  cases k3 : decide (32768 < (s.length : Int))
  case true =>
    rw [k1] at HV1
    go_enter Try.func7, Try.ntmps7
    go_wp2_with (first
      | (go_at_call 11; (with_reducible refine Calls.mono (HV1.out _ ?_) ?_); exact HB.out.beh; rintro e wy ⟨rfl, hb⟩; (have HB := Lib.hid (HB.out.on hb)); clear hb; (obtain ⟨c0, c1, c2, c3, c4, c5, c6, c7, c8, c9⟩ := cells10h (h := h) (p := p) HB.out.b0))
      | (go_at_call 12; (with_reducible refine Calls.mono (HV2.out _ ?_) ?_); exact HB.out.beh; rintro e wy ⟨rfl, hb⟩; (have HB := Lib.hid (HB.out.on hb)); clear hb; (obtain ⟨c0, c1, c2, c3, c4, c5, c6, c7, c8, c9⟩ := cells10h (h := h) (p := p) HB.out.b0))
      | (apply Bh.load_bx 0 HB.out Try.underlying27; rfl; rfl; rfl; rfl; rfl; kernel_rfl))
    go_ret
    exact ⟨rfl, HB.out.beh⟩
  cases k2 : lookedB h
  case false =>
    rw [k1] at HV1
    rw [k2] at HV2
    go_enter Try.func7, Try.ntmps7
    go_wp2_with (first
      | (go_at_call 11; (with_reducible refine Calls.mono (HV1.out _ ?_) ?_); exact HB.out.beh; rintro e wy ⟨rfl, hb⟩; (have HB := Lib.hid (HB.out.on hb)); clear hb; (obtain ⟨c0, c1, c2, c3, c4, c5, c6, c7, c8, c9⟩ := cells10h (h := h) (p := p) HB.out.b0))
      | (go_at_call 12; (with_reducible refine Calls.mono (HV2.out _ ?_) ?_); exact HB.out.beh; rintro e wy ⟨rfl, hb⟩; (have HB := Lib.hid (HB.out.on hb)); clear hb; (obtain ⟨c0, c1, c2, c3, c4, c5, c6, c7, c8, c9⟩ := cells10h (h := h) (p := p) HB.out.b0))
      | (apply Bh.load_bx 0 HB.out Try.underlying27; rfl; rfl; rfl; rfl; rfl; kernel_rfl))
    go_ret
    exact ⟨rfl, HB.out.beh⟩
  have hn := looked_num k2 (played k1)
  have hl1 := (played k1).log
  have hs1 := (played k1).snap
  have hs2 : s.length ≤ 32768 := by have := of_decide_eq_false k3; omega
  rw [k1] at HV1
  rw [k2] at HV2
  have HF : Hid (∀ W, Kv.Beh w W → Calls Try.prog 29 #[h.val p, .int .i64 i, .int .i64 t] W fun e w' => e = .returned (.bool (h.fits i t)) ∧ Below W.heap.size W w') := fun W hW => Fits_any h p i t W hn (HA1.out.1.on hW)
  have HCM : Hid (∀ W, Kv.Beh w W → Calls Try.prog 46 #[h.val p, .int .i64 i, .int .i64 t, c.val, .slice a s.length cap] W (HardTold (h.inst i t c s) (h.instOk i t c s) W)) := fun W hW => Install_any h p i t c b a cap s W (HA1.out.1.on hW) (HA1.out.2.kept (Kept.of_below hW) (fun _ h => h)) (by omega) (by omega)
  have HIS := Lib.hid (inst_is (h := h) (i := i) (t := t) (c := c) (s := s))
  have HIC : Hid (h.instOk i t c s = 0 → h.base < i ∧ i ≤ 1099511627776) := fun x => by have y := inst_code x; have := y.lo; exact ⟨by omega, y.hi⟩
  clear k1 k2
  generalize h.inst i t c s = X at *
  generalize h.instOk i t c s = cc at *
  generalize hft : h.fits i t = ft at *
  go_enter Try.func7, Try.ntmps7
  go_wp2_with (first
    | (go_at_call 11; (with_reducible refine Calls.mono (HV1.out _ ?_) ?_); exact HB.out.beh; rintro e wy ⟨rfl, hb⟩; (have HB := Lib.hid (HB.out.on hb)); clear hb; (obtain ⟨c0, c1, c2, c3, c4, c5, c6, c7, c8, c9⟩ := cells10h (h := h) (p := p) HB.out.b0))
    | (go_at_call 12; (with_reducible refine Calls.mono (HV2.out _ ?_) ?_); exact HB.out.beh; rintro e wy ⟨rfl, hb⟩; (have HB := Lib.hid (HB.out.on hb)); clear hb; (obtain ⟨c0, c1, c2, c3, c4, c5, c6, c7, c8, c9⟩ := cells10h (h := h) (p := p) HB.out.b0))
    | (apply Bh.load_bx 0 HB.out Try.underlying27; rfl; rfl; rfl; rfl; rfl; kernel_rfl)
    | (go_at_call 29; (with_reducible refine Calls.mono (HF.out _ ?_) ?_); exact HB.out.beh; rintro e wy ⟨rfl, hb⟩; (have HB := Lib.hid (HB.out.on hb)); clear hb; (obtain ⟨c0, c1, c2, c3, c4, c5, c6, c7, c8, c9⟩ := cells10h (h := h) (p := p) HB.out.b0))
    | (apply Bh.load_bx 1 HB.out Try.underlying23; rfl; rfl; rfl; rfl; rfl; kernel_rfl))
  refine Calls.mono (HCM.out _ HB.out.beh) ?_
  rintro e w1 ⟨xq, rfl, hm⟩
  have HB := Lib.hid (HB.out.on hm.beh)
  have HX := Lib.hid (Bh.Bx.one w1 (H.zero.obj Hp.none))
  have HM := Lib.hid hm
  clear hm HV1 HV2 HCM HF
  by_cases hc : cc = 0
  case neg =>
    have b1 := beq_eq_false_iff_ne.2 hc
    have b2 : (cc != 0) = true := by rw [bne, b1]; rfl
    clear hc HIS HIC hn hft
    go_wp2_with (first
      | (apply Bh.store_bx 10 0 HX.out; rfl; rfl; rfl; rfl; rfl; rfl; kernel_rfl; rfl; rfl; intro wz hz; have HX := Lib.hid hz; (have HB := Lib.hid (HB.out.on hz.beh)); clear hz)
      | (go_at_call 35; refine ((HWK _).out).mono ?_; rintro e wy ⟨rfl, hb⟩; (have HB := Lib.hid (HB.out.on hb)); clear hb))
    go_ret
    exact ⟨rfl, HB.out.beh⟩
  have his := HIS.out hc
  have hnx : X.Num := right_num his.right (by have := his.len; omega)
  have hib : (X.base != i) = false := by rw [his.base]; simp
  have hit : (X.bterm != t) = false := by rw [his.bterm]; simp
  have hie : (X.term != h.term) = false := by rw [his.term]; simp
  have hiv : (X.vote != h.vote) = false := by rw [his.vote]; simp
  obtain ⟨i3, i4⟩ := HIC.out hc
  subst hc
  have i1 := hn.lo
  have i2 := hn.hi
  have L1 : Hid (∀ W, Kv.Beh w W → Calls Try.prog 14 #[h.val p] W fun e w' => e = .returned (.tuple #[.int .i64 h.last, .int .i64 h.lastT]) ∧ Below W.heap.size W w') := fun W hW => Last_any h p W hn (HA1.out.1.on hW)
  have L2 : Hid (∀ W, Kv.Beh w1 W → Calls Try.prog 14 #[X.val xq] W fun e w' => e = .returned (.tuple #[.int .i64 X.last, .int .i64 X.lastT]) ∧ Below W.heap.size W w') := fun W hW => Last_any X xq W hnx (HM.out.on hW).at_
  have KC : Hid (∀ W, Calls Try.prog 26 #[X.conf.val, c.val] W fun e w' => e = .returned (.bool true) ∧ Below W.heap.size W w') := fun W => by
    have := keepConf_any X.conf c W
    rwa [decide_eq_true his.conf] at this
  have CHX : Hid (∀ W, Kv.Beh w1 W → Calls Try.prog 18 #[X.val xq] W fun e w' => e = .returned (.int .i64 0) ∧ Below W.heap.size W w') := fun W hW => by
    have := Check_h X xq W (HM.out.on hW).at_
    have e1 : X.check = 0 := by unfold H.check; rw [if_pos his.right]
    rwa [e1] at this
  have KB : Hid (∀ W, Kv.Beh w1 W → Kv.Beh w W → Calls Try.prog 49 #[.slice xq.sa X.snap.length xq.sc, .slice a s.length cap] W fun e w' => e = .returned (.bool true) ∧ Below W.heap.size W w') := fun W hW hW1 => by
    have h1 := (HM.out.on hW).at_.snap
    have h2 := HA1.out.2.kept (Kept.of_below hW1) (fun _ h => h)
    rw [his.snap] at h1 ⊢
    exact (Kp.KBytes_any xq.sb xq.sa xq.sc s b a cap s W h1 h2 (by omega) (by omega)).mono fun e w' hx => same_bytes hx
  have FR1 : Hid (∀ W, Kv.Beh w1 W → Calls Try.prog 25 #[X.val xq, .int .i64 (i + 1), .int .i64 200] W (FromTold X (i + 1) 200 W)) := fun W hW => From_any X xq (i + 1) 200 W hnx (HM.out.on hW).at_ (by omega)
  have FR2 : Hid (∀ W, Kv.Beh w W → Calls Try.prog 25 #[h.val p, .int .i64 (i + 1), .int .i64 200] W (FromTold h (i + 1) 200 W)) := fun W hW => From_any h p (i + 1) 200 W hn (HA1.out.1.on hW) (by omega)
  unfold FromTold at FR1 FR2
  have w2 : IntKind.i64.wrap (i + 1) = i + 1 := wrap_in (by omega) (by omega)
  clear hn hnx HIS HIC
  cases ft
  case true =>
    have hcut := his.cut hft
    rw [hcut.last, hcut.lastT] at L2
    rw [hcut.from_] at FR1
    clear hcut his hft
    generalize h.from_ (i + 1) 200 = L at *
    generalize h.last = ln at *
    generalize h.lastT = lt at *
    go_wp2_with (first
      | (apply Bh.store_bx 10 0 HX.out; rfl; rfl; rfl; rfl; rfl; rfl; kernel_rfl; rfl; rfl; intro wz hz; have HX := Lib.hid hz; (have HB := Lib.hid (HB.out.on hz.beh)); clear hz; (obtain ⟨x0, x1, x2, x3, x4, x5, x6, x7, x8, x9⟩ := cells10h (h := X) (p := xq) HX.out.b0); (obtain ⟨c0, c1, c2, c3, c4, c5, c6, c7, c8, c9⟩ := cells10h (h := h) (p := p) HB.out.b0); (obtain ⟨v0, v1, v2, v3⟩ := cells4c HB.out.b1))
      | (go_at_call 14; (with_reducible refine Calls.mono (L1.out _ ?_) ?_); exact HB.out.beh; rintro e wy ⟨rfl, hb⟩; (have HB := Lib.hid (HB.out.on hb)); (have HX := Lib.hid (HX.out.on hb)); clear hb; (obtain ⟨x0, x1, x2, x3, x4, x5, x6, x7, x8, x9⟩ := cells10h (h := X) (p := xq) HX.out.b0); (obtain ⟨c0, c1, c2, c3, c4, c5, c6, c7, c8, c9⟩ := cells10h (h := h) (p := p) HB.out.b0); (obtain ⟨v0, v1, v2, v3⟩ := cells4c HB.out.b1))
      | (go_at_call 14; (with_reducible refine Calls.mono (L2.out _ ?_) ?_); exact HX.out.beh; rintro e wy ⟨rfl, hb⟩; (have HB := Lib.hid (HB.out.on hb)); (have HX := Lib.hid (HX.out.on hb)); clear hb; (obtain ⟨x0, x1, x2, x3, x4, x5, x6, x7, x8, x9⟩ := cells10h (h := X) (p := xq) HX.out.b0); (obtain ⟨c0, c1, c2, c3, c4, c5, c6, c7, c8, c9⟩ := cells10h (h := h) (p := p) HB.out.b0); (obtain ⟨v0, v1, v2, v3⟩ := cells4c HB.out.b1))
      | (go_at_call 26; refine Calls.mono (KC.out _) ?_; rintro e wy ⟨rfl, hb⟩; (have HB := Lib.hid (HB.out.on hb)); (have HX := Lib.hid (HX.out.on hb)); clear hb; (obtain ⟨x0, x1, x2, x3, x4, x5, x6, x7, x8, x9⟩ := cells10h (h := X) (p := xq) HX.out.b0); (obtain ⟨c0, c1, c2, c3, c4, c5, c6, c7, c8, c9⟩ := cells10h (h := h) (p := p) HB.out.b0); (obtain ⟨v0, v1, v2, v3⟩ := cells4c HB.out.b1))
      | (go_at_call 18; (with_reducible refine Calls.mono (CHX.out _ ?_) ?_); exact HX.out.beh; rintro e wy ⟨rfl, hb⟩; (have HB := Lib.hid (HB.out.on hb)); (have HX := Lib.hid (HX.out.on hb)); clear hb; (obtain ⟨x0, x1, x2, x3, x4, x5, x6, x7, x8, x9⟩ := cells10h (h := X) (p := xq) HX.out.b0); (obtain ⟨c0, c1, c2, c3, c4, c5, c6, c7, c8, c9⟩ := cells10h (h := h) (p := p) HB.out.b0); (obtain ⟨v0, v1, v2, v3⟩ := cells4c HB.out.b1))
      | (go_at_call 49; refine Calls.mono (KB.out _ HX.out.beh HB.out.beh) ?_; rintro e wk ⟨rfl, hb⟩; (have HB := Lib.hid (HB.out.on hb)); (have HX := Lib.hid (HX.out.on hb)); clear hb; (obtain ⟨x0, x1, x2, x3, x4, x5, x6, x7, x8, x9⟩ := cells10h (h := X) (p := xq) HX.out.b0); (obtain ⟨c0, c1, c2, c3, c4, c5, c6, c7, c8, c9⟩ := cells10h (h := h) (p := p) HB.out.b0); (obtain ⟨v0, v1, v2, v3⟩ := cells4c HB.out.b1))
      | (apply Bh.load_bx 0 HX.out Try.underlying27; rfl; rfl; rfl; rfl; rfl; kernel_rfl)
      | (apply Bh.load_bx 0 HB.out Try.underlying27; rfl; rfl; rfl; rfl; rfl; kernel_rfl)
      | (apply Bh.load_bx 1 HB.out Try.underlying23; rfl; rfl; rfl; rfl; rfl; kernel_rfl))
    clear L1 L2 KC KB CHX
    refine wp_region_held_drew (S := fun W => Bh.Bx w [h.obj p, Lg.C.obj c] W ∧ Bh.Bx w1 [X.obj xq] W) (by kernel_rfl) (⟨HB.out.drew, HX.out.drew⟩) (fun hS => ?_)
    clear HB HX
    generalize World.drew wk = wd at hS ⊢
    (try simp only [Act.put, List.getElem_toArray, List.getElem_cons_succ, List.getElem_cons_zero, List.setIfInBounds_toArray, List.set_cons_zero, List.set_cons_succ])
    refine wpAnyH_take (i := 0) (v := ?_) rfl (by kernel_rfl) (by kernel_rfl) (by kernel_rfl) (fun _ _ _ h => h) (Or.inl ⟨by rfl, ?_⟩) hS ?_
    rotate_left
    · intro W hW; go_simp; try with_reducible rfl
    (try simp only [Act.put, List.getElem_toArray, List.getElem_cons_zero, List.setIfInBounds_toArray, List.set_cons_zero, List.set_cons_succ])
    refine wpAnyH_take (i := 1) (v := ?_) rfl (by kernel_rfl) (by kernel_rfl) (by kernel_rfl) (fun _ _ _ h => h) (Or.inl ⟨by rfl, ?_⟩) hS ?_
    rotate_left
    · intro W hW; go_simp; try with_reducible rfl
    (try simp only [Act.put, List.getElem_toArray, List.getElem_cons_succ, List.getElem_cons_zero, List.setIfInBounds_toArray, List.set_cons_zero, List.set_cons_succ])
    refine wpAnyH_take (i := 2) (v := ?_) rfl (by kernel_rfl) (by kernel_rfl) (by kernel_rfl) (fun _ _ _ h => h) (Or.inl ⟨by rfl, ?_⟩) hS ?_
    rotate_left
    · intro W hW; go_simp; try with_reducible rfl
    (try simp only [Act.put, List.getElem_toArray, List.getElem_cons_succ, List.getElem_cons_zero, List.setIfInBounds_toArray, List.set_cons_zero, List.set_cons_succ])
    refine wpAnyH_take (i := 3) (v := ?_) rfl (by kernel_rfl) (by kernel_rfl) (by kernel_rfl) (fun _ _ _ h => h) (Or.inl ⟨by rfl, ?_⟩) hS ?_
    rotate_left
    · intro W hW; go_simp; try with_reducible rfl
    (try simp only [Act.put, List.getElem_toArray, List.getElem_cons_succ, List.getElem_cons_zero, List.setIfInBounds_toArray, List.set_cons_zero, List.set_cons_succ])
    refine wpAnyH_take (i := 5) (v := ?_) rfl (by kernel_rfl) (by kernel_rfl) (by kernel_rfl) (fun _ _ _ h => h) (Or.inl ⟨by rfl, ?_⟩) hS ?_
    rotate_left
    · intro W hW; go_simp; try with_reducible rfl
    (try simp only [Act.put, List.getElem_toArray, List.getElem_cons_succ, List.getElem_cons_zero, List.setIfInBounds_toArray, List.set_cons_zero, List.set_cons_succ])
    refine wpAnyH_take (i := 6) (v := ?_) rfl (by kernel_rfl) (by kernel_rfl) (by kernel_rfl) (fun _ _ _ h => h) (Or.inl ⟨by rfl, ?_⟩) hS ?_
    rotate_left
    · intro W hW; go_simp; try with_reducible rfl
    (try simp only [Act.put, List.getElem_toArray, List.getElem_cons_succ, List.getElem_cons_zero, List.setIfInBounds_toArray, List.set_cons_zero, List.set_cons_succ])
    refine wpAnyH_take (i := 9) (v := ?_) rfl (by kernel_rfl) (by kernel_rfl) (by kernel_rfl) (fun _ _ _ h => h) (Or.inl ⟨by rfl, ?_⟩) hS ?_
    rotate_left
    · intro W hW; go_simp; try with_reducible rfl
    (try simp only [Act.put, List.getElem_toArray, List.getElem_cons_succ, List.getElem_cons_zero, List.setIfInBounds_toArray, List.set_cons_zero, List.set_cons_succ])
    refine wpAnyH_take (i := 10) (v := ?_) rfl (by kernel_rfl) (by kernel_rfl) (by kernel_rfl) (fun _ _ _ h => h) (Or.inl ⟨by rfl, ?_⟩) hS ?_
    rotate_left
    · intro W hW; go_simp; try with_reducible rfl
    (try simp only [Act.put, List.getElem_toArray, List.getElem_cons_succ, List.getElem_cons_zero, List.setIfInBounds_toArray, List.set_cons_zero, List.set_cons_succ])
    refine' wpAnyH_take (i := 4) (v := _) rfl (by kernel_rfl) (by kernel_rfl) (by kernel_rfl) (fun _ _ _ h => h) (yif_load_bxw 0 (fun _ h => h.2) Try.underlying27 rfl rfl rfl rfl rfl (by kernel_rfl)) hS ?_
    (try simp only [Act.put, List.getElem_toArray, List.getElem_cons_succ, List.getElem_cons_zero, List.setIfInBounds_toArray, List.set_cons_zero, List.set_cons_succ])
    refine' wpAnyH_take (i := 8) (v := _) rfl (by kernel_rfl) (by kernel_rfl) (by kernel_rfl) (fun _ _ _ h => h) (yif_load_bxw 0 (fun _ h => h.1) Try.underlying27 rfl rfl rfl rfl rfl (by kernel_rfl)) hS ?_
    (try simp only [Act.put, List.getElem_toArray, List.getElem_cons_succ, List.getElem_cons_zero, List.setIfInBounds_toArray, List.set_cons_zero, List.set_cons_succ])
    refine wpAnyH_ready (rs := [7]) (by kernel_rfl) (by simp) ?_
    refine AllReadyH.cons rfl (fun K hK => ?_) (AllReadyH.nil)
    all_goals (try simp only [List.getElem_toArray, List.getElem_cons_succ, List.getElem_cons_zero])
    go_simp
    go_at_call 25
    refine Calls.mono (FR1.out _ hS.2.beh) ?_
    rintro e wf1 ⟨lb1, la1, lc1, rfl, hm1⟩
    have hb : Below _ _ _ := hm1.beh
    refine hK.out _ _ (⟨hS.1.on hb, hS.2.on hb⟩) (fun hS => ?_)
    clear hK K
    (try simp only [Act.put, List.getElem_toArray, List.getElem_cons_succ, List.getElem_cons_zero, List.setIfInBounds_toArray, List.set_cons_zero, List.set_cons_succ])
    have HL1 := Lib.hid hm1
    clear hm1 hb
    refine wpAnyH_ready (rs := [11]) (by kernel_rfl) (by simp) ?_
    refine AllReadyH.cons rfl (fun K hK => ?_) (AllReadyH.nil)
    all_goals (try simp only [List.getElem_toArray, List.getElem_cons_succ, List.getElem_cons_zero])
    go_simp
    go_at_call 25
    refine Calls.mono (FR2.out _ hS.1.beh) ?_
    rintro e wf2 ⟨lb2, la2, lc2, rfl, hm2⟩
    have hb : Below _ _ _ := hm2.beh
    refine hK.out _ _ (⟨hS.1.on hb, hS.2.on hb⟩) (fun hS => ?_)
    clear hK K
    (try simp only [Act.put, List.getElem_toArray, List.getElem_cons_succ, List.getElem_cons_zero, List.setIfInBounds_toArray, List.set_cons_zero, List.set_cons_succ])
    have HL1 := Lib.hid (HL1.out.on hb)
    have HL2 := Lib.hid hm2
    clear hm2 hb
    refine wpAnyH_ready (rs := [12]) (by kernel_rfl) (by simp) ?_
    refine AllReadyH.cons rfl (fun K hK => ?_) (AllReadyH.nil)
    all_goals (try simp only [List.getElem_toArray, List.getElem_cons_succ, List.getElem_cons_zero])
    go_simp
    go_at_call 27
    refine Calls.mono (keepEnts_self la1 lc1 la2 lc2 L _ HL1.out.list HL2.out.list) ?_
    rintro e wf3 ⟨rfl, hb⟩
    refine hK.out _ _ (⟨hS.1.on hb, hS.2.on hb⟩) (fun hS => ?_)
    clear hK K
    (try simp only [Act.put, List.getElem_toArray, List.getElem_cons_succ, List.getElem_cons_zero, List.setIfInBounds_toArray, List.set_cons_zero, List.set_cons_succ])
    clear hb
    refine wpAnyH_take (i := 13) (v := ?_) rfl (by kernel_rfl) (by kernel_rfl) (by kernel_rfl) (fun _ _ _ h => h) (Or.inl ⟨by rfl, ?_⟩) hS ?_
    rotate_left
    · intro W hW; go_simp; try with_reducible rfl
    (try simp only [Act.put, List.getElem_toArray, List.getElem_cons_succ, List.getElem_cons_zero, List.setIfInBounds_toArray, List.set_cons_zero, List.set_cons_succ])
    refine wpAnyH_take (i := 14) (v := ?_) rfl (by kernel_rfl) (by kernel_rfl) (by kernel_rfl) (fun _ _ _ h => h) (Or.inl ⟨by rfl, ?_⟩) hS ?_
    rotate_left
    · intro W hW; go_simp; try with_reducible rfl
    (try simp only [Act.put, List.getElem_toArray, List.getElem_cons_succ, List.getElem_cons_zero, List.setIfInBounds_toArray, List.set_cons_zero, List.set_cons_succ])
    refine wpAnyH_ready (rs := [15]) (by kernel_rfl) (by simp) ?_
    refine AllReadyH.cons rfl (fun K hK => ?_) (AllReadyH.nil)
    all_goals (try simp only [List.getElem_toArray, List.getElem_cons_succ, List.getElem_cons_zero])
    go_simp
    go_at_call 35
    refine ((HWK _).out).mono ?_
    rintro e wf4 ⟨rfl, hb⟩
    refine hK.out _ _ (⟨hS.1.on hb, hS.2.on hb⟩) (fun hS => ?_)
    clear hK K
    (try simp only [Act.put, List.getElem_toArray, List.getElem_cons_succ, List.getElem_cons_zero, List.setIfInBounds_toArray, List.set_cons_zero, List.set_cons_succ])
    clear hb
    refine wpAnyH_take (i := 16) (v := ?_) rfl (by kernel_rfl) (by kernel_rfl) (by kernel_rfl) (fun _ _ _ h => h) (Or.inl ⟨by rfl, ?_⟩) hS ?_
    rotate_left
    · intro W hW; go_simp; try with_reducible rfl
    (try simp only [Act.put, List.getElem_toArray, List.getElem_cons_succ, List.getElem_cons_zero, List.setIfInBounds_toArray, List.set_cons_zero, List.set_cons_succ])
    refine wpAnyH_take (i := 17) (v := ?_) rfl (by kernel_rfl) (by kernel_rfl) (by kernel_rfl) (fun _ _ _ h => h) (Or.inl ⟨by rfl, ?_⟩) hS ?_
    rotate_left
    · intro W hW; go_simp; try with_reducible rfl
    (try simp only [Act.put, List.getElem_toArray, List.getElem_cons_succ, List.getElem_cons_zero, List.setIfInBounds_toArray, List.set_cons_zero, List.set_cons_succ])
    refine wpAnyH_done (by kernel_rfl) ?_ _
    have HB := Lib.hid hS.1
    go_wp2_with fail
    go_ret
    exact ⟨rfl, HB.out.beh⟩
  case false =>
    obtain ⟨e1, e2⟩ := his.bare hft
    rw [e1, e2] at L2
    clear e1 e2 his hft FR1 FR2
    generalize h.last = ln at *
    generalize h.lastT = lt at *
    go_wp2_with (first
      | (apply Bh.store_bx 10 0 HX.out; rfl; rfl; rfl; rfl; rfl; rfl; kernel_rfl; rfl; rfl; intro wz hz; have HX := Lib.hid hz; (have HB := Lib.hid (HB.out.on hz.beh)); clear hz; (obtain ⟨x0, x1, x2, x3, x4, x5, x6, x7, x8, x9⟩ := cells10h (h := X) (p := xq) HX.out.b0); (obtain ⟨c0, c1, c2, c3, c4, c5, c6, c7, c8, c9⟩ := cells10h (h := h) (p := p) HB.out.b0); (obtain ⟨v0, v1, v2, v3⟩ := cells4c HB.out.b1))
      | (go_at_call 14; (with_reducible refine Calls.mono (L1.out _ ?_) ?_); exact HB.out.beh; rintro e wy ⟨rfl, hb⟩; (have HB := Lib.hid (HB.out.on hb)); (have HX := Lib.hid (HX.out.on hb)); clear hb; (obtain ⟨x0, x1, x2, x3, x4, x5, x6, x7, x8, x9⟩ := cells10h (h := X) (p := xq) HX.out.b0); (obtain ⟨c0, c1, c2, c3, c4, c5, c6, c7, c8, c9⟩ := cells10h (h := h) (p := p) HB.out.b0); (obtain ⟨v0, v1, v2, v3⟩ := cells4c HB.out.b1))
      | (go_at_call 14; (with_reducible refine Calls.mono (L2.out _ ?_) ?_); exact HX.out.beh; rintro e wy ⟨rfl, hb⟩; (have HB := Lib.hid (HB.out.on hb)); (have HX := Lib.hid (HX.out.on hb)); clear hb; (obtain ⟨x0, x1, x2, x3, x4, x5, x6, x7, x8, x9⟩ := cells10h (h := X) (p := xq) HX.out.b0); (obtain ⟨c0, c1, c2, c3, c4, c5, c6, c7, c8, c9⟩ := cells10h (h := h) (p := p) HB.out.b0); (obtain ⟨v0, v1, v2, v3⟩ := cells4c HB.out.b1))
      | (go_at_call 26; refine Calls.mono (KC.out _) ?_; rintro e wy ⟨rfl, hb⟩; (have HB := Lib.hid (HB.out.on hb)); (have HX := Lib.hid (HX.out.on hb)); clear hb; (obtain ⟨x0, x1, x2, x3, x4, x5, x6, x7, x8, x9⟩ := cells10h (h := X) (p := xq) HX.out.b0); (obtain ⟨c0, c1, c2, c3, c4, c5, c6, c7, c8, c9⟩ := cells10h (h := h) (p := p) HB.out.b0); (obtain ⟨v0, v1, v2, v3⟩ := cells4c HB.out.b1))
      | (go_at_call 18; (with_reducible refine Calls.mono (CHX.out _ ?_) ?_); exact HX.out.beh; rintro e wy ⟨rfl, hb⟩; (have HB := Lib.hid (HB.out.on hb)); (have HX := Lib.hid (HX.out.on hb)); clear hb; (obtain ⟨x0, x1, x2, x3, x4, x5, x6, x7, x8, x9⟩ := cells10h (h := X) (p := xq) HX.out.b0); (obtain ⟨c0, c1, c2, c3, c4, c5, c6, c7, c8, c9⟩ := cells10h (h := h) (p := p) HB.out.b0); (obtain ⟨v0, v1, v2, v3⟩ := cells4c HB.out.b1))
      | (go_at_call 49; refine Calls.mono (KB.out _ HX.out.beh HB.out.beh) ?_; rintro e wk ⟨rfl, hb⟩; (have HB := Lib.hid (HB.out.on hb)); (have HX := Lib.hid (HX.out.on hb)); clear hb; (obtain ⟨x0, x1, x2, x3, x4, x5, x6, x7, x8, x9⟩ := cells10h (h := X) (p := xq) HX.out.b0); (obtain ⟨c0, c1, c2, c3, c4, c5, c6, c7, c8, c9⟩ := cells10h (h := h) (p := p) HB.out.b0); (obtain ⟨v0, v1, v2, v3⟩ := cells4c HB.out.b1))
      | (apply Bh.load_bx 0 HX.out Try.underlying27; rfl; rfl; rfl; rfl; rfl; kernel_rfl)
      | (apply Bh.load_bx 0 HB.out Try.underlying27; rfl; rfl; rfl; rfl; rfl; kernel_rfl)
      | (apply Bh.load_bx 1 HB.out Try.underlying23; rfl; rfl; rfl; rfl; rfl; kernel_rfl)
      | (go_at_call 35; refine ((HWK _).out).mono ?_; rintro e wy ⟨rfl, hb⟩; (have HB := Lib.hid (HB.out.on hb)); clear hb))
    go_ret
    exact ⟨rfl, HB.out.beh⟩
end Go.Proofs.Ytaifjkilmdnfbaa.Lg
