import Derived.Test.YtaengjgmchpabaaGreatMergeWr18
import Derived.Test.YtaengjgmchpabaaGreatWireR6
import Derived.Test.YtaengjgmchpabaaGreatMergeWr13
section
/- The reference's readers: an entry. -/
namespace Go.Proofs.YtaengjgmchpabaaGreat.Wr
open Go Go.RowKit Vl Kv Ss Cn Mem Lg Nm
attribute [local go_sem] Nm.run_bits Nm.run_frombits run_store_float
theorem ent_rb {l r1 r2 r : List Nat} {e e1 e2 e' n1 n2 : Int} {c : Cl} {f : C} (h1 : Rb cInt l e n1 r1 e1) (h2 : Rb cInt r1 e1 n2 r2 e2) (h3 : Rb (entPart n2) r2 e2 (c, f) r e') : Rb cEnt l e ⟨n1, n2, c, f⟩ r e' :=
  Rb.as (f := fun x : (Int × Int) × (Cl × C) => (⟨x.1.1, x.1.2, x.2.1, x.2.2⟩ : E)) (Rb.sel (B := fun x : Int × Int => entPart x.2) (h1.seq h2) h3)
set_option maxHeartbeats 6400000 in
set_option maxRecDepth 100000 in
theorem Ent_rt {w : World} {br b : Nat} {a : Option Addr} {cap : Nat} {F l : List Nat} {e : Int} (h : RR w br b a cap F l e) (hF : F.length ≤ 100000) :
    Calls Tryz.prog 78 #[.pointer (some ⟨br, 0, none⟩)] w (Rtold cEnt E.agg br b a cap F l e w) := by
  have HF := Lib.hid (Rv1.start h E.zero.obj)
  clear h
  go_enter Tryz.func78, Tryz.ntmps78
  go_wp2_with fail
  refine (Int_rt HF.out.rr hF).mono ?_
  rintro x w1 ⟨n1, r1, e1, rfl, h1, k1, b1⟩
  have HF := Lib.hid (HF.out.call h1 k1)
  have HR1 := Lib.hid b1
  clear h1 k1 b1
  go_wp2_with fail
  refine (Int_rt HF.out.rr hF).mono ?_
  rintro x w2 ⟨n2, r2, e2, rfl, h1, k1, b1⟩
  have HF := Lib.hid (HF.out.call h1 k1)
  have HR2 := Lib.hid b1
  clear h1 k1 b1
  have HX := Lib.hid (HF.out.more E.zero.obj)
  clear HF
  by_cases k0 : n2 = 0
  · subst k0
    go_wp2_with (first | (apply store_g 16 HX.out.xbox; rfl; rfl; rfl; rfl; rfl; kernel_rfl; rfl; rfl; intro wz hz he; have HX := Lib.hid (HX.out.setX hz he); clear hz he; obtain ⟨x0, x1, x2, x3, x4, x5, x6, x7, x8, x9, x10, x11, x12, x13, x14, x15⟩ := Lg.cells16 HX.out.xbox) | (apply load_g HX.out.xbox Tryz.underlying70; rfl; rfl; rfl; rfl; kernel_rfl) | (apply store_g 16 HX.out.box; rfl; rfl; rfl; rfl; rfl; kernel_rfl; rfl; rfl; intro wz hz he; have HX := Lib.hid (HX.out.setR hz he); clear hz he))
    (try simp only [Exit.inBlock, Exit.then])
    refine bodyPost_ret (v := E.agg ⟨n1, 0, Cl.zero, C.zero⟩) (Bh.results_cell_row1 rfl _ _ _ _ _ _ _ rfl HX.out.box Tryz.underlying70 rfl (by kernel_rfl)) rfl ?_
    exact ⟨_, _, _, rfl, HX.out.rr, HX.out.kept, ent_rb HR1.out HR2.out (show Rb (entPart 0) r2 e2 (Cl.zero, C.zero) r2 e2 from Rb.one _ rfl rfl)⟩
  have d0 := int_nbeq k0
  by_cases k1 : n2 = 1
  · subst k1
    clear k0 d0
    go_wp2_with (first | (apply store_g 16 HX.out.xbox; rfl; rfl; rfl; rfl; rfl; kernel_rfl; rfl; rfl; intro wz hz he; have HX := Lib.hid (HX.out.setX hz he); clear hz he; obtain ⟨x0, x1, x2, x3, x4, x5, x6, x7, x8, x9, x10, x11, x12, x13, x14, x15⟩ := Lg.cells16 HX.out.xbox))
    refine (Int_rt HX.out.rr hF).mono ?_
    rintro x w3 ⟨n3, r3, e3, rfl, h1, k1, b1⟩
    have HX := Lib.hid (HX.out.callx h1 k1)
    have HR3 := Lib.hid b1
    clear h1 k1 b1
    clear x0 x1 x2 x3 x4 x5 x6 x7 x8 x9 x10 x11 x12 x13 x14 x15
    go_wp2_with (first | (apply store_g1 HX.out.xbox; rfl; rfl; rfl; rfl; rfl; rfl; kernel_rfl; rfl; intro wz hz he; (try simp only [List.setIfInBounds_toArray, List.set_cons_succ, List.set_cons_zero] at hz); have HX := Lib.hid (HX.out.setX hz he); clear hz he))
    refine (Int_rt HX.out.rr hF).mono ?_
    rintro x w4 ⟨n4, r4, e4, rfl, h1, k1, b1⟩
    have HX := Lib.hid (HX.out.callx h1 k1)
    have HR4 := Lib.hid b1
    clear h1 k1 b1
    go_wp2_with (first | (apply store_g1 HX.out.xbox; rfl; rfl; rfl; rfl; rfl; rfl; kernel_rfl; rfl; intro wz hz he; (try simp only [List.setIfInBounds_toArray, List.set_cons_succ, List.set_cons_zero] at hz); have HX := Lib.hid (HX.out.setX hz he); clear hz he))
    refine (Int_rt HX.out.rr hF).mono ?_
    rintro x w5 ⟨n5, r5, e5, rfl, h1, k1, b1⟩
    have HX := Lib.hid (HX.out.callx h1 k1)
    have HR5 := Lib.hid b1
    clear h1 k1 b1
    go_wp2_with (first | (apply store_g1 HX.out.xbox; rfl; rfl; rfl; rfl; rfl; rfl; kernel_rfl; rfl; intro wz hz he; (try simp only [List.setIfInBounds_toArray, List.set_cons_succ, List.set_cons_zero] at hz); have HX := Lib.hid (HX.out.setX hz he); clear hz he))
    have HT := Lib.hid (refText_any HX.out.rr hF)
    unfold RTextTold at HT
    have HRT6 := Lib.hid (textOut_rb (l := r5) (e := e5))
    generalize Pk.textOut r5 e5 = o at *
    obtain ⟨n6, r6, e6⟩ := o
    dsimp only at HT HRT6
    refine HT.out.mono ?_
    rintro x w6 ⟨bt, at_, ct, rfl, ho, _, h1, k1⟩
    have kc := run_lb w6 bt at_ ct _ n6 rfl ho
    have HX := Lib.hid (HX.out.callx h1 k1)
    clear h1 k1 ho HT
    go_wp2_with (first | (apply store_g1 HX.out.xbox; rfl; rfl; rfl; rfl; rfl; rfl; kernel_rfl; rfl; intro wz hz he; (try simp only [List.setIfInBounds_toArray, List.set_cons_succ, List.set_cons_zero] at hz); have HX := Lib.hid (HX.out.setX hz he); clear hz he))
    refine (Val_rt HX.out.rr hF).mono ?_
    rintro x w7 ⟨n7, r7, e7, rfl, h1, k1, b1⟩
    have HX := Lib.hid (HX.out.callx h1 k1)
    have HR7 := Lib.hid b1
    clear h1 k1 b1
    clear kc
    go_wp2_with (first | (apply store_gm HX.out.xbox; rfl; rfl; rfl; rfl; rfl; kernel_rfl; rfl; rfl; intro wz hz he; (try simp only [splice, List.setIfInBounds_toArray, List.set_cons_succ, List.set_cons_zero, Nat.reduceAdd] at hz); have HX := Lib.hid (HX.out.setX hz he); clear hz he))
    refine (Val_rt HX.out.rr hF).mono ?_
    rintro x w8 ⟨n8, r8, e8, rfl, h1, k1, b1⟩
    have HX := Lib.hid (HX.out.callx h1 k1)
    have HR8 := Lib.hid b1
    clear h1 k1 b1
    go_wp2_with (first | (apply store_gm HX.out.xbox; rfl; rfl; rfl; rfl; rfl; kernel_rfl; rfl; rfl; intro wz hz he; (try simp only [splice, List.setIfInBounds_toArray, List.set_cons_succ, List.set_cons_zero, Nat.reduceAdd] at hz); have HX := Lib.hid (HX.out.setX hz he); clear hz he) | (apply load_g HX.out.xbox Tryz.underlying70; rfl; rfl; rfl; rfl; kernel_rfl) | (apply store_g 16 HX.out.box; rfl; rfl; rfl; rfl; rfl; kernel_rfl; rfl; rfl; intro wz hz he; have HX := Lib.hid (HX.out.setR hz he); clear hz he))
    (try simp only [Exit.inBlock, Exit.then])
    refine bodyPost_ret (v := E.agg ⟨n1, 1, ⟨n3, n4, ⟨n5, lb n6, n7, n8⟩⟩, C.zero⟩) (Bh.results_cell_row1 rfl _ _ _ _ _ _ _ rfl HX.out.box Tryz.underlying70 rfl (by kernel_rfl)) rfl ?_
    exact ⟨_, _, _, rfl, HX.out.rr, HX.out.kept, ent_rb HR1.out HR2.out (show Rb (entPart 1) r2 e2 (⟨n3, n4, ⟨n5, lb n6, n7, n8⟩⟩, C.zero) r8 e8 from Rb.emb (A := cCall) (f := fun c => (c, C.zero)) (g := Prod.fst) (hg := fun _ _ => rfl) (Rb.as (HR3.out.seq (HR4.out.seq (Rb.as (HR5.out.seq ((key_rb HRT6.out).seq (HR7.out.seq HR8.out))))))))⟩
  have d1 := int_nbeq k1
  by_cases k2 : n2 = 2
  · subst k2
    clear k0 d0 k1 d1
    go_wp2_with (first | (apply store_g 16 HX.out.xbox; rfl; rfl; rfl; rfl; rfl; kernel_rfl; rfl; rfl; intro wz hz he; have HX := Lib.hid (HX.out.setX hz he); clear hz he; obtain ⟨x0, x1, x2, x3, x4, x5, x6, x7, x8, x9, x10, x11, x12, x13, x14, x15⟩ := Lg.cells16 HX.out.xbox))
    refine (Conf_rt HX.out.rr hF).mono ?_
    rintro x w3 ⟨n3, r3, e3, rfl, h1, k1, b1⟩
    have HX := Lib.hid (HX.out.callx h1 k1)
    have HR3 := Lib.hid b1
    clear h1 k1 b1
    clear x0 x1 x2 x3 x4 x5 x6 x7 x8 x9 x10 x11 x12 x13 x14 x15
    go_wp2_with (first | (apply store_gm HX.out.xbox; rfl; rfl; rfl; rfl; rfl; kernel_rfl; rfl; rfl; intro wz hz he; (try simp only [splice, List.setIfInBounds_toArray, List.set_cons_succ, List.set_cons_zero, Nat.reduceAdd] at hz); have HX := Lib.hid (HX.out.setX hz he); clear hz he) | (apply load_g HX.out.xbox Tryz.underlying70; rfl; rfl; rfl; rfl; kernel_rfl) | (apply store_g 16 HX.out.box; rfl; rfl; rfl; rfl; rfl; kernel_rfl; rfl; rfl; intro wz hz he; have HX := Lib.hid (HX.out.setR hz he); clear hz he))
    (try simp only [Exit.inBlock, Exit.then])
    refine bodyPost_ret (v := E.agg ⟨n1, 2, Cl.zero, n3⟩) (Bh.results_cell_row1 rfl _ _ _ _ _ _ _ rfl HX.out.box Tryz.underlying70 rfl (by kernel_rfl)) rfl ?_
    exact ⟨_, _, _, rfl, HX.out.rr, HX.out.kept, ent_rb HR1.out HR2.out (show Rb (entPart 2) r2 e2 (Cl.zero, n3) r3 e3 from Rb.emb (A := cConf) (f := fun c => (Cl.zero, c)) (g := Prod.snd) (hg := fun _ _ => rfl) HR3.out)⟩
  have d2 := int_nbeq k2
  have HFAR : Hid (∀ q, (entPart n2).rd q = none) := fun q => entPart_far n2 (by omega) q
  clear k0 k1 k2
  go_wp2_with (first | (apply store_g 16 HX.out.xbox; rfl; rfl; rfl; rfl; rfl; kernel_rfl; rfl; rfl; intro wz hz he; have HX := Lib.hid (HX.out.setX hz he); clear hz he; obtain ⟨x0, x1, x2, x3, x4, x5, x6, x7, x8, x9, x10, x11, x12, x13, x14, x15⟩ := Lg.cells16 HX.out.xbox))
  refine (refNone_any2 HX.out.rr 3 (by decide)).mono ?_
  rintro x w3 ⟨rfl, h1, k1⟩
  have HX := Lib.hid (HX.out.callx h1 k1)
  clear h1 k1 x0 x1 x2 x3 x4 x5 x6 x7 x8 x9 x10 x11 x12 x13 x14 x15
  go_wp2_with (first | (apply load_g HX.out.xbox Tryz.underlying70; rfl; rfl; rfl; rfl; kernel_rfl) | (apply store_g 16 HX.out.box; rfl; rfl; rfl; rfl; rfl; kernel_rfl; rfl; rfl; intro wz hz he; have HX := Lib.hid (HX.out.setR hz he); clear hz he))
  (try simp only [Exit.inBlock, Exit.then])
  refine bodyPost_ret (v := E.agg ⟨n1, n2, Cl.zero, C.zero⟩) (Bh.results_cell_row1 rfl _ _ _ _ _ _ _ rfl HX.out.box Tryz.underlying70 rfl (by kernel_rfl)) rfl ?_
  exact ⟨_, _, _, rfl, HX.out.rr, HX.out.kept, ent_rb HR1.out HR2.out (.inr ⟨keep_ne (by decide), fun _ => HFAR.out _⟩)⟩
end Go.Proofs.YtaengjgmchpabaaGreat.Wr
end
section
/- Cut out of WireG3 so that every seat fills it. -/
namespace Go.Proofs.YtaengjgmchpabaaGreat.Wr
open Go Go.RowKit Vl Kv Ss Cn Mem Lg Nm
attribute [local go_sem] Nm.run_bits Nm.run_frombits run_store_float
theorem all_of {α : Type} (A : Cod α) {F r : List Nat} {y : α} {e' : Int} (h : Rb A F 0 y r e') : A.all F = if e' = 0 ∧ r = [] ∧ F.length ≤ 16384 then some y else none := by
  unfold Cod.all
  rcases h with ⟨_, h1, hd⟩ | ⟨h1, hd⟩
  · rw [hd]
    cases r with
    | nil =>
      by_cases hl : F.length ≤ 16384
      · rw [if_pos ⟨h1, rfl, hl⟩]; simp [hl]
      · rw [if_neg (fun x => hl x.2.2)]; simp [hl]
    | cons a q => rw [if_neg (fun x => by cases x.2.1)]
  · rw [hd rfl, if_neg (fun x => h1 x.1)]
set_option maxHeartbeats 1600000 in
set_option maxRecDepth 100000 in
theorem Over_rt {w : World} {br b : Nat} {a : Option Addr} {cap : Nat} {F r : List Nat} {e : Int} (h : RR w br b a cap F r e) (a2 : Option Addr) (n cap2 : Nat) :
    Calls Tryz.prog 29 #[.pointer (some ⟨br, 0, none⟩), .slice a2 n cap2] w fun x w' => x = .returned (.bool (decide (e = 0 ∧ r = [] ∧ n ≤ 16384))) ∧ ∃ nd, w' = w.drewN nd := by
  obtain ⟨at_, ha, hB, _, _, _, h0, h1⟩ := h
  have HD := Lib.hid (refDone_any hB)
  have hz : (if e = 0 ∧ at_ < F.length then (3 : Int) else e) = 0 ↔ e = 0 ∧ r = [] := by
    by_cases he : e = 0
    · have hr := h0 he
      by_cases hl : at_ < F.length
      · rw [if_pos ⟨he, hl⟩]
        refine ⟨fun x => absurd x (by decide), fun x => ?_⟩
        have := congrArg List.length (hr.trans x.2)
        rw [List.length_drop, List.length_nil] at this
        omega
      · rw [if_neg (fun x => hl x.2)]
        refine ⟨fun _ => ⟨he, ?_⟩, fun x => x.1⟩
        rw [← hr, List.drop_eq_nil_of_le (by omega)]
    · rw [if_neg (fun x => he x.1)]
      exact ⟨fun x => absurd x he, fun x => x.1⟩
  clear h0 h1 ha hB
  generalize (if e = 0 ∧ at_ < F.length then (3 : Int) else e) = v at *
  by_cases hv : v = 0
  · subst hv
    have hq := hz.1 rfl
    by_cases hn : n ≤ 16384
    · have HX := Lib.hid (show decide (e = 0 ∧ r = [] ∧ n ≤ 16384) = true from decide_eq_true ⟨hq.1, hq.2, hn⟩)
      have d1 : decide ((n : Int) ≤ 16384) = true := decide_eq_true (by omega)
      clear hz hq hn
      go_enter Tryz.func29, Tryz.ntmps29
      go_wp2_with (go_at_call 61; refine Calls.mono HD.out ?_; rintro x w' ⟨rfl, nd, rfl⟩)
      go_ret
      exact ⟨ret_bool (by rw [HX.out]), _, rfl⟩
    · have HX := Lib.hid (show decide (e = 0 ∧ r = [] ∧ n ≤ 16384) = false from decide_eq_false fun x => hn x.2.2)
      have d1 : decide ((n : Int) ≤ 16384) = false := decide_eq_false (by omega)
      clear hz hq hn
      go_enter Tryz.func29, Tryz.ntmps29
      go_wp2_with (go_at_call 61; refine Calls.mono HD.out ?_; rintro x w' ⟨rfl, nd, rfl⟩)
      go_ret
      exact ⟨ret_bool (by rw [HX.out]), _, rfl⟩
  · have HX := Lib.hid (show decide (e = 0 ∧ r = [] ∧ n ≤ 16384) = false from decide_eq_false fun x => hv (hz.2 ⟨x.1, x.2.1⟩))
    have d1 := int_nbeq hv
    clear hz hv
    go_enter Tryz.func29, Tryz.ntmps29
    go_wp2_with (go_at_call 61; refine Calls.mono HD.out ?_; rintro x w' ⟨rfl, nd, rfl⟩)
    go_ret
    exact ⟨ret_bool (by rw [HX.out]), _, rfl⟩
/-- a reader of the call's own, and the block of a result -/
structure Ro1 (w : World) (br b : Nat) (a : Option Addr) (cap : Nat) (F l : List Nat) (e : Int) (gr : Nat) (R : Obj) (W : World) : Prop where
  rr : RR W br b a cap F l e
  beh : Below w.heap.size w W
  lbr : w.heap.size ≤ br
  lb : F ≠ [] → b < w.heap.size
  box : W.heap[gr]? = some R
  lo : w.heap.size ≤ gr
  ner : gr ≠ br
/-- and another block -/
structure Ro2 (w : World) (br b : Nat) (a : Option Addr) (cap : Nat) (F l : List Nat) (e : Int) (gr : Nat) (R : Obj) (gx : Nat) (X : Obj) (W : World) : Prop extends Ro1 w br b a cap F l e gr R W where
  xbox : W.heap[gx]? = some X
  xlo : w.heap.size ≤ gx
  xner : gx ≠ br
  ne : gx ≠ gr
section
variable {w W W' : World} {br b cap gr gx : Nat} {a : Option Addr} {F l l' : List Nat} {e e' : Int} {R X R' X' : Obj}
theorem Ro1.start (h : Mem.Src w b a cap F) (h8 : B8 F) (R : Obj) (n : Nat) (hn : n = F.length) : Ro1 w (w.heap.size + 1) b a cap F F 0 w.heap.size R ((w.alloc R).alloc (.cells #[.slice a n cap, .int .i64 0, .int .i64 0] 56)) := by
  subst hn
  have k : Kept Mem.None w ((w.alloc R).alloc (.cells #[.slice a F.length cap, .int .i64 0, .int .i64 0] 56)) := ((Kept.refl _ w).alloc _).alloc _
  refine ⟨⟨0, Nat.zero_le _, ?_, h.kept k (fun _ h => h), h8, fun hF => by have := h.lt hF; omega, fun _ => rfl, fun h => absurd rfl h⟩, beh_kept k, Nat.le_succ _, fun hF => h.lt hF, old_alloc _ (alloc_here _ rfl), Nat.le_refl _, by omega⟩
  exact alloc_here _ (by simp)
theorem Ro1.call (h : Ro1 w br b a cap F l e gr R W) (hr : RR W' br b a cap F l' e') (hk : Kept (Only br) W W') : Ro1 w br b a cap F l' e' gr R W' :=
  ⟨hr, h.beh.trans (hk.below h.beh.size (fun k hk => by have hk : k = br := hk; have := h.lbr; omega)), h.lbr, h.lb, keptO hk h.box h.ner, h.lo, h.ner⟩
theorem Ro1.els {g : Nat} (h : Ro1 w br b a cap F l e gr R W) (hg : w.heap.size ≤ g) (hgb : g ≠ br) (hx : W'.heap[gr]? = some R') (x : Bh.Else g W W') : Ro1 w br b a cap F l e gr R' W' :=
  ⟨RR.els h.rr x (fun e => hgb e.symm) (fun hr => by have := h.lb hr; omega), h.beh.trans ((else_kept x).below h.beh.size (fun k hk => by have hk : k = g := hk; omega)), h.lbr, h.lb, hx, h.lo, h.ner⟩
theorem Ro1.more (h : Ro1 w br b a cap F l e gr R W) (X : Obj) : Ro2 w br b a cap F l e gr R W.heap.size X (W.alloc X) :=
  { rr := h.rr.kept ((Kept.refl Mem.None W).alloc X) (fun h => h) (fun _ h => h), beh := h.beh.trans (((Kept.refl Mem.None W).alloc X).below h.beh.size (fun _ h => h.elim)), lbr := h.lbr, lb := h.lb, box := old_alloc _ h.box, lo := h.lo, ner := h.ner, xbox := alloc_here _ rfl, xlo := h.beh.size, xner := by have := h.rr.lt1; omega, ne := by have := heap_lt h.box; omega }
theorem Ro2.callx (h : Ro2 w br b a cap F l e gr R gx X W) (hr : RR W' br b a cap F l' e') (hk : Kept (Only br) W W') : Ro2 w br b a cap F l' e' gr R gx X W' :=
  { h.toRo1.call hr hk with xbox := keptO hk h.xbox h.xner, xlo := h.xlo, xner := h.xner, ne := h.ne }
theorem Ro2.setX (h : Ro2 w br b a cap F l e gr R gx X W) (hx : W'.heap[gx]? = some X') (x : Bh.Else gx W W') : Ro2 w br b a cap F l e gr R gx X' W' :=
  { h.toRo1.els h.xlo h.xner ((x.block gr (fun e => h.ne e.symm)).trans h.box) x with xbox := hx, xlo := h.xlo, xner := h.xner, ne := h.ne }
theorem Ro2.setR (h : Ro2 w br b a cap F l e gr R gx X W) (hx : W'.heap[gr]? = some R') (x : Bh.Else gr W W') : Ro2 w br b a cap F l e gr R' gx X W' :=
  { h.toRo1.els h.lo h.ner hx x with xbox := (x.block gx h.ne).trans h.xbox, xlo := h.xlo, xner := h.xner, ne := h.ne }
end
/-- what is told of all bytes -/
def Ald {α : Type} (A : Cod α) (val : α → Value) (z : Value) (F : List Nat) (w : World) (x : Ending) (w' : World) : Prop :=
  Below w.heap.size w w' ∧ match A.all F with
    | some y => x = .returned (.tuple #[val y, .bool true])
    | none => x = .returned (.tuple #[z, .bool false])
end Go.Proofs.YtaengjgmchpabaaGreat.Wr
end
section
/- Lists as codes, read one by one. Plain. -/
namespace Go.Proofs.YtaengjgmchpabaaGreat.Wr
open Go Go.RowKit Vl Kv Ss Cn Mem Lg
variable {α : Type} {A : Cod α}
theorem rep_zero (l : List Nat) : (A.rep 0).rd l = some ([], l) := rfl
theorem rep_succ (n : Nat) (l : List Nat) : (A.rep (n + 1)).rd l = match A.rd l with
    | none => none
    | some (a, q) => match (A.rep n).rd q with
      | none => none
      | some (L, r) => some (a :: L, r) := rfl
theorem rep_snoc {k : Nat} {l r q : List Nat} {L : List α} {x : α} (h : (A.rep k).rd l = some (L, r)) (h2 : A.rd r = some (x, q)) : (A.rep (k + 1)).rd l = some (L ++ [x], q) := by
  induction k generalizing l L with
  | zero =>
    rw [rep_zero] at h
    injection h with h
    injection h with h1 h3
    subst h1 h3
    rw [rep_succ, h2]
    rfl
  | succ k ih =>
    rw [rep_succ] at h
    cases ha : A.rd l with
    | none => rw [ha] at h; cases h
    | some p =>
      obtain ⟨a, q1⟩ := p
      rw [ha] at h
      simp only at h
      cases hb : (A.rep k).rd q1 with
      | none => rw [hb] at h; cases h
      | some p2 =>
        obtain ⟨L2, r2⟩ := p2
        rw [hb] at h
        simp only at h
        injection h with h
        injection h with h1 h3
        subst h1 h3
        rw [rep_succ, ha]
        simp only
        rw [ih hb]
        rfl
theorem rep_stop {k n : Nat} {l r : List Nat} {L : List α} (h : (A.rep k).rd l = some (L, r)) (h2 : A.rd r = none) (hn : k < n) : (A.rep n).rd l = none := by
  induction k generalizing l L n with
  | zero =>
    rw [rep_zero] at h
    injection h with h
    injection h with h1 h3
    subst h1 h3
    obtain ⟨m, rfl⟩ : ∃ m, n = m + 1 := ⟨n - 1, by omega⟩
    rw [rep_succ, h2]
  | succ k ih =>
    obtain ⟨m, rfl⟩ : ∃ m, n = m + 1 := ⟨n - 1, by omega⟩
    rw [rep_succ] at h
    cases ha : A.rd l with
    | none => rw [ha] at h; cases h
    | some p =>
      obtain ⟨a, q1⟩ := p
      rw [ha] at h
      simp only at h
      cases hb : (A.rep k).rd q1 with
      | none => rw [hb] at h; cases h
      | some p2 =>
        obtain ⟨L2, r2⟩ := p2
        rw [rep_succ, ha]
        simp only
        rw [hb] at h
        simp only at h
        injection h with h
        injection h with _ h3
        subst h3
        rw [ih hb (by omega)]
theorem rep_length {k : Nat} {l r : List Nat} {L : List α} (h8 : B8 l) (h : (A.rep k).rd l = some (L, r)) : L.length = k := (rep_ok.1 ((A.rep k).sound l h8 L r h).2).1
theorem rep_le {k m : Nat} {l r : List Nat} {L : List α} (h8 : B8 l) (h : (A.rep k).rd l = some (L, r)) (hA : ∀ x, m ≤ (A.enc x).length) : k * m + r.length ≤ l.length := by
  obtain ⟨e, o⟩ := (A.rep k).sound l h8 L r h
  obtain ⟨hl, _⟩ := rep_ok.1 o
  rw [rep_enc hl] at e
  have := flat_ge (f := A.enc) (n := m) (L := L) (fun x _ => hA x)
  rw [e, List.length_append, ← hl]
  omega
/-- a list with at most so many -/
abbrev cLi (A : Cod α) (most : Int) : Cod (List α) := cList A (fun n => decide (n ≤ most))
theorem cList_rd {P : Int → Bool} (l : List Nat) : (cList A P).rd l = match (cInt.sel (fun n => if 0 ≤ n ∧ P n = true then A.rep n.toNat else Cod.non)).rd l with
    | none => none
    | some (a, r) => some (a.2, r) := by
  cases h : (cInt.sel (fun n => if 0 ≤ n ∧ P n = true then A.rep n.toNat else Cod.non)).rd l with
  | none => exact emb_no h
  | some p => obtain ⟨a, r⟩ := p; exact emb_yes h
theorem cLi_no1 {most : Int} {l : List Nat} (h : rdUp most l = none) : (cLi A most).rd l = none := by
  rw [cList_rd]
  cases hd : cInt.rd l with
  | none => rw [sel_no1 hd]
  | some p =>
    obtain ⟨n, r⟩ := p
    have hn : ¬ (0 ≤ n ∧ decide (n ≤ most) = true) := fun e => by
      rw [rdUp_yes hd e.1 (of_decide_eq_true e.2)] at h; cases h
    rw [sel_no2 hd (by rw [if_neg hn]; rfl)]
theorem cLi_no2 {most n : Int} {l r : List Nat} (h : rdUp most l = some (n, r)) (h2 : (A.rep n.toNat).rd r = none) : (cLi A most).rd l = none := by
  obtain ⟨hd, h0, h1⟩ := rdUp_int h
  rw [cList_rd, sel_no2 hd (by rw [if_pos ⟨h0, decide_eq_true h1⟩]; exact h2)]
theorem cLi_yes {most n : Int} {l r q : List Nat} {L : List α} (h : rdUp most l = some (n, r)) (h2 : (A.rep n.toNat).rd r = some (L, q)) : (cLi A most).rd l = some (L, q) := by
  obtain ⟨hd, h0, h1⟩ := rdUp_int h
  rw [cList_rd, sel_yes hd (by rw [if_pos ⟨h0, decide_eq_true h1⟩]; exact h2)]
/-- a list of entries: no more than there are bytes -/
theorem list_all {l : List Nat} (h8 : B8 l) : (cLi cEnt l.length).rd l = (cList cEnt (fun _ => true)).rd l := by
  cases hu : rdUp (l.length : Int) l with
  | none =>
    rw [cLi_no1 hu, cList_rd]
    cases hd : cInt.rd l with
    | none => rw [sel_no1 hd]
    | some p =>
      obtain ⟨n, r⟩ := p
      by_cases h0 : 0 ≤ n
      · have hle := rd_le cInt h8 hd
        cases hr : (cEnt.rep n.toNat).rd r with
        | none => rw [sel_no2 hd (by rw [if_pos ⟨h0, rfl⟩]; exact hr)]
        | some p2 =>
          obtain ⟨L, q⟩ := p2
          have := rep_le (m := 2) (rd_b8 cInt h8 hd) hr cEnt_len
          rw [rdUp_yes hd h0 (by omega)] at hu
          cases hu
      · rw [sel_no2 hd (by rw [if_neg (fun e => h0 e.1)]; rfl)]
  | some p =>
    obtain ⟨n, r⟩ := p
    obtain ⟨hd, h0, h1⟩ := rdUp_int hu
    cases hr : (cEnt.rep n.toNat).rd r with
    | none => rw [cLi_no2 hu hr, cList_rd, sel_no2 hd (by rw [if_pos ⟨h0, rfl⟩]; exact hr)]
    | some p2 =>
      obtain ⟨L, q⟩ := p2
      rw [cLi_yes hu hr, cList_rd, sel_yes hd (by rw [if_pos ⟨h0, rfl⟩]; exact hr)]
end Go.Proofs.YtaengjgmchpabaaGreat.Wr
end
