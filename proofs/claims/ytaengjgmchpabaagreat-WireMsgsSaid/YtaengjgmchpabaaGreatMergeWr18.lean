import Derived.Test.YtaengjgmchpabaaGreatMergeWr9
import Derived.Test.YtaengjgmchpabaaGreatWireR4
import Derived.Test.YtaengjgmchpabaaGreatMergeWr12
import Derived.Test.YtaengjgmchpabaaGreatMergeWr15
import Derived.Deep.RegionLaw
section
/- The reference's readers: what a read makes of a code; a reader beside blocks of the call's own; a configuration. -/
namespace Go.Proofs.YtaengjgmchpabaaGreat.Wr
open Go Go.RowKit Vl Kv Ss Cn Mem Lg Nm
attribute [local go_sem] Nm.run_bits Nm.run_frombits run_store_float
/-- what a read of the reference's makes of a code: it goes on beside an error -/
def Rb {α : Type} (A : Cod α) (l : List Nat) (e : Int) (x : α) (r : List Nat) (e' : Int) : Prop :=
  (e = 0 ∧ e' = 0 ∧ A.rd l = some (x, r)) ∨ (e' ≠ 0 ∧ (e = 0 → A.rd l = none))
section
variable {α β : Type} {A : Cod α} {B : Cod β} {l q r : List Nat} {e e1 e2 : Int} {a : α} {b : β}
theorem Rb.seq (h : Rb A l e a q e1) (h2 : Rb B q e1 b r e2) : Rb (A.seq B) l e (a, b) r e2 := by
  rcases h with ⟨h0, h1, hd⟩ | ⟨h1, hd⟩
  · rcases h2 with ⟨_, g1, gd⟩ | ⟨g1, gd⟩
    · exact .inl ⟨h0, g1, seq_yes hd gd⟩
    · exact .inr ⟨g1, fun _ => seq_no2 hd (gd h1)⟩
  · rcases h2 with ⟨g0, _, _⟩ | ⟨g1, _⟩
    · exact absurd g0 h1
    · exact .inr ⟨g1, fun h0 => seq_no1 (hd h0)⟩
theorem Rb.sel {B : α → Cod β} (h : Rb A l e a q e1) (h2 : Rb (B a) q e1 b r e2) : Rb (A.sel B) l e (a, b) r e2 := by
  rcases h with ⟨h0, h1, hd⟩ | ⟨h1, hd⟩
  · rcases h2 with ⟨_, g1, gd⟩ | ⟨g1, gd⟩
    · exact .inl ⟨h0, g1, sel_yes hd gd⟩
    · exact .inr ⟨g1, fun _ => sel_no2 hd (gd h1)⟩
  · rcases h2 with ⟨g0, _, _⟩ | ⟨g1, _⟩
    · exact absurd g0 h1
    · exact .inr ⟨g1, fun h0 => sel_no1 (hd h0)⟩
theorem Rb.as {f : α → β} {g : β → α} {hf : ∀ b, f (g b) = b} {hg : ∀ a, g (f a) = a} (h : Rb A l e a r e1) : Rb (A.as f g hf hg) l e (f a) r e1 := by
  rcases h with ⟨h0, h1, hd⟩ | ⟨h1, hd⟩
  · exact .inl ⟨h0, h1, as_yes hd⟩
  · exact .inr ⟨h1, fun h0 => as_no (hd h0)⟩
theorem Rb.emb {f : α → β} {g : β → α} {hg : ∀ a, A.ok a → g (f a) = a} (h : Rb A l e a r e1) : Rb (A.emb f g hg) l e (f a) r e1 := by
  rcases h with ⟨h0, h1, hd⟩ | ⟨h1, hd⟩
  · exact .inl ⟨h0, h1, emb_yes hd⟩
  · exact .inr ⟨h1, fun h0 => emb_no (hd h0)⟩
theorem Rb.one (x : α) (h : e = e1) (hr : q = r) : Rb (Cod.one x) q e x r e1 := by
  subst h hr
  by_cases h0 : e = 0
  · exact .inl ⟨h0, h0, rfl⟩
  · exact .inr ⟨h0, fun h => absurd h h0⟩
theorem Rb.non (h : e1 ≠ 0) : Rb (Cod.non : Cod α) q e a r e1 := .inr ⟨h, fun _ => rfl⟩
end
theorem keep_ne {e x : Int} (hx : x ≠ 0) : Pk.keep e x ≠ 0 := by
  unfold Pk.keep
  by_cases h0 : e = 0
  · rw [if_pos h0]; exact hx
  · rw [if_neg h0]; exact h0
theorem intOut_rb {l : List Nat} {e : Int} : Rb cInt l e (Pk.intOut l e).1 (Pk.intOut l e).2.1 (Pk.intOut l e).2.2 := by
  unfold Pk.intOut
  cases hd : Pk.rdInt l with
  | some p =>
    obtain ⟨n, r⟩ := p
    by_cases h0 : e = 0
    · exact .inl ⟨h0, h0, hd⟩
    · exact .inr ⟨h0, fun h => absurd h h0⟩
  | none =>
    exact .inr ⟨keep_ne (e := e) (x := 3) (by decide), fun _ => hd⟩
theorem fltOut_rb {l : List Nat} {e : Int} : Rb cFlt l e (Pk.fltOut l e).1 (Pk.fltOut l e).2.1 (Pk.fltOut l e).2.2 := by
  unfold Pk.fltOut
  cases hd : Pk.rdFlt l with
  | some p =>
    obtain ⟨n, r⟩ := p
    by_cases h0 : e = 0
    · exact .inl ⟨h0, h0, hd⟩
    · exact .inr ⟨h0, fun h => absurd h h0⟩
  | none =>
    exact .inr ⟨keep_ne (e := e) (x := 3) (by decide), fun _ => hd⟩
theorem textOut_rb {l : List Nat} {e : Int} : Rb cText l e (Pk.textOut l e).1 (Pk.textOut l e).2.1 (Pk.textOut l e).2.2 := by
  have e1 : cText.rd l = rdT l := rfl
  unfold Pk.textOut
  cases hd : Pk.rdText l with
  | ok p =>
    obtain ⟨n, r⟩ := p
    by_cases h0 : e = 0
    · exact .inl ⟨h0, h0, by rw [e1]; unfold rdT; rw [hd]⟩
    · exact .inr ⟨h0, fun h => absurd h h0⟩
  | error x =>
    have hx : x ≠ 0 := by
      unfold Pk.rdText at hd
      split at hd
      · injection hd with hd; omega
      · split at hd
        · injection hd with hd; omega
        · split at hd
          · injection hd with hd; omega
          · cases hd
    exact .inr ⟨keep_ne (e := e) (x := x) hx, fun _ => by rw [e1]; unfold rdT; rw [hd]⟩
theorem key_rb {l r : List Nat} {e e' : Int} {t : List Nat} (h : Rb cText l e t r e') : Rb cKey l e (lb t) r e' := Rb.emb (A := cText) (hg := fun _ h => bl_lb h.2) h
/-- a value that is read -/
theorem rdVR_rb {l : List Nat} {e : Int} : Rb cVal l e (rdVR l e).1 (rdVR l e).2.1 (rdVR l e).2.2 := by
  have hi := intOut_rb (l := l) (e := e)
  have key : ∀ (p : Nat × ByteArray) (r : List Nat) (e2 : Int), Rb (valPart (Pk.intOut l e).1) (Pk.intOut l e).2.1 (Pk.intOut l e).2.2 p r e2 → Rb cVal l e ⟨(Pk.intOut l e).1, p.1, p.2⟩ r e2 := fun p r e2 h => Rb.as (hi.sel h)
  unfold rdVR
  by_cases k0 : (Pk.intOut l e).1 = 0
  · rw [if_pos k0]
    refine key (0, ⟨#[]⟩) _ _ ?_
    rw [k0]
    exact Rb.one _ rfl rfl
  · rw [if_neg k0]
    by_cases k1 : (Pk.intOut l e).1 = 1
    · rw [if_pos (.inl k1)]
      unfold rdV
      rw [if_pos k1]
      refine key (_, ⟨#[]⟩) _ _ ?_
      rw [k1]
      exact Rb.emb (A := cFlt) (f := fun x => (x, (⟨#[]⟩ : ByteArray))) (g := Prod.fst) (hg := fun _ _ => rfl) fltOut_rb
    · by_cases k2 : (Pk.intOut l e).1 = 2
      · rw [if_pos (.inr k2)]
        unfold rdV
        rw [if_neg k1, if_pos k2]
        refine key (0, _) _ _ ?_
        rw [k2]
        exact Rb.emb (A := cKey) (f := fun t => ((0 : Nat), t)) (g := Prod.snd) (hg := fun _ _ => rfl) (key_rb textOut_rb)
      · rw [if_neg (fun h => h.elim k1 k2)]
        refine key (0, ⟨#[]⟩) _ _ ?_
        exact .inr ⟨keep_ne (by decide), fun _ => valPart_far _ (by omega) _⟩
/-- a reader, and the block of a result -/
structure Rv1 (w : World) (br b : Nat) (a : Option Addr) (cap : Nat) (F l : List Nat) (e : Int) (gr : Nat) (R : Obj) (W : World) : Prop where
  rr : RR W br b a cap F l e
  kept : Kept (Only br) w W
  lbr : br < w.heap.size
  lb : F ≠ [] → b < w.heap.size
  box : W.heap[gr]? = some R
  lo : w.heap.size ≤ gr
/-- a reader, the block of a result, and another one -/
structure Rv2 (w : World) (br b : Nat) (a : Option Addr) (cap : Nat) (F l : List Nat) (e : Int) (gr : Nat) (R : Obj) (gx : Nat) (X : Obj) (W : World) : Prop extends Rv1 w br b a cap F l e gr R W where
  xbox : W.heap[gx]? = some X
  xlo : w.heap.size ≤ gx
  ne : gx ≠ gr
section
variable {w W W' : World} {br b cap gr gx : Nat} {a : Option Addr} {F l l' : List Nat} {e e' : Int} {R X R' X' : Obj}
theorem Rv1.start (h : RR w br b a cap F l e) (R : Obj) : Rv1 w br b a cap F l e w.heap.size R (w.alloc R) :=
  ⟨h.kept ((Kept.refl Mem.None w).alloc R) (fun h => h) (fun _ h => h), (Kept.refl _ _).alloc _, h.lt1, h.lt2, alloc_here _ rfl, Nat.le_refl _⟩
theorem Rv1.call (h : Rv1 w br b a cap F l e gr R W) (hr : RR W' br b a cap F l' e') (hk : Kept (Only br) W W') : Rv1 w br b a cap F l' e' gr R W' :=
  ⟨hr, h.kept.trans hk, h.lbr, h.lb, keptO hk h.box (by have := h.lo; have := h.lbr; omega), h.lo⟩
theorem RR.els {g : Nat} (h : RR W br b a cap F l e) (x : Bh.Else g W W') (h1 : br ≠ g) (h2 : F ≠ [] → b ≠ g) : RR W' br b a cap F l e := h.kept (else_kept x) h1 h2
theorem Rv1.els {g : Nat} (h : Rv1 w br b a cap F l e gr R W) (hg : w.heap.size ≤ g) (hx : W'.heap[gr]? = some R') (x : Bh.Else g W W') : Rv1 w br b a cap F l e gr R' W' :=
  ⟨RR.els h.rr x (by have := h.lbr; omega) (fun hr => by have := h.lb hr; omega), h.kept.trans' (else_kept x) (fun k hk => .inr (by cases hk; exact hg)), h.lbr, h.lb, hx, h.lo⟩
theorem Rv1.set (h : Rv1 w br b a cap F l e gr R W) (hx : W'.heap[gr]? = some R') (x : Bh.Else gr W W') : Rv1 w br b a cap F l e gr R' W' := h.els h.lo hx x
theorem Rv1.more (h : Rv1 w br b a cap F l e gr R W) (X : Obj) : Rv2 w br b a cap F l e gr R W.heap.size X (W.alloc X) :=
  { rr := h.rr.kept ((Kept.refl Mem.None W).alloc X) (fun h => h) (fun _ h => h), kept := h.kept.alloc _, lbr := h.lbr, lb := h.lb, box := old_alloc _ h.box, lo := h.lo, xbox := alloc_here _ rfl, xlo := h.kept.size, ne := by have := heap_lt h.box; omega }
theorem Rv2.callx (h : Rv2 w br b a cap F l e gr R gx X W) (hr : RR W' br b a cap F l' e') (hk : Kept (Only br) W W') : Rv2 w br b a cap F l' e' gr R gx X W' :=
  { h.toRv1.call hr hk with xbox := keptO hk h.xbox (by have := h.xlo; have := h.lbr; omega), xlo := h.xlo, ne := h.ne }
theorem Rv2.setX (h : Rv2 w br b a cap F l e gr R gx X W) (hx : W'.heap[gx]? = some X') (x : Bh.Else gx W W') : Rv2 w br b a cap F l e gr R gx X' W' :=
  { h.toRv1.els h.xlo ((x.block gr (fun e => h.ne e.symm)).trans h.box) x with xbox := hx, xlo := h.xlo, ne := h.ne }
theorem Rv2.setR (h : Rv2 w br b a cap F l e gr R gx X W) (hx : W'.heap[gr]? = some R') (x : Bh.Else gr W W') : Rv2 w br b a cap F l e gr R' gx X W' :=
  { h.toRv1.els h.lo hx x with xbox := (x.block gx h.ne).trans h.xbox, xlo := h.xlo, ne := h.ne }
end
/-- what a read of a struct leaves -/
def Rtold {α : Type} (A : Cod α) (val : α → Value) (br b : Nat) (a : Option Addr) (cap : Nat) (F l : List Nat) (e : Int) (w : World) (x : Ending) (w' : World) : Prop :=
  ∃ y r e', x = .returned (val y) ∧ RR w' br b a cap F r e' ∧ Kept (Only br) w w' ∧ Rb A l e y r e'
theorem Int_rt {w : World} {br b : Nat} {a : Option Addr} {cap : Nat} {F l : List Nat} {e : Int} (h : RR w br b a cap F l e) (hF : F.length ≤ 100000) :
    Calls Tryz.prog 27 #[.pointer (some ⟨br, 0, none⟩)] w (Rtold cInt (fun n => .int .i64 n) br b a cap F l e w) :=
  (refInt_any h hF).mono fun _ _ hx => ⟨_, _, _, hx.1, hx.2.1, hx.2.2, intOut_rb⟩
theorem Val_rt {w : World} {br b : Nat} {a : Option Addr} {cap : Nat} {F l : List Nat} {e : Int} (h : RR w br b a cap F l e) (hF : F.length ≤ 100000) :
    Calls Tryz.prog 89 #[.pointer (some ⟨br, 0, none⟩)] w (Rtold cVal V.val br b a cap F l e w) :=
  (refReadValue_any h hF).mono fun _ _ hx => ⟨_, _, _, hx.1, hx.2.1, hx.2.2, rdVR_rb⟩
set_option maxHeartbeats 3200000 in
set_option maxRecDepth 100000 in
theorem Conf_rt {w : World} {br b : Nat} {a : Option Addr} {cap : Nat} {F l : List Nat} {e : Int} (h : RR w br b a cap F l e) (hF : F.length ≤ 100000) :
    Calls Tryz.prog 59 #[.pointer (some ⟨br, 0, none⟩)] w (Rtold cConf C.val br b a cap F l e w) := by
  have HF := Lib.hid (Rv1.start h (Lg.C.obj C.zero))
  clear h
  go_enter Tryz.func59, Tryz.ntmps59
  go_wp2_with fail
  refine (Int_rt HF.out.rr hF).mono ?_
  rintro x w1 ⟨n1, r1, e1, rfl, h1, k1, b1⟩
  have HF := Lib.hid (HF.out.call h1 k1)
  have HR1 := Lib.hid b1
  clear h1 k1 b1
  go_wp2_with fail
  refine (Int_rt HF.out.rr hF).mono ?_
  rintro x w2 ⟨n2, r2, e2, rfl, h1, k1, b1⟩
  have HF := Lib.hid (HF.out.call h1 k1)
  have HR2 := Lib.hid b1
  clear h1 k1 b1
  go_wp2_with fail
  refine (Int_rt HF.out.rr hF).mono ?_
  rintro x w3 ⟨n3, r3, e3, rfl, h1, k1, b1⟩
  have HF := Lib.hid (HF.out.call h1 k1)
  have HR3 := Lib.hid b1
  clear h1 k1 b1
  go_wp2_with fail
  refine (Int_rt HF.out.rr hF).mono ?_
  rintro x w4 ⟨n4, r4, e4, rfl, h1, k1, b1⟩
  have HF := Lib.hid (HF.out.call h1 k1)
  have HR4 := Lib.hid b1
  clear h1 k1 b1
  go_wp2_with (apply store_g 4 HF.out.box; rfl; rfl; rfl; rfl; rfl; kernel_rfl; rfl; rfl; intro wz hz he; have HF := Lib.hid (HF.out.set hz he); clear hz he)
  (try simp only [Exit.inBlock, Exit.then])
  refine bodyPost_ret (v := C.val ⟨n1, n2, n3, n4⟩) (Bh.results_cell_row1 rfl _ _ _ _ _ _ _ rfl HF.out.box Tryz.underlying24 rfl (by kernel_rfl)) rfl ?_
  exact ⟨_, _, _, rfl, HF.out.rr, HF.out.kept, Rb.as (HR1.out.seq (HR2.out.seq (HR3.out.seq HR4.out)))⟩
end Go.Proofs.YtaengjgmchpabaaGreat.Wr
end
section
/- The landed writer: upTo, isNought, isCanon, conf. -/
namespace Go.Proofs.YtaengjgmchpabaaGreat.Wr
open Go Go.RowKit Vl Kv Ss Cn Mem Lg Nm
attribute [local go_sem] Nm.run_bits Nm.run_frombits run_store_float
variable {w0 wr : World} {bw : Nat} {o : Option (List Nat)} {F : List (Nat × Obj)}
theorem nat_beq (a b : Nat) : ((a : Int) == (b : Int)) = (a == b) := by rw [Bool.eq_iff_iff]; simp; omega
theorem nat_beq0 (a : Nat) : ((a : Int) == 0) = (a == 0) := nat_beq a 0
theorem isNought_any (a : Nat) (w : World) : Calls Tryz.prog 91 #[.float .f64 a] w fun e w' => e = .returned (.bool (a == 0)) ∧ w = w' := by
  go_enter Tryz.func91, Tryz.ntmps91
  go_wp2
  go_ret
  exact ⟨ret_bool (nat_beq0 a), rfl⟩
theorem isCanon_any (a : Nat) (w : World) : Calls Tryz.prog 101 #[.float .f64 a] w fun e w' => e = .returned (.bool (Nm.canon a == a)) ∧ w = w' := by
  go_enter Tryz.func101, Tryz.ntmps101
  go_wp2_with (first | (go_at_call 109; refine (Canon_any _ _).mono ?_; rintro e w' ⟨rfl, rfl⟩))
  go_ret
  exact ⟨ret_bool (nat_beq _ a), rfl⟩
/-- what upTo leaves -/
def upR (o : Option (List Nat)) (n most : Int) : Option (Option (List Nat)) := if 0 ≤ n ∧ n ≤ most then some (app o (Pk.intB n)) else none
theorem upR_yes {o : Option (List Nat)} {n most : Int} (h1 : 0 ≤ n) (h2 : n ≤ most) : upR o n most = some (app o (Pk.intB n)) := if_pos ⟨h1, h2⟩
theorem upR_no {o : Option (List Nat)} {n most : Int} (h : ¬ (0 ≤ n ∧ n ≤ most)) : upR o n most = none := if_neg h
theorem upTo_any (h : Yw w0 wr bw o F) {n : Int} (most : Int) (hn : In64 n) (hl : lenO o ≤ 10000000000) :
    Calls Tryz.prog 40 #[.pointer (some ⟨bw, 0, none⟩), .int .i64 n, .int .i64 most] wr (Wrote w0 bw F (upR o n most)) := by
  have H := Lib.hid h
  have HI := Lib.hid (yInt h hn hl)
  clear h hn
  by_cases h1 : 0 ≤ n
  · have d1 : decide ((0 : Int) ≤ n) = true := decide_eq_true h1
    by_cases h2 : n ≤ most
    · have d2 : decide (n ≤ most) = true := decide_eq_true h2
      have HR := Lib.hid (upR_yes (o := o) h1 h2)
      clear h1 h2
      go_enter Tryz.func40, Tryz.ntmps40
      go_wp2_with (first | (go_at_call 48; refine (must_ok _).mono ?_; rintro e w' ⟨rfl, rfl⟩) | (go_at_call 35; refine HI.out.mono ?_; rintro e w' ⟨rfl, hx⟩; (have HX := Lib.hid hx); clear hx))
      go_end0
      exact Wrote.ok HX.out HR.out
    · have d2 : decide (n ≤ most) = false := decide_eq_false h2
      have HR := Lib.hid (upR_no (o := o) (fun e : 0 ≤ n ∧ n ≤ most => h2 e.2))
      clear h1 h2
      go_enter Tryz.func40, Tryz.ntmps40
      go_wp2_with (first | (go_at_call 48; refine (must_not _).mono ?_; rintro e w' ⟨rfl, rfl⟩))
      exact ⟨rfl, Wrote.no H.out HR.out⟩
  · have d1 : decide ((0 : Int) ≤ n) = false := decide_eq_false h1
    have HR := Lib.hid (upR_no (o := o) (fun e : 0 ≤ n ∧ n ≤ most => h1 e.1))
    clear h1
    go_enter Tryz.func40, Tryz.ntmps40
    go_wp2_with (first | (go_at_call 48; refine (must_not _).mono ?_; rintro e w' ⟨rfl, rfl⟩))
    exact ⟨rfl, Wrote.no H.out HR.out⟩
theorem cConf_enc (c : C) : cConf.enc c = Pk.intB c.f ++ (Pk.intB c.w ++ (Pk.intB c.l ++ Pk.intB c.x)) := rfl
set_option maxHeartbeats 1600000 in
set_option maxRecDepth 100000 in
theorem conf_any (h : Yw w0 wr bw o F) {c : C} (hc : FitC c) (hl : lenO o ≤ 9000000000) :
    Calls Tryz.prog 38 #[.pointer (some ⟨bw, 0, none⟩), c.val] wr (Wrote w0 bw F (some (app o (cConf.enc c)))) := by
  have HX := Lib.hid (h.more (Lg.C.obj c))
  have HE := Lib.hid (cConf_enc c)
  have HC := Lib.hid hc
  clear h hc
  obtain ⟨f, v, l, x⟩ := c
  unfold Lg.C.obj at HX
  dsimp only at HX HE
  obtain ⟨c0, c1, c2, c3⟩ := Bh.cells4 HX.out.head
  go_enter Tryz.func38, Tryz.ntmps38
  go_wp2_with fail
  go_region_with (go_at_call 35; refine Calls.mono (yInt (HX.out.on ((Beh.start _).drewN 1)) HC.out.f (by omega)) ?_; rintro e w' ⟨rfl, hx⟩; (have HX := Lib.hid hx); clear hx c0 c1 c2 c3)
  obtain ⟨c0, c1, c2, c3⟩ := Bh.cells4 HX.out.head
  have hl2 := lenO_int o f
  go_wp2_with fail
  go_region_with (go_at_call 35; refine Calls.mono (yInt (HX.out.on ((Beh.start _).drewN 1)) HC.out.w (by omega)) ?_; rintro e w' ⟨rfl, hx⟩; (have HX := Lib.hid hx); clear hx c0 c1 c2 c3)
  obtain ⟨c0, c1, c2, c3⟩ := Bh.cells4 HX.out.head
  have hl3 := lenO_int (app o (Pk.intB f)) v
  go_wp2_with fail
  go_region_with (go_at_call 35; refine Calls.mono (yInt (HX.out.on ((Beh.start _).drewN 1)) HC.out.l (by omega)) ?_; rintro e w' ⟨rfl, hx⟩; (have HX := Lib.hid hx); clear hx c0 c1 c2 c3)
  obtain ⟨c0, c1, c2, c3⟩ := Bh.cells4 HX.out.head
  have hl4 := lenO_int (app (app o (Pk.intB f)) (Pk.intB v)) l
  go_wp2_with fail
  go_region_with (go_at_call 35; refine Calls.mono (yInt (HX.out.on ((Beh.start _).drewN 1)) HC.out.x (by omega)) ?_; rintro e w' ⟨rfl, hx⟩; (have HX := Lib.hid hx); clear hx c0 c1 c2 c3)
  obtain ⟨c0, c1, c2, c3⟩ := Bh.cells4 HX.out.head
  go_wp2_with fail
  go_end0
  have hx := HX.out.tail
  simp only [app_app] at hx
  exact Wrote.ok hx (by rw [HE.out]; simp only [List.append_assoc])
end Go.Proofs.YtaengjgmchpabaaGreat.Wr
end
