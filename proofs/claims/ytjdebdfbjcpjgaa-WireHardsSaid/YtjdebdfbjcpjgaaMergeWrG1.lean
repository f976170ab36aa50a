import Derived.Test.YtjdebdfbjcpjgaaMergeWrG0
import Derived.Test.YtjdebdfbjcpjgaaWireR4
import Derived.Test.YtjdebdfbjcpjgaaWireR6
import Derived.Test.YtjdebdfbjcpjgaaMergeWrF2
import Derived.Test.YtjdebdfbjcpjgaaWireTell
import Derived.Test.YtjdebdfbjcpjgaaWireKE
import Derived.Test.YtjdebdfbjcpjgaaWireCutP
import Derived.Test.YtjdebdfbjcpjgaaWireHv
import Derived.Test.YtjdebdfbjcpjgaaWireIn
section
/- The reference's readers: what a read makes of a code; a reader beside blocks of the call's own; a configuration. -/
namespace Go.Proofs.Ytjdebdfbjcpjgaa.Wr
open Go Go.RowKit Vl Kv Ss Cn Mem Lg Nm
attribute [local go_sem] Nm.run_bits Nm.run_frombits run_store_float
/-- what a read of the reference's makes of a code: it goes on beside an error -/
def Rb {α : Type} (A : Cod α) (l : List Nat) (e : Int) (x : α) (r : List Nat) (e' : Int) : Prop :=
  (e = 0 ∧ e' = 0 ∧ A.rd l = some (x, r)) ∨ (e' ≠ 0 ∧ (e = 0 → A.rd l = none))
section
variable {α β : Type} {A : Cod α} {B : Cod β} {l q r : List Nat} {e e1 e2 : Int} {a : α} {b : β}
theorem Rb.seq (h : Rb A l e a q e1) (h2 : Rb B q e1 b r e2) : Rb (A.seq B) l e (a, b) r e2 := by
  rcases h with ⟨h0, h1, hd⟩ | ⟨h1, hd⟩
  · rcases h2 with ⟨_, g1, gd⟩ | ⟨g1, gd⟩
    · exact .inl ⟨h0, g1, seq_yes hd gd⟩
    · exact .inr ⟨g1, fun _ => seq_no2 hd (gd h1)⟩
  · rcases h2 with ⟨g0, _, _⟩ | ⟨g1, _⟩
    · exact absurd g0 h1
    · exact .inr ⟨g1, fun h0 => seq_no1 (hd h0)⟩
theorem Rb.sel {B : α → Cod β} (h : Rb A l e a q e1) (h2 : Rb (B a) q e1 b r e2) : Rb (A.sel B) l e (a, b) r e2 := by
  rcases h with ⟨h0, h1, hd⟩ | ⟨h1, hd⟩
  · rcases h2 with ⟨_, g1, gd⟩ | ⟨g1, gd⟩
    · exact .inl ⟨h0, g1, sel_yes hd gd⟩
    · exact .inr ⟨g1, fun _ => sel_no2 hd (gd h1)⟩
  · rcases h2 with ⟨g0, _, _⟩ | ⟨g1, _⟩
    · exact absurd g0 h1
    · exact .inr ⟨g1, fun h0 => sel_no1 (hd h0)⟩
theorem Rb.as {f : α → β} {g : β → α} {hf : ∀ b, f (g b) = b} {hg : ∀ a, g (f a) = a} (h : Rb A l e a r e1) : Rb (A.as f g hf hg) l e (f a) r e1 := by
  rcases h with ⟨h0, h1, hd⟩ | ⟨h1, hd⟩
  · exact .inl ⟨h0, h1, as_yes hd⟩
  · exact .inr ⟨h1, fun h0 => as_no (hd h0)⟩
theorem Rb.emb {f : α → β} {g : β → α} {hg : ∀ a, A.ok a → g (f a) = a} (h : Rb A l e a r e1) : Rb (A.emb f g hg) l e (f a) r e1 := by
  rcases h with ⟨h0, h1, hd⟩ | ⟨h1, hd⟩
  · exact .inl ⟨h0, h1, emb_yes hd⟩
  · exact .inr ⟨h1, fun h0 => emb_no (hd h0)⟩
theorem Rb.one (x : α) (h : e = e1) (hr : q = r) : Rb (Cod.one x) q e x r e1 := by
  subst h hr
  by_cases h0 : e = 0
  · exact .inl ⟨h0, h0, rfl⟩
  · exact .inr ⟨h0, fun h => absurd h h0⟩
theorem Rb.non (h : e1 ≠ 0) : Rb (Cod.non : Cod α) q e a r e1 := .inr ⟨h, fun _ => rfl⟩
end
theorem keep_ne {e x : Int} (hx : x ≠ 0) : Pk.keep e x ≠ 0 := by
  unfold Pk.keep
  by_cases h0 : e = 0
  · rw [if_pos h0]; exact hx
  · rw [if_neg h0]; exact h0
theorem intOut_rb {l : List Nat} {e : Int} : Rb cInt l e (Pk.intOut l e).1 (Pk.intOut l e).2.1 (Pk.intOut l e).2.2 := by
  unfold Pk.intOut
  cases hd : Pk.rdInt l with
  | some p =>
    obtain ⟨n, r⟩ := p
    by_cases h0 : e = 0
    · exact .inl ⟨h0, h0, hd⟩
    · exact .inr ⟨h0, fun h => absurd h h0⟩
  | none =>
    exact .inr ⟨keep_ne (e := e) (x := 3) (by decide), fun _ => hd⟩
theorem fltOut_rb {l : List Nat} {e : Int} : Rb cFlt l e (Pk.fltOut l e).1 (Pk.fltOut l e).2.1 (Pk.fltOut l e).2.2 := by
  unfold Pk.fltOut
  cases hd : Pk.rdFlt l with
  | some p =>
    obtain ⟨n, r⟩ := p
    by_cases h0 : e = 0
    · exact .inl ⟨h0, h0, hd⟩
    · exact .inr ⟨h0, fun h => absurd h h0⟩
  | none =>
    exact .inr ⟨keep_ne (e := e) (x := 3) (by decide), fun _ => hd⟩
theorem textOut_rb {l : List Nat} {e : Int} : Rb cText l e (Pk.textOut l e).1 (Pk.textOut l e).2.1 (Pk.textOut l e).2.2 := by
  have e1 : cText.rd l = rdT l := rfl
  unfold Pk.textOut
  cases hd : Pk.rdText l with
  | ok p =>
    obtain ⟨n, r⟩ := p
    by_cases h0 : e = 0
    · exact .inl ⟨h0, h0, by rw [e1]; unfold rdT; rw [hd]⟩
    · exact .inr ⟨h0, fun h => absurd h h0⟩
  | error x =>
    have hx : x ≠ 0 := by
      unfold Pk.rdText at hd
      split at hd
      · injection hd with hd; omega
      · split at hd
        · injection hd with hd; omega
        · split at hd
          · injection hd with hd; omega
          · cases hd
    exact .inr ⟨keep_ne (e := e) (x := x) hx, fun _ => by rw [e1]; unfold rdT; rw [hd]⟩
theorem key_rb {l r : List Nat} {e e' : Int} {t : List Nat} (h : Rb cText l e t r e') : Rb cKey l e (lb t) r e' := Rb.emb (A := cText) (hg := fun _ h => bl_lb h.2) h
/-- a value that is read -/
theorem rdVR_rb {l : List Nat} {e : Int} : Rb cVal l e (rdVR l e).1 (rdVR l e).2.1 (rdVR l e).2.2 := by
  have hi := intOut_rb (l := l) (e := e)
  have key : ∀ (p : Nat × ByteArray) (r : List Nat) (e2 : Int), Rb (valPart (Pk.intOut l e).1) (Pk.intOut l e).2.1 (Pk.intOut l e).2.2 p r e2 → Rb cVal l e ⟨(Pk.intOut l e).1, p.1, p.2⟩ r e2 := fun p r e2 h => Rb.as (hi.sel h)
  unfold rdVR
  by_cases k0 : (Pk.intOut l e).1 = 0
  · rw [if_pos k0]
    refine key (0, ⟨#[]⟩) _ _ ?_
    rw [k0]
    exact Rb.one _ rfl rfl
  · rw [if_neg k0]
    by_cases k1 : (Pk.intOut l e).1 = 1
    · rw [if_pos (.inl k1)]
      unfold rdV
      rw [if_pos k1]
      refine key (_, ⟨#[]⟩) _ _ ?_
      rw [k1]
      exact Rb.emb (A := cFlt) (f := fun x => (x, (⟨#[]⟩ : ByteArray))) (g := Prod.fst) (hg := fun _ _ => rfl) fltOut_rb
    · by_cases k2 : (Pk.intOut l e).1 = 2
      · rw [if_pos (.inr k2)]
        unfold rdV
        rw [if_neg k1, if_pos k2]
        refine key (0, _) _ _ ?_
        rw [k2]
        exact Rb.emb (A := cKey) (f := fun t => ((0 : Nat), t)) (g := Prod.snd) (hg := fun _ _ => rfl) (key_rb textOut_rb)
      · rw [if_neg (fun h => h.elim k1 k2)]
        refine key (0, ⟨#[]⟩) _ _ ?_
        exact .inr ⟨keep_ne (by decide), fun _ => valPart_far _ (by omega) _⟩
/-- a reader, and the block of a result -/
structure Rv1 (w : World) (br b : Nat) (a : Option Addr) (cap : Nat) (F l : List Nat) (e : Int) (gr : Nat) (R : Obj) (W : World) : Prop where
  rr : RR W br b a cap F l e
  kept : Kept (Only br) w W
  lbr : br < w.heap.size
  lb : F ≠ [] → b < w.heap.size
  box : W.heap[gr]? = some R
  lo : w.heap.size ≤ gr
/-- a reader, the block of a result, and another one -/
structure Rv2 (w : World) (br b : Nat) (a : Option Addr) (cap : Nat) (F l : List Nat) (e : Int) (gr : Nat) (R : Obj) (gx : Nat) (X : Obj) (W : World) : Prop extends Rv1 w br b a cap F l e gr R W where
  xbox : W.heap[gx]? = some X
  xlo : w.heap.size ≤ gx
  ne : gx ≠ gr
section
variable {w W W' : World} {br b cap gr gx : Nat} {a : Option Addr} {F l l' : List Nat} {e e' : Int} {R X R' X' : Obj}
theorem Rv1.start (h : RR w br b a cap F l e) (R : Obj) : Rv1 w br b a cap F l e w.heap.size R (w.alloc R) :=
  ⟨h.kept ((Kept.refl Mem.None w).alloc R) (fun h => h) (fun _ h => h), (Kept.refl _ _).alloc _, h.lt1, h.lt2, alloc_here _ rfl, Nat.le_refl _⟩
theorem Rv1.call (h : Rv1 w br b a cap F l e gr R W) (hr : RR W' br b a cap F l' e') (hk : Kept (Only br) W W') : Rv1 w br b a cap F l' e' gr R W' :=
  ⟨hr, h.kept.trans hk, h.lbr, h.lb, keptO hk h.box (by have := h.lo; have := h.lbr; omega), h.lo⟩
theorem RR.els {g : Nat} (h : RR W br b a cap F l e) (x : Bh.Else g W W') (h1 : br ≠ g) (h2 : F ≠ [] → b ≠ g) : RR W' br b a cap F l e := h.kept (else_kept x) h1 h2
theorem Rv1.els {g : Nat} (h : Rv1 w br b a cap F l e gr R W) (hg : w.heap.size ≤ g) (hx : W'.heap[gr]? = some R') (x : Bh.Else g W W') : Rv1 w br b a cap F l e gr R' W' :=
  ⟨RR.els h.rr x (by have := h.lbr; omega) (fun hr => by have := h.lb hr; omega), h.kept.trans' (else_kept x) (fun k hk => .inr (by cases hk; exact hg)), h.lbr, h.lb, hx, h.lo⟩
theorem Rv1.set (h : Rv1 w br b a cap F l e gr R W) (hx : W'.heap[gr]? = some R') (x : Bh.Else gr W W') : Rv1 w br b a cap F l e gr R' W' := h.els h.lo hx x
theorem Rv1.more (h : Rv1 w br b a cap F l e gr R W) (X : Obj) : Rv2 w br b a cap F l e gr R W.heap.size X (W.alloc X) :=
  { rr := h.rr.kept ((Kept.refl Mem.None W).alloc X) (fun h => h) (fun _ h => h), kept := h.kept.alloc _, lbr := h.lbr, lb := h.lb, box := old_alloc _ h.box, lo := h.lo, xbox := alloc_here _ rfl, xlo := h.kept.size, ne := by have := heap_lt h.box; omega }
theorem Rv2.callx (h : Rv2 w br b a cap F l e gr R gx X W) (hr : RR W' br b a cap F l' e') (hk : Kept (Only br) W W') : Rv2 w br b a cap F l' e' gr R gx X W' :=
  { h.toRv1.call hr hk with xbox := keptO hk h.xbox (by have := h.xlo; have := h.lbr; omega), xlo := h.xlo, ne := h.ne }
theorem Rv2.setX (h : Rv2 w br b a cap F l e gr R gx X W) (hx : W'.heap[gx]? = some X') (x : Bh.Else gx W W') : Rv2 w br b a cap F l e gr R gx X' W' :=
  { h.toRv1.els h.xlo ((x.block gr (fun e => h.ne e.symm)).trans h.box) x with xbox := hx, xlo := h.xlo, ne := h.ne }
theorem Rv2.setR (h : Rv2 w br b a cap F l e gr R gx X W) (hx : W'.heap[gr]? = some R') (x : Bh.Else gr W W') : Rv2 w br b a cap F l e gr R' gx X W' :=
  { h.toRv1.els h.lo hx x with xbox := (x.block gx h.ne).trans h.xbox, xlo := h.xlo, ne := h.ne }
end
/-- what a read of a struct leaves -/
def Rtold {α : Type} (A : Cod α) (val : α → Value) (br b : Nat) (a : Option Addr) (cap : Nat) (F l : List Nat) (e : Int) (w : World) (x : Ending) (w' : World) : Prop :=
  ∃ y r e', x = .returned (val y) ∧ RR w' br b a cap F r e' ∧ Kept (Only br) w w' ∧ Rb A l e y r e'
theorem Int_rt {w : World} {br b : Nat} {a : Option Addr} {cap : Nat} {F l : List Nat} {e : Int} (h : RR w br b a cap F l e) (hF : F.length ≤ 100000) :
    Calls Try.prog 52 #[.pointer (some ⟨br, 0, none⟩)] w (Rtold cInt (fun n => .int .i64 n) br b a cap F l e w) :=
  (refInt_any h hF).mono fun _ _ hx => ⟨_, _, _, hx.1, hx.2.1, hx.2.2, intOut_rb⟩
theorem Val_rt {w : World} {br b : Nat} {a : Option Addr} {cap : Nat} {F l : List Nat} {e : Int} (h : RR w br b a cap F l e) (hF : F.length ≤ 100000) :
    Calls Try.prog 83 #[.pointer (some ⟨br, 0, none⟩)] w (Rtold cVal V.val br b a cap F l e w) :=
  (refReadValue_any h hF).mono fun _ _ hx => ⟨_, _, _, hx.1, hx.2.1, hx.2.2, rdVR_rb⟩
set_option maxHeartbeats 3200000 in
set_option maxRecDepth 100000 in
theorem Conf_rt {w : World} {br b : Nat} {a : Option Addr} {cap : Nat} {F l : List Nat} {e : Int} (h : RR w br b a cap F l e) (hF : F.length ≤ 100000) :
    Calls Try.prog 53 #[.pointer (some ⟨br, 0, none⟩)] w (Rtold cConf C.val br b a cap F l e w) := by
  have HF := Lib.hid (Rv1.start h (Lg.C.obj C.zero))
  clear h
  go_enter Try.func53, Try.ntmps53
  go_wp2_with fail
  refine (Int_rt HF.out.rr hF).mono ?_
  rintro x w1 ⟨n1, r1, e1, rfl, h1, k1, b1⟩
  have HF := Lib.hid (HF.out.call h1 k1)
  have HR1 := Lib.hid b1
  clear h1 k1 b1
  go_wp2_with fail
  refine (Int_rt HF.out.rr hF).mono ?_
  rintro x w2 ⟨n2, r2, e2, rfl, h1, k1, b1⟩
  have HF := Lib.hid (HF.out.call h1 k1)
  have HR2 := Lib.hid b1
  clear h1 k1 b1
  go_wp2_with fail
  refine (Int_rt HF.out.rr hF).mono ?_
  rintro x w3 ⟨n3, r3, e3, rfl, h1, k1, b1⟩
  have HF := Lib.hid (HF.out.call h1 k1)
  have HR3 := Lib.hid b1
  clear h1 k1 b1
  go_wp2_with fail
  refine (Int_rt HF.out.rr hF).mono ?_
  rintro x w4 ⟨n4, r4, e4, rfl, h1, k1, b1⟩
  have HF := Lib.hid (HF.out.call h1 k1)
  have HR4 := Lib.hid b1
  clear h1 k1 b1
  go_wp2_with (apply store_g 4 HF.out.box; rfl; rfl; rfl; rfl; rfl; kernel_rfl; rfl; rfl; intro wz hz he; have HF := Lib.hid (HF.out.set hz he); clear hz he)
  (try simp only [Exit.inBlock, Exit.then])
  refine bodyPost_ret (v := C.val ⟨n1, n2, n3, n4⟩) (Bh.results_cell_row1 rfl _ _ _ _ _ _ _ rfl HF.out.box Try.underlying30 rfl (by kernel_rfl)) rfl ?_
  exact ⟨_, _, _, rfl, HF.out.rr, HF.out.kept, Rb.as (HR1.out.seq (HR2.out.seq (HR3.out.seq HR4.out)))⟩
end Go.Proofs.Ytjdebdfbjcpjgaa.Wr
end
section
/- The reference's readers: an entry. -/
namespace Go.Proofs.Ytjdebdfbjcpjgaa.Wr
open Go Go.RowKit Vl Kv Ss Cn Mem Lg Nm
attribute [local go_sem] Nm.run_bits Nm.run_frombits run_store_float
theorem ent_rb {l r1 r2 r : List Nat} {e e1 e2 e' n1 n2 : Int} {c : Cl} {f : C} (h1 : Rb cInt l e n1 r1 e1) (h2 : Rb cInt r1 e1 n2 r2 e2) (h3 : Rb (entPart n2) r2 e2 (c, f) r e') : Rb cEnt l e ⟨n1, n2, c, f⟩ r e' :=
  Rb.as (f := fun x : (Int × Int) × (Cl × C) => (⟨x.1.1, x.1.2, x.2.1, x.2.2⟩ : E)) (Rb.sel (B := fun x : Int × Int => entPart x.2) (h1.seq h2) h3)
set_option maxHeartbeats 6400000 in
set_option maxRecDepth 100000 in
theorem Ent_rt {w : World} {br b : Nat} {a : Option Addr} {cap : Nat} {F l : List Nat} {e : Int} (h : RR w br b a cap F l e) (hF : F.length ≤ 100000) :
    Calls Try.prog 39 #[.pointer (some ⟨br, 0, none⟩)] w (Rtold cEnt E.agg br b a cap F l e w) := by
  have HF := Lib.hid (Rv1.start h E.zero.obj)
  clear h
  go_enter Try.func39, Try.ntmps39
  go_wp2_with fail
  refine (Int_rt HF.out.rr hF).mono ?_
  rintro x w1 ⟨n1, r1, e1, rfl, h1, k1, b1⟩
  have HF := Lib.hid (HF.out.call h1 k1)
  have HR1 := Lib.hid b1
  clear h1 k1 b1
  go_wp2_with fail
  refine (Int_rt HF.out.rr hF).mono ?_
  rintro x w2 ⟨n2, r2, e2, rfl, h1, k1, b1⟩
  have HF := Lib.hid (HF.out.call h1 k1)
  have HR2 := Lib.hid b1
  clear h1 k1 b1
  have HX := Lib.hid (HF.out.more E.zero.obj)
  clear HF
  by_cases k0 : n2 = 0
  · subst k0
    go_wp2_with (first | (apply store_g 16 HX.out.xbox; rfl; rfl; rfl; rfl; rfl; kernel_rfl; rfl; rfl; intro wz hz he; have HX := Lib.hid (HX.out.setX hz he); clear hz he; obtain ⟨x0, x1, x2, x3, x4, x5, x6, x7, x8, x9, x10, x11, x12, x13, x14, x15⟩ := Lg.cells16 HX.out.xbox) | (apply load_g HX.out.xbox Try.underlying32; rfl; rfl; rfl; rfl; kernel_rfl) | (apply store_g 16 HX.out.box; rfl; rfl; rfl; rfl; rfl; kernel_rfl; rfl; rfl; intro wz hz he; have HX := Lib.hid (HX.out.setR hz he); clear hz he))
    (try simp only [Exit.inBlock, Exit.then])
    refine bodyPost_ret (v := E.agg ⟨n1, 0, Cl.zero, C.zero⟩) (Bh.results_cell_row1 rfl _ _ _ _ _ _ _ rfl HX.out.box Try.underlying32 rfl (by kernel_rfl)) rfl ?_
    exact ⟨_, _, _, rfl, HX.out.rr, HX.out.kept, ent_rb HR1.out HR2.out (show Rb (entPart 0) r2 e2 (Cl.zero, C.zero) r2 e2 from Rb.one _ rfl rfl)⟩
  have d0 := int_nbeq k0
  by_cases k1 : n2 = 1
  · subst k1
    clear k0 d0
    go_wp2_with (first | (apply store_g 16 HX.out.xbox; rfl; rfl; rfl; rfl; rfl; kernel_rfl; rfl; rfl; intro wz hz he; have HX := Lib.hid (HX.out.setX hz he); clear hz he; obtain ⟨x0, x1, x2, x3, x4, x5, x6, x7, x8, x9, x10, x11, x12, x13, x14, x15⟩ := Lg.cells16 HX.out.xbox))
    refine (Int_rt HX.out.rr hF).mono ?_
    rintro x w3 ⟨n3, r3, e3, rfl, h1, k1, b1⟩
    have HX := Lib.hid (HX.out.callx h1 k1)
    have HR3 := Lib.hid b1
    clear h1 k1 b1
    clear x0 x1 x2 x3 x4 x5 x6 x7 x8 x9 x10 x11 x12 x13 x14 x15
    go_wp2_with (first | (apply store_g1 HX.out.xbox; rfl; rfl; rfl; rfl; rfl; rfl; kernel_rfl; rfl; intro wz hz he; (try simp only [List.setIfInBounds_toArray, List.set_cons_succ, List.set_cons_zero] at hz); have HX := Lib.hid (HX.out.setX hz he); clear hz he))
    refine (Int_rt HX.out.rr hF).mono ?_
    rintro x w4 ⟨n4, r4, e4, rfl, h1, k1, b1⟩
    have HX := Lib.hid (HX.out.callx h1 k1)
    have HR4 := Lib.hid b1
    clear h1 k1 b1
    go_wp2_with (first | (apply store_g1 HX.out.xbox; rfl; rfl; rfl; rfl; rfl; rfl; kernel_rfl; rfl; intro wz hz he; (try simp only [List.setIfInBounds_toArray, List.set_cons_succ, List.set_cons_zero] at hz); have HX := Lib.hid (HX.out.setX hz he); clear hz he))
    refine (Int_rt HX.out.rr hF).mono ?_
    rintro x w5 ⟨n5, r5, e5, rfl, h1, k1, b1⟩
    have HX := Lib.hid (HX.out.callx h1 k1)
    have HR5 := Lib.hid b1
    clear h1 k1 b1
    go_wp2_with (first | (apply store_g1 HX.out.xbox; rfl; rfl; rfl; rfl; rfl; rfl; kernel_rfl; rfl; intro wz hz he; (try simp only [List.setIfInBounds_toArray, List.set_cons_succ, List.set_cons_zero] at hz); have HX := Lib.hid (HX.out.setX hz he); clear hz he))
    have HT := Lib.hid (refText_any HX.out.rr hF)
    unfold RTextTold at HT
    have HRT6 := Lib.hid (textOut_rb (l := r5) (e := e5))
    generalize Pk.textOut r5 e5 = o at *
    obtain ⟨n6, r6, e6⟩ := o
    dsimp only at HT HRT6
    refine HT.out.mono ?_
    rintro x w6 ⟨bt, at_, ct, rfl, ho, _, h1, k1⟩
    have kc := run_lb w6 bt at_ ct _ n6 rfl ho
    have HX := Lib.hid (HX.out.callx h1 k1)
    clear h1 k1 ho HT
    go_wp2_with (first | (apply store_g1 HX.out.xbox; rfl; rfl; rfl; rfl; rfl; rfl; kernel_rfl; rfl; intro wz hz he; (try simp only [List.setIfInBounds_toArray, List.set_cons_succ, List.set_cons_zero] at hz); have HX := Lib.hid (HX.out.setX hz he); clear hz he))
    refine (Val_rt HX.out.rr hF).mono ?_
    rintro x w7 ⟨n7, r7, e7, rfl, h1, k1, b1⟩
    have HX := Lib.hid (HX.out.callx h1 k1)
    have HR7 := Lib.hid b1
    clear h1 k1 b1
    clear kc
    go_wp2_with (first | (apply store_gm HX.out.xbox; rfl; rfl; rfl; rfl; rfl; kernel_rfl; rfl; rfl; intro wz hz he; (try simp only [splice, List.setIfInBounds_toArray, List.set_cons_succ, List.set_cons_zero, Nat.reduceAdd] at hz); have HX := Lib.hid (HX.out.setX hz he); clear hz he))
    refine (Val_rt HX.out.rr hF).mono ?_
    rintro x w8 ⟨n8, r8, e8, rfl, h1, k1, b1⟩
    have HX := Lib.hid (HX.out.callx h1 k1)
    have HR8 := Lib.hid b1
    clear h1 k1 b1
    go_wp2_with (first | (apply store_gm HX.out.xbox; rfl; rfl; rfl; rfl; rfl; kernel_rfl; rfl; rfl; intro wz hz he; (try simp only [splice, List.setIfInBounds_toArray, List.set_cons_succ, List.set_cons_zero, Nat.reduceAdd] at hz); have HX := Lib.hid (HX.out.setX hz he); clear hz he) | (apply load_g HX.out.xbox Try.underlying32; rfl; rfl; rfl; rfl; kernel_rfl) | (apply store_g 16 HX.out.box; rfl; rfl; rfl; rfl; rfl; kernel_rfl; rfl; rfl; intro wz hz he; have HX := Lib.hid (HX.out.setR hz he); clear hz he))
    (try simp only [Exit.inBlock, Exit.then])
    refine bodyPost_ret (v := E.agg ⟨n1, 1, ⟨n3, n4, ⟨n5, lb n6, n7, n8⟩⟩, C.zero⟩) (Bh.results_cell_row1 rfl _ _ _ _ _ _ _ rfl HX.out.box Try.underlying32 rfl (by kernel_rfl)) rfl ?_
    exact ⟨_, _, _, rfl, HX.out.rr, HX.out.kept, ent_rb HR1.out HR2.out (show Rb (entPart 1) r2 e2 (⟨n3, n4, ⟨n5, lb n6, n7, n8⟩⟩, C.zero) r8 e8 from Rb.emb (A := cCall) (f := fun c => (c, C.zero)) (g := Prod.fst) (hg := fun _ _ => rfl) (Rb.as (HR3.out.seq (HR4.out.seq (Rb.as (HR5.out.seq ((key_rb HRT6.out).seq (HR7.out.seq HR8.out))))))))⟩
  have d1 := int_nbeq k1
  by_cases k2 : n2 = 2
  · subst k2
    clear k0 d0 k1 d1
    go_wp2_with (first | (apply store_g 16 HX.out.xbox; rfl; rfl; rfl; rfl; rfl; kernel_rfl; rfl; rfl; intro wz hz he; have HX := Lib.hid (HX.out.setX hz he); clear hz he; obtain ⟨x0, x1, x2, x3, x4, x5, x6, x7, x8, x9, x10, x11, x12, x13, x14, x15⟩ := Lg.cells16 HX.out.xbox))
    refine (Conf_rt HX.out.rr hF).mono ?_
    rintro x w3 ⟨n3, r3, e3, rfl, h1, k1, b1⟩
    have HX := Lib.hid (HX.out.callx h1 k1)
    have HR3 := Lib.hid b1
    clear h1 k1 b1
    clear x0 x1 x2 x3 x4 x5 x6 x7 x8 x9 x10 x11 x12 x13 x14 x15
    go_wp2_with (first | (apply store_gm HX.out.xbox; rfl; rfl; rfl; rfl; rfl; kernel_rfl; rfl; rfl; intro wz hz he; (try simp only [splice, List.setIfInBounds_toArray, List.set_cons_succ, List.set_cons_zero, Nat.reduceAdd] at hz); have HX := Lib.hid (HX.out.setX hz he); clear hz he) | (apply load_g HX.out.xbox Try.underlying32; rfl; rfl; rfl; rfl; kernel_rfl) | (apply store_g 16 HX.out.box; rfl; rfl; rfl; rfl; rfl; kernel_rfl; rfl; rfl; intro wz hz he; have HX := Lib.hid (HX.out.setR hz he); clear hz he))
    (try simp only [Exit.inBlock, Exit.then])
    refine bodyPost_ret (v := E.agg ⟨n1, 2, Cl.zero, n3⟩) (Bh.results_cell_row1 rfl _ _ _ _ _ _ _ rfl HX.out.box Try.underlying32 rfl (by kernel_rfl)) rfl ?_
    exact ⟨_, _, _, rfl, HX.out.rr, HX.out.kept, ent_rb HR1.out HR2.out (show Rb (entPart 2) r2 e2 (Cl.zero, n3) r3 e3 from Rb.emb (A := cConf) (f := fun c => (Cl.zero, c)) (g := Prod.snd) (hg := fun _ _ => rfl) HR3.out)⟩
  have d2 := int_nbeq k2
  have HFAR : Hid (∀ q, (entPart n2).rd q = none) := fun q => entPart_far n2 (by omega) q
  clear k0 k1 k2
  go_wp2_with (first | (apply store_g 16 HX.out.xbox; rfl; rfl; rfl; rfl; rfl; kernel_rfl; rfl; rfl; intro wz hz he; have HX := Lib.hid (HX.out.setX hz he); clear hz he; obtain ⟨x0, x1, x2, x3, x4, x5, x6, x7, x8, x9, x10, x11, x12, x13, x14, x15⟩ := Lg.cells16 HX.out.xbox))
  refine (refNone_any2 HX.out.rr 3 (by decide)).mono ?_
  rintro x w3 ⟨rfl, h1, k1⟩
  have HX := Lib.hid (HX.out.callx h1 k1)
  clear h1 k1 x0 x1 x2 x3 x4 x5 x6 x7 x8 x9 x10 x11 x12 x13 x14 x15
  go_wp2_with (first | (apply load_g HX.out.xbox Try.underlying32; rfl; rfl; rfl; rfl; kernel_rfl) | (apply store_g 16 HX.out.box; rfl; rfl; rfl; rfl; rfl; kernel_rfl; rfl; rfl; intro wz hz he; have HX := Lib.hid (HX.out.setR hz he); clear hz he))
  (try simp only [Exit.inBlock, Exit.then])
  refine bodyPost_ret (v := E.agg ⟨n1, n2, Cl.zero, C.zero⟩) (Bh.results_cell_row1 rfl _ _ _ _ _ _ _ rfl HX.out.box Try.underlying32 rfl (by kernel_rfl)) rfl ?_
  exact ⟨_, _, _, rfl, HX.out.rr, HX.out.kept, ent_rb HR1.out HR2.out (.inr ⟨keep_ne (by decide), fun _ => HFAR.out _⟩)⟩
end Go.Proofs.Ytjdebdfbjcpjgaa.Wr
end
section
/- The reference's readers: an entry of all bytes. -/
namespace Go.Proofs.Ytjdebdfbjcpjgaa.Wr
open Go Go.RowKit Vl Kv Ss Cn Mem Lg Nm
attribute [local go_sem] Nm.run_bits Nm.run_frombits run_store_float
theorem all_of {α : Type} (A : Cod α) {F r : List Nat} {y : α} {e' : Int} (h : Rb A F 0 y r e') : A.all F = if e' = 0 ∧ r = [] ∧ F.length ≤ 16384 then some y else none := by
  unfold Cod.all
  rcases h with ⟨_, h1, hd⟩ | ⟨h1, hd⟩
  · rw [hd]
    cases r with
    | nil =>
      by_cases hl : F.length ≤ 16384
      · rw [if_pos ⟨h1, rfl, hl⟩]; simp [hl]
      · rw [if_neg (fun x => hl x.2.2)]; simp [hl]
    | cons a q => rw [if_neg (fun x => by cases x.2.1)]
  · rw [hd rfl, if_neg (fun x => h1 x.1)]
set_option maxHeartbeats 1600000 in
set_option maxRecDepth 100000 in
theorem Over_rt {w : World} {br b : Nat} {a : Option Addr} {cap : Nat} {F r : List Nat} {e : Int} (h : RR w br b a cap F r e) (a2 : Option Addr) (n cap2 : Nat) :
    Calls Try.prog 40 #[.pointer (some ⟨br, 0, none⟩), .slice a2 n cap2] w fun x w' => x = .returned (.bool (decide (e = 0 ∧ r = [] ∧ n ≤ 16384))) ∧ ∃ nd, w' = w.drewN nd := by
  obtain ⟨at_, ha, hB, _, _, _, h0, h1⟩ := h
  have HD := Lib.hid (refDone_any hB)
  have hz : (if e = 0 ∧ at_ < F.length then (3 : Int) else e) = 0 ↔ e = 0 ∧ r = [] := by
    by_cases he : e = 0
    · have hr := h0 he
      by_cases hl : at_ < F.length
      · rw [if_pos ⟨he, hl⟩]
        refine ⟨fun x => absurd x (by decide), fun x => ?_⟩
        have := congrArg List.length (hr.trans x.2)
        rw [List.length_drop, List.length_nil] at this
        omega
      · rw [if_neg (fun x => hl x.2)]
        refine ⟨fun _ => ⟨he, ?_⟩, fun x => x.1⟩
        rw [← hr, List.drop_eq_nil_of_le (by omega)]
    · rw [if_neg (fun x => he x.1)]
      exact ⟨fun x => absurd x he, fun x => x.1⟩
  clear h0 h1 ha hB
  generalize (if e = 0 ∧ at_ < F.length then (3 : Int) else e) = v at *
  by_cases hv : v = 0
  · subst hv
    have hq := hz.1 rfl
    by_cases hn : n ≤ 16384
    · have HX := Lib.hid (show decide (e = 0 ∧ r = [] ∧ n ≤ 16384) = true from decide_eq_true ⟨hq.1, hq.2, hn⟩)
      have d1 : decide ((n : Int) ≤ 16384) = true := decide_eq_true (by omega)
      clear hz hq hn
      go_enter Try.func40, Try.ntmps40
      go_wp2_with (go_at_call 85; refine Calls.mono HD.out ?_; rintro x w' ⟨rfl, nd, rfl⟩)
      go_ret
      exact ⟨ret_bool (by rw [HX.out]), _, rfl⟩
    · have HX := Lib.hid (show decide (e = 0 ∧ r = [] ∧ n ≤ 16384) = false from decide_eq_false fun x => hn x.2.2)
      have d1 : decide ((n : Int) ≤ 16384) = false := decide_eq_false (by omega)
      clear hz hq hn
      go_enter Try.func40, Try.ntmps40
      go_wp2_with (go_at_call 85; refine Calls.mono HD.out ?_; rintro x w' ⟨rfl, nd, rfl⟩)
      go_ret
      exact ⟨ret_bool (by rw [HX.out]), _, rfl⟩
  · have HX := Lib.hid (show decide (e = 0 ∧ r = [] ∧ n ≤ 16384) = false from decide_eq_false fun x => hv (hz.2 ⟨x.1, x.2.1⟩))
    have d1 := int_nbeq hv
    clear hz hv
    go_enter Try.func40, Try.ntmps40
    go_wp2_with (go_at_call 85; refine Calls.mono HD.out ?_; rintro x w' ⟨rfl, nd, rfl⟩)
    go_ret
    exact ⟨ret_bool (by rw [HX.out]), _, rfl⟩
/-- a reader of the call's own, and the block of a result -/
structure Ro1 (w : World) (br b : Nat) (a : Option Addr) (cap : Nat) (F l : List Nat) (e : Int) (gr : Nat) (R : Obj) (W : World) : Prop where
  rr : RR W br b a cap F l e
  beh : Below w.heap.size w W
  lbr : w.heap.size ≤ br
  lb : F ≠ [] → b < w.heap.size
  box : W.heap[gr]? = some R
  lo : w.heap.size ≤ gr
  ner : gr ≠ br
/-- and another block -/
structure Ro2 (w : World) (br b : Nat) (a : Option Addr) (cap : Nat) (F l : List Nat) (e : Int) (gr : Nat) (R : Obj) (gx : Nat) (X : Obj) (W : World) : Prop extends Ro1 w br b a cap F l e gr R W where
  xbox : W.heap[gx]? = some X
  xlo : w.heap.size ≤ gx
  xner : gx ≠ br
  ne : gx ≠ gr
section
variable {w W W' : World} {br b cap gr gx : Nat} {a : Option Addr} {F l l' : List Nat} {e e' : Int} {R X R' X' : Obj}
theorem Ro1.start (h : Mem.Src w b a cap F) (h8 : B8 F) (R : Obj) (n : Nat) (hn : n = F.length) : Ro1 w (w.heap.size + 1) b a cap F F 0 w.heap.size R ((w.alloc R).alloc (.cells #[.slice a n cap, .int .i64 0, .int .i64 0] 86)) := by
  subst hn
  have k : Kept Mem.None w ((w.alloc R).alloc (.cells #[.slice a F.length cap, .int .i64 0, .int .i64 0] 86)) := ((Kept.refl _ w).alloc _).alloc _
  refine ⟨⟨0, Nat.zero_le _, ?_, h.kept k (fun _ h => h), h8, fun hF => by have := h.lt hF; omega, fun _ => rfl, fun h => absurd rfl h⟩, beh_kept k, Nat.le_succ _, fun hF => h.lt hF, old_alloc _ (alloc_here _ rfl), Nat.le_refl _, by omega⟩
  exact alloc_here _ (by simp)
theorem Ro1.call (h : Ro1 w br b a cap F l e gr R W) (hr : RR W' br b a cap F l' e') (hk : Kept (Only br) W W') : Ro1 w br b a cap F l' e' gr R W' :=
  ⟨hr, h.beh.trans (hk.below h.beh.size (fun k hk => by have hk : k = br := hk; have := h.lbr; omega)), h.lbr, h.lb, keptO hk h.box h.ner, h.lo, h.ner⟩
theorem Ro1.els {g : Nat} (h : Ro1 w br b a cap F l e gr R W) (hg : w.heap.size ≤ g) (hgb : g ≠ br) (hx : W'.heap[gr]? = some R') (x : Bh.Else g W W') : Ro1 w br b a cap F l e gr R' W' :=
  ⟨RR.els h.rr x (fun e => hgb e.symm) (fun hr => by have := h.lb hr; omega), h.beh.trans ((else_kept x).below h.beh.size (fun k hk => by have hk : k = g := hk; omega)), h.lbr, h.lb, hx, h.lo, h.ner⟩
theorem Ro1.more (h : Ro1 w br b a cap F l e gr R W) (X : Obj) : Ro2 w br b a cap F l e gr R W.heap.size X (W.alloc X) :=
  { rr := h.rr.kept ((Kept.refl Mem.None W).alloc X) (fun h => h) (fun _ h => h), beh := h.beh.trans (((Kept.refl Mem.None W).alloc X).below h.beh.size (fun _ h => h.elim)), lbr := h.lbr, lb := h.lb, box := old_alloc _ h.box, lo := h.lo, ner := h.ner, xbox := alloc_here _ rfl, xlo := h.beh.size, xner := by have := h.rr.lt1; omega, ne := by have := heap_lt h.box; omega }
theorem Ro2.callx (h : Ro2 w br b a cap F l e gr R gx X W) (hr : RR W' br b a cap F l' e') (hk : Kept (Only br) W W') : Ro2 w br b a cap F l' e' gr R gx X W' :=
  { h.toRo1.call hr hk with xbox := keptO hk h.xbox h.xner, xlo := h.xlo, xner := h.xner, ne := h.ne }
theorem Ro2.setX (h : Ro2 w br b a cap F l e gr R gx X W) (hx : W'.heap[gx]? = some X') (x : Bh.Else gx W W') : Ro2 w br b a cap F l e gr R gx X' W' :=
  { h.toRo1.els h.xlo h.xner ((x.block gr (fun e => h.ne e.symm)).trans h.box) x with xbox := hx, xlo := h.xlo, xner := h.xner, ne := h.ne }
theorem Ro2.setR (h : Ro2 w br b a cap F l e gr R gx X W) (hx : W'.heap[gr]? = some R') (x : Bh.Else gr W W') : Ro2 w br b a cap F l e gr R' gx X W' :=
  { h.toRo1.els h.lo h.ner hx x with xbox := (x.block gx h.ne).trans h.xbox, xlo := h.xlo, xner := h.xner, ne := h.ne }
end
/-- what is told of all bytes -/
def Ald {α : Type} (A : Cod α) (val : α → Value) (z : Value) (F : List Nat) (w : World) (x : Ending) (w' : World) : Prop :=
  Below w.heap.size w w' ∧ match A.all F with
    | some y => x = .returned (.tuple #[val y, .bool true])
    | none => x = .returned (.tuple #[z, .bool false])
set_option maxHeartbeats 3200000 in
set_option maxRecDepth 100000 in
theorem RefReadEntry {w : World} {b : Nat} {a : Option Addr} {cap : Nat} {F : List Nat} (h : Mem.Src w b a cap F) (h8 : B8 F) (hF : F.length ≤ 100000) :
    Calls Try.prog 15 #[.slice a F.length cap] w (Ald cEnt E.agg E.zero.agg F w) := by
  obtain ⟨n, hn⟩ : ∃ n, n = F.length := ⟨_, rfl⟩
  rw [← hn]
  have HO := Lib.hid (Ro1.start h h8 E.zero.obj n hn)
  have HN := Lib.hid hn
  clear h h8 hn
  go_enter Try.func15, Try.ntmps15
  go_wp2_with fail
  refine (Ent_rt HO.out.rr hF).mono ?_
  rintro x w2 ⟨y, r, e', rfl, h1, k1, hb⟩
  have HX := Lib.hid ((HO.out.call h1 k1).more E.zero.obj)
  have HA := Lib.hid (all_of cEnt hb)
  clear h1 k1 hb HO
  go_wp2_with (first | (apply store_g 16 HX.out.xbox; rfl; rfl; rfl; rfl; rfl; kernel_rfl; rfl; rfl; intro wz hz he; have HX := Lib.hid (HX.out.setX hz he); clear hz he))
  refine (Over_rt HX.out.rr a n cap).mono ?_
  rintro x w3 ⟨rfl, nd, hw3⟩
  have HX := Lib.hid (HX.out.callx (W' := w3) (hw3 ▸ HX.out.rr.kept ((Kept.refl Mem.None _).drewN nd) (fun h => h) (fun _ h => h)) (hw3 ▸ (Kept.refl (Only _) _).drewN nd))
  clear hw3
  by_cases hq : e' = 0 ∧ r = [] ∧ n ≤ 16384
  · rw [decide_eq_true hq]
    have HAA : Hid (cEnt.all F = some y) := Lib.hid (by rw [HA.out, if_pos (by rw [← HN.out]; exact hq)])
    clear hq HA
    go_wp2_with (first | (apply load_g HX.out.xbox Try.underlying32; rfl; rfl; rfl; rfl; kernel_rfl) | (apply store_g 16 HX.out.box; rfl; rfl; rfl; rfl; rfl; kernel_rfl; rfl; rfl; intro wz hz he; have HX := Lib.hid (HX.out.setR hz he); clear hz he))
    (try simp only [Exit.inBlock, Exit.then])
    refine bodyPost_ret (Bh.results_cell_row2 rfl _ _ _ _ _ _ _ rfl HX.out.box Try.underlying32 rfl (by kernel_rfl)) rfl ?_
    refine ⟨HX.out.beh, ?_⟩
    rw [HAA.out]
    rfl
  · rw [decide_eq_false hq]
    have HAA : Hid (cEnt.all F = none) := Lib.hid (by rw [HA.out, if_neg (by rw [← HN.out]; exact hq)])
    clear hq HA
    go_wp2_with (first | (apply store_g 16 HX.out.box; rfl; rfl; rfl; rfl; rfl; kernel_rfl; rfl; rfl; intro wz hz he; have HX := Lib.hid (HX.out.setR hz he); clear hz he))
    (try simp only [Exit.inBlock, Exit.then])
    refine bodyPost_ret (Bh.results_cell_row2 rfl _ _ _ _ _ _ _ rfl HX.out.box Try.underlying32 rfl (by kernel_rfl)) rfl ?_
    refine ⟨HX.out.beh, ?_⟩
    rw [HAA.out]
    rfl
end Go.Proofs.Ytjdebdfbjcpjgaa.Wr
end
section
/- The law WireEntries. -/
namespace Go.Proofs.Ytjdebdfbjcpjgaa.Wr
open Go Go.RowKit Vl Kv Ss Cn Mem Lg Nm
attribute [local go_sem] Nm.run_bits Nm.run_frombits run_store_float
/-- two ways of what a writer tells -/
theorem enc_ways (r : Option (Option (List Nat))) : (∃ c : Int, ∀ w e w', EncTold r w e w' → e = .returned (.tuple #[.slice none 0 0, .int .i64 c]) ∧ Below w.heap.size w w') ∨
    (∃ l : List Nat, l.length ≤ 16384 ∧ ∀ w e w', EncTold r w e w' → ∃ b a cap, e = .returned (.tuple #[.slice a l.length cap, .int .i64 0]) ∧ OwnB 5 w' b a cap l ∧ Below w.heap.size w w') := by
  match r with
  | none => exact .inl ⟨3, fun w e w' h => ⟨h.2, h.1⟩⟩
  | some none => exact .inl ⟨2, fun w e w' h => ⟨h.2, h.1⟩⟩
  | some (some l) =>
    by_cases hl : l.length ≤ 16384
    · refine .inr ⟨l, hl, fun w e w' h => ?_⟩
      obtain ⟨b, a, cap, h1, h2, _⟩ := h.2.1 hl
      exact ⟨b, a, cap, h1, h2, h.1⟩
    · exact .inl ⟨2, fun w e w' h => ⟨h.2.2 (by omega), h.1⟩⟩
theorem nil_same (W : World) : Calls Try.prog 13 #[.slice none 0 0, .slice none 0 0] W fun e w' => e = .returned (.bool true) ∧ Below W.heap.size W w' :=
  (Kp.KBytes_any 0 none 0 [] 0 none 0 [] W (OwnB.nil 5 _ _).src (OwnB.nil 5 _ _).src (by decide) (by decide)).mono fun _ _ h => same_true h
set_option maxHeartbeats 12800000 in
set_option maxRecDepth 100000 in
theorem WireEntries_law (x : E) (b : Nat) (a : Option Addr) (cap : Nat) (F : List Nat) (w : World) (re : RE x) (hs : Mem.Src w b a cap F) (h8 : B8 F) :
    Calls Try.prog 3 #[x.agg, .slice a F.length cap] w fun e w' => e = .returned (.bool true) ∧ Below w.heap.size w w' := by
  have HB := Lib.hid (Bh.Bx.one w x.obj)
  have HWK := fun w => Lib.hid (wakes_any w)
  have HV0 : Hid (Calls Try.prog 10 #[.slice (some ⟨w.heap.size + 1, 0, none⟩) 1 1] ((w.alloc x.obj).alloc x.obj) fun e w' => e = .returned (.bool x.call.cmd.heavy) ∧ Bh.Bx w [x.obj] w') := by
    have h1 := heavyEnts_any (some ⟨w.heap.size + 1, 0, none⟩) 1 [x] ((w.alloc x.obj).alloc x.obj) (Li.lit_list (L := [x]) (by rw [← size_alloc w x.obj]; exact Bh.alloc_here _ rfl) rfl (by simp))
    have e1 : heavyL [x] = x.call.cmd.heavy := by unfold heavyL; simp
    rw [e1] at h1
    exact h1.mono fun e w' ⟨h2, h3⟩ => ⟨h2, (HB.out.alloc _).on h3⟩
  obtain ⟨n, hn⟩ : ∃ n, n = F.length := ⟨_, rfl⟩
  rw [← hn]
  have HN := Lib.hid hn
  cases k0 : x.call.cmd.heavy
  case true =>
    rw [k0] at HV0
    clear hs h8 hn
    go_enter Try.func3, Try.ntmps3
    go_wp2_with (first | (go_at_call 10; refine Calls.mono HV0.out ?_; rintro e wy ⟨rfl, hb⟩; (have HB := Lib.hid hb); clear hb) | (apply Bh.load_bx 0 HB.out Try.underlying32; rfl; rfl; rfl; rfl; rfl; kernel_rfl))
    go_ret
    exact ⟨rfl, HB.out.beh⟩
  rw [k0] at HV0
  by_cases hl : F.length ≤ 32768
  case neg =>
    have d1 : decide ((32768 : Int) < (n : Int)) = true := decide_eq_true (by omega)
    clear hs h8 hl hn
    go_enter Try.func3, Try.ntmps3
    go_wp2_with (first | (go_at_call 10; refine Calls.mono HV0.out ?_; rintro e wy ⟨rfl, hb⟩; (have HB := Lib.hid hb); clear hb) | (apply Bh.load_bx 0 HB.out Try.underlying32; rfl; rfl; rfl; rfl; rfl; kernel_rfl))
    go_ret
    exact ⟨rfl, HB.out.beh⟩
  have d1 : decide ((32768 : Int) < (n : Int)) = false := decide_eq_false (by omega)
  have hf := re.fit k0
  have HW1 : Hid (∀ W, Calls Try.prog 11 #[x.agg] W (EncTold (eR (some []) x) W)) := fun W => Entry_any hf
  have HW2 : Hid (∀ W, Calls Try.prog 12 #[x.agg] W (EncTold (eR (some []) x) W)) := fun W => refEntryW x hf W
  have HR1 : Hid (∀ W, Kv.Beh w W → Calls Try.prog 14 #[.slice a n cap] W (REnt F W)) := fun W hW => by rw [HN.out]; exact ReadEntry_any (hs.kept (kept_beh hW) (fun _ h => h)) h8 (by omega)
  have HR2 : Hid (∀ W, Kv.Beh w W → Calls Try.prog 15 #[.slice a n cap] W (Ald cEnt E.agg E.zero.agg F W)) := fun W hW => by rw [HN.out]; exact RefReadEntry (hs.kept (kept_beh hW) (fun _ h => h)) h8 (by omega)
  have hw := enc_ways (eR (some []) x)
  generalize eR (some []) x = r at *
  obtain ⟨Y, C, OK, hC, HYZ⟩ : ∃ (Y : E) (C : Int) (OK : Bool), (OK = true ∧ C = 0 ∨ OK = false ∧ C = 3) ∧ Hid (∀ W e W', (REnt F W e W' → e = .returned (.tuple #[Y.agg, .int .i64 C]) ∧ Below W.heap.size W W') ∧ (Ald cEnt E.agg E.zero.agg F W e W' → e = .returned (.tuple #[Y.agg, .bool OK]) ∧ Below W.heap.size W W')) := by
    unfold REnt Ald
    cases cEnt.all F with
    | some y => exact ⟨y, 0, true, .inl ⟨rfl, rfl⟩, fun W e W' => ⟨fun h => ⟨h.2, h.1⟩, fun h => ⟨h.2, h.1⟩⟩⟩
    | none => exact ⟨E.zero, 3, false, .inr ⟨rfl, rfl⟩, fun W e W' => ⟨fun h => ⟨h.2, h.1⟩, fun h => ⟨h.2, h.1⟩⟩⟩
  have HKY := fun W => Lib.hid (keepEntry_self Y W)
  clear hs h8 hl hn k0 re hf
  rcases hw with ⟨c, hw⟩ | ⟨l, hl, hw⟩
  · have HWA := Lib.hid hw
    clear hw
    rcases hC with ⟨rfl, rfl⟩ | ⟨rfl, rfl⟩
    all_goals
      go_enter Try.func3, Try.ntmps3
      go_wp2_with (first | (go_at_call 10; refine Calls.mono HV0.out ?_; rintro e wy ⟨rfl, hb⟩; (have HB := Lib.hid hb); clear hb) | (go_at_call 11; refine Calls.mono (HW1.out _) ?_; intro e w1 he; (obtain ⟨rfl, hb⟩ := HWA.out _ _ _ he); (have HB := Lib.hid (HB.out.on hb)); clear he hb) | (go_at_call 12; refine Calls.mono (HW2.out _) ?_; intro e w2 he; (obtain ⟨rfl, hb⟩ := HWA.out _ _ _ he); (have HB := Lib.hid (HB.out.on hb)); clear he hb) | (go_at_call 13; refine Calls.mono (nil_same _) ?_; rintro e w3 ⟨rfl, hb⟩; (have HB := Lib.hid (HB.out.on hb)); clear hb) | (apply Bh.load_bx 0 HB.out Try.underlying32; rfl; rfl; rfl; rfl; rfl; kernel_rfl))
      refine Calls.mono (HR1.out _ HB.out.beh) ?_
      intro e w4 he
      obtain ⟨rfl, hb⟩ := (HYZ.out _ _ _).1 he
      have HB := Lib.hid (HB.out.on hb)
      have HY := Lib.hid (Bh.Bx.one w4 E.zero.obj)
      clear he hb
      go_wp2_with (first | (apply Bh.store_bx 16 0 HY.out; rfl; rfl; rfl; rfl; rfl; rfl; kernel_rfl; rfl; rfl; intro wz hz; have HY := Lib.hid hz; (have HB := Lib.hid (HB.out.on hz.beh)); clear hz))
      refine Calls.mono (HR2.out _ HB.out.beh) ?_
      intro e w5 he
      obtain ⟨rfl, hb⟩ := (HYZ.out _ _ _).2 he
      have HB := Lib.hid (HB.out.on hb)
      have HY := Lib.hid (HY.out.on hb)
      have HZ := Lib.hid (Bh.Bx.one w5 E.zero.obj)
      clear he hb
      go_wp2_with (first | (apply Bh.store_bx 16 0 HZ.out; rfl; rfl; rfl; rfl; rfl; rfl; kernel_rfl; rfl; rfl; intro wz hz; have HZ := Lib.hid hz; (have HB := Lib.hid (HB.out.on hz.beh)); (have HY := Lib.hid (HY.out.on hz.beh)); clear hz) | (apply Bh.load_bx 0 HY.out Try.underlying32; rfl; rfl; rfl; rfl; rfl; kernel_rfl) | (apply Bh.load_bx 0 HZ.out Try.underlying32; rfl; rfl; rfl; rfl; rfl; kernel_rfl) | (go_at_call 16; refine Calls.mono (HKY _).out ?_; rintro e w6 ⟨rfl, hb⟩; (have HB := Lib.hid (HB.out.on hb)); clear hb) | (go_at_call 17; refine Calls.mono ((HWK _).out) ?_; rintro e wk ⟨rfl, hb⟩; (have HB := Lib.hid (HB.out.on hb)); clear hb))
      go_ret
      exact ⟨rfl, HB.out.beh⟩
  · have HWA := Lib.hid hw
    obtain ⟨m, hm⟩ : ∃ m, m = l.length := ⟨_, rfl⟩
    have HM := Lib.hid hm
    clear hw hm
    rcases hC with ⟨rfl, rfl⟩ | ⟨rfl, rfl⟩
    all_goals
      go_enter Try.func3, Try.ntmps3
      go_wp2_with (first | (go_at_call 10; refine Calls.mono HV0.out ?_; rintro e wy ⟨rfl, hb⟩; (have HB := Lib.hid hb); clear hb) | (apply Bh.load_bx 0 HB.out Try.underlying32; rfl; rfl; rfl; rfl; rfl; kernel_rfl))
      refine Calls.mono (HW1.out _) ?_
      intro e w1 he
      obtain ⟨b1, a1, u1, rfl, ho, hb⟩ := HWA.out _ _ _ he
      have HB := Lib.hid (HB.out.on hb)
      have HO1 := Lib.hid ho
      rw [← HM.out]
      clear he hb ho
      go_wp2_with (first | (apply Bh.load_bx 0 HB.out Try.underlying32; rfl; rfl; rfl; rfl; rfl; kernel_rfl))
      refine Calls.mono (HW2.out _) ?_
      intro e w2 he
      obtain ⟨b2, a2, u2, rfl, ho, hb⟩ := HWA.out _ _ _ he
      have HB := Lib.hid (HB.out.on hb)
      have HKB : Hid (Calls Try.prog 13 #[.slice a1 m u1, .slice a2 m u2] w2 fun e w' => e = .returned (.bool true) ∧ Below w2.heap.size w2 w') := by
        rw [HM.out]
        exact (Kp.KBytes_any b1 a1 u1 l b2 a2 u2 l w2 (HO1.out.kept (kept_beh hb) (fun _ h => h.elim)).src ho.src (by omega) (by omega)).mono fun _ _ h => same_true h
      rw [← HM.out]
      clear he hb ho HO1
      go_wp2_with (first | (go_at_call 13; refine Calls.mono HKB.out ?_; rintro e w3 ⟨rfl, hb⟩; (have HB := Lib.hid (HB.out.on hb)); clear hb) | (apply Bh.load_bx 0 HB.out Try.underlying32; rfl; rfl; rfl; rfl; rfl; kernel_rfl))
      refine Calls.mono (HR1.out _ HB.out.beh) ?_
      intro e w4 he
      obtain ⟨rfl, hb⟩ := (HYZ.out _ _ _).1 he
      have HB := Lib.hid (HB.out.on hb)
      have HY := Lib.hid (Bh.Bx.one w4 E.zero.obj)
      clear he hb
      go_wp2_with (first | (apply Bh.store_bx 16 0 HY.out; rfl; rfl; rfl; rfl; rfl; rfl; kernel_rfl; rfl; rfl; intro wz hz; have HY := Lib.hid hz; (have HB := Lib.hid (HB.out.on hz.beh)); clear hz))
      refine Calls.mono (HR2.out _ HB.out.beh) ?_
      intro e w5 he
      obtain ⟨rfl, hb⟩ := (HYZ.out _ _ _).2 he
      have HB := Lib.hid (HB.out.on hb)
      have HY := Lib.hid (HY.out.on hb)
      have HZ := Lib.hid (Bh.Bx.one w5 E.zero.obj)
      clear he hb
      go_wp2_with (first | (apply Bh.store_bx 16 0 HZ.out; rfl; rfl; rfl; rfl; rfl; rfl; kernel_rfl; rfl; rfl; intro wz hz; have HZ := Lib.hid hz; (have HB := Lib.hid (HB.out.on hz.beh)); (have HY := Lib.hid (HY.out.on hz.beh)); clear hz) | (apply Bh.load_bx 0 HY.out Try.underlying32; rfl; rfl; rfl; rfl; rfl; kernel_rfl) | (apply Bh.load_bx 0 HZ.out Try.underlying32; rfl; rfl; rfl; rfl; rfl; kernel_rfl) | (go_at_call 16; refine Calls.mono (HKY _).out ?_; rintro e w6 ⟨rfl, hb⟩; (have HB := Lib.hid (HB.out.on hb)); clear hb) | (go_at_call 17; refine Calls.mono ((HWK _).out) ?_; rintro e wk ⟨rfl, hb⟩; (have HB := Lib.hid (HB.out.on hb)); clear hb))
      go_ret
      exact ⟨rfl, HB.out.beh⟩
end Go.Proofs.Ytjdebdfbjcpjgaa.Wr
end
