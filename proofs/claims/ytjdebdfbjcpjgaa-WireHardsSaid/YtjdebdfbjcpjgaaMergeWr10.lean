import Derived.Test.YtjdebdfbjcpjgaaMergeWr9
import Derived.Test.YtjdebdfbjcpjgaaMergeWr0
import Derived.Test.YtjdebdfbjcpjgaaMergeWr8
section
/- Plain: what may be written, as the tests of it; what codes take. No program. -/
namespace Go.Proofs.Ytjdebdfbjcpjgaa.Wr
open Go Go.RowKit Vl Kv Ss Cn Mem Lg
def okV (v : V) : Bool := decide (0 ≤ v.kind) && decide (v.kind ≤ 2) && (decide (v.kind = 2) || decide (v.text = ⟨#[]⟩)) && (if v.kind = 1 then Nm.canon v.num == v.num else v.num == 0)
def okE (x : E) : Bool := decide (0 ≤ x.kind) && decide (x.kind ≤ 2) && (decide (x.kind = 1) || noCall x.call) && (decide (x.kind = 2) || decide (x.conf = C.zero)) && (!decide (x.kind = 1) || (okV x.call.cmd.old && okV x.call.cmd.val))
theorem same_zeroW {a : Nat} (h : Nm.same a 0 = true) : a = 0 := by
  have h0 : Nm.canon 0 = 0 := by decide
  unfold Nm.same at h
  rw [decide_eq_true_eq, h0] at h
  unfold Nm.canon at h
  split at h
  · cases h
  · exact h
theorem vsame_zeroW {v : V} (h : v.same V.zero = true) : v = V.zero := by
  unfold V.same at h
  rw [Bool.and_eq_true, Bool.and_eq_true, decide_eq_true_eq, decide_eq_true_eq] at h
  exact V.ext h.1.1 (same_zeroW h.1.2) h.2
theorem noCall_iff {c : Cl} : noCall c = true ↔ c = Cl.zero := by
  constructor
  · intro h
    unfold noCall Cl.same Cm.same at h
    simp only [Bool.and_eq_true, beq_iff_eq, decide_eq_true_eq] at h
    obtain ⟨⟨h1, h2⟩, ⟨⟨h3, h4⟩, h5⟩, h6⟩ := h
    obtain ⟨cl, sq, ⟨kd, ky, o, v⟩⟩ := c
    have e1 := vsame_zeroW h5
    have e2 := vsame_zeroW h6
    simp only at h1 h2 h3 h4 e1 e2
    rw [h1, h2, h3, h4, e1, e2]
    rfl
  · rintro rfl; exact Cl.same_refl _
/-- a value that a program may hold, its text no longer than may be written -/
structure FitV (v : V) : Prop where
  kind : In64 v.kind
  num : v.num < 18446744073709551616
  text : v.text.size ≤ 16384
theorem valPart_1 : valPart 1 = cFlt.emb (fun x => (x, ⟨#[]⟩)) Prod.fst (fun _ _ => rfl) := rfl
theorem cKey_ok {t : ByteArray} : cKey.ok t ↔ t.size ≤ 16384 := by
  show (((bl t).length ≤ 16384 ∧ B8 (bl t)) ∧ lb (bl t) = t) ↔ _
  rw [bl_length, lb_bl]
  exact ⟨fun h => h.1.1, fun h => ⟨⟨h, bl_b8 t⟩, rfl⟩⟩
theorem cVal_ok {v : V} (h : FitV v) : cVal.ok v ↔ okV v = true := by
  obtain ⟨k, n, t⟩ := v
  obtain ⟨hk, hn, ht⟩ := h
  show (In64 k ∧ (valPart k).ok (n, t)) ↔ _
  simp only at hk hn ht
  unfold okV valPart
  simp only [Bool.and_eq_true, Bool.or_eq_true, decide_eq_true_eq]
  by_cases h1 : k = 1
  · subst h1
    rw [if_pos rfl, if_pos rfl]
    show (_ ∧ ((n < 18446744073709551616 ∧ Nm.canon n = n) ∧ (n, (⟨#[]⟩ : ByteArray)) = (n, t))) ↔ _
    rw [beq_iff_eq]
    constructor
    · rintro ⟨_, ⟨_, h3⟩, h4⟩
      injection h4 with _ h4
      exact ⟨⟨by omega, .inr h4.symm⟩, h3⟩
    · rintro ⟨⟨_, h4⟩, h3⟩
      rcases h4 with h4 | h4
      · exact absurd h4 (by decide)
      · exact ⟨hk, ⟨hn, h3⟩, by rw [h4]⟩
  · rw [if_neg h1, if_neg h1, beq_iff_eq]
    by_cases h2 : k = 2
    · subst h2
      rw [if_pos rfl]
      show (_ ∧ (cKey.ok t ∧ ((0 : Nat), t) = (n, t))) ↔ _
      rw [cKey_ok]
      constructor
      · rintro ⟨_, _, h4⟩
        injection h4 with h4 _
        exact ⟨⟨by omega, .inl rfl⟩, h4.symm⟩
      · rintro ⟨_, h4⟩
        exact ⟨hk, ht, by rw [h4]⟩
    · rw [if_neg h2]
      by_cases h0 : k = 0
      · subst h0
        rw [if_pos rfl]
        show (_ ∧ (n, t) = ((0 : Nat), (⟨#[]⟩ : ByteArray))) ↔ _
        constructor
        · rintro ⟨_, h4⟩
          injection h4 with h4 h5
          exact ⟨⟨by omega, .inr h5⟩, h4⟩
        · rintro ⟨⟨_, h5⟩, h4⟩
          rcases h5 with h5 | h5
          · exact absurd h5 h2
          · exact ⟨hk, by rw [h4, h5]⟩
      · rw [if_neg h0]
        constructor
        · rintro ⟨_, h4⟩; exact (h4 : False).elim
        · rintro ⟨⟨h4, _⟩, _⟩; omega
structure FitCl (c : Cl) : Prop where
  client : In64 c.client
  seq : In64 c.seq
  kind : In64 c.cmd.kind
  key : c.cmd.key.size ≤ 16384
  old : FitV c.cmd.old
  val : FitV c.cmd.val
structure FitC (c : C) : Prop where
  f : In64 c.f
  w : In64 c.w
  l : In64 c.l
  x : In64 c.x
structure FitE (x : E) : Prop where
  term : In64 x.term
  kind : In64 x.kind
  call : FitCl x.call
  conf : FitC x.conf
theorem cCall_ok {c : Cl} (h : FitCl c) : cCall.ok c ↔ okV c.cmd.old = true ∧ okV c.cmd.val = true := by
  show (In64 c.client ∧ In64 c.seq ∧ (In64 c.cmd.kind ∧ cKey.ok c.cmd.key ∧ cVal.ok c.cmd.old ∧ cVal.ok c.cmd.val)) ↔ _
  rw [cKey_ok, cVal_ok h.old, cVal_ok h.val]
  exact ⟨fun x => x.2.2.2.2, fun x => ⟨h.client, h.seq, h.kind, h.key, x⟩⟩
theorem cConf_ok {c : C} (h : FitC c) : cConf.ok c := ⟨h.f, h.w, h.l, h.x⟩
theorem cEnt_ok {x : E} (h : FitE x) : cEnt.ok x ↔ okE x = true := by
  obtain ⟨t, k, c, f⟩ := x
  obtain ⟨ht, hk, hc, hf⟩ := h
  show ((In64 t ∧ In64 k) ∧ (entPart k).ok (c, f)) ↔ _
  simp only at ht hk hc hf
  unfold okE entPart
  simp only [Bool.and_eq_true, Bool.or_eq_true, decide_eq_true_eq, Bool.not_eq_true', decide_eq_false_iff_not, noCall_iff]
  by_cases h1 : k = 1
  · subst h1
    rw [if_pos rfl]
    show (_ ∧ (cCall.ok c ∧ (c, C.zero) = (c, f))) ↔ _
    rw [cCall_ok hc]
    constructor
    · rintro ⟨_, h3, h4⟩
      injection h4 with _ h4
      exact ⟨⟨⟨by omega, .inl rfl⟩, .inr h4.symm⟩, .inr h3⟩
    · rintro ⟨⟨_, h4⟩, h3⟩
      rcases h4 with h4 | h4
      · exact absurd h4 (by decide)
      · rcases h3 with h3 | h3
        · exact absurd rfl h3
        · exact ⟨⟨ht, hk⟩, h3, by rw [h4]⟩
  · rw [if_neg h1]
    by_cases h2 : k = 2
    · subst h2
      rw [if_pos rfl]
      show (_ ∧ (cConf.ok f ∧ (Cl.zero, f) = (c, f))) ↔ _
      constructor
      · rintro ⟨_, _, h4⟩
        injection h4 with h4 _
        exact ⟨⟨⟨by omega, .inr h4.symm⟩, .inl rfl⟩, .inl (by decide)⟩
      · rintro ⟨⟨⟨_, h4⟩, _⟩, _⟩
        rcases h4 with h4 | h4
        · exact absurd h4 (by decide)
        · exact ⟨⟨ht, hk⟩, cConf_ok hf, by rw [h4]⟩
    · rw [if_neg h2]
      by_cases h0 : k = 0
      · subst h0
        rw [if_pos rfl]
        show (_ ∧ (c, f) = (Cl.zero, C.zero)) ↔ _
        constructor
        · rintro ⟨_, h4⟩
          injection h4 with h4 h5
          exact ⟨⟨⟨by omega, .inr h4⟩, .inr h5⟩, .inl (by decide)⟩
        · rintro ⟨⟨⟨_, h4⟩, h5⟩, _⟩
          rcases h4 with h4 | h4
          · exact absurd h4 (by decide)
          · rcases h5 with h5 | h5
            · exact absurd h5 (by decide)
            · exact ⟨⟨ht, hk⟩, by rw [h4, h5]⟩
      · rw [if_neg h0]
        constructor
        · rintro ⟨_, h4⟩; exact (h4 : False).elim
        · rintro ⟨⟨⟨h4, _⟩, _⟩, _⟩; omega
def okL (L : List E) : Bool := L.all okE
structure FitL (L : List E) : Prop where
  len : In64 L.length
  all : ∀ x ∈ L, FitE x
structure FitT (t : List Nat) : Prop where
  len : t.length ≤ 16384
  b8 : B8 t
theorem cEnts_ok {L : List E} {P : Int → Bool} (h : FitL L) : (cList cEnt P).ok L ↔ P L.length = true ∧ okL L = true := by
  rw [cList_ok]
  unfold okL
  rw [List.all_eq_true]
  constructor
  · rintro ⟨_, h2, h3⟩
    exact ⟨h2, fun x hx => (cEnt_ok (h.all x hx)).1 (h3 x hx)⟩
  · rintro ⟨h2, h3⟩
    exact ⟨h.len, h2, fun x hx => (cEnt_ok (h.all x hx)).2 (h3 x hx)⟩
structure FitH (h : H) : Prop where
  term : In64 h.term
  vote : In64 h.vote
  base : In64 h.base
  bterm : In64 h.bterm
  conf : FitC h.conf
  snap : FitT h.snap
  log : FitL h.log
theorem cHard_ok {h : H} (x : FitH h) : cHard.ok h ↔ okL h.log = true := by
  show (In64 h.term ∧ In64 h.vote ∧ In64 h.base ∧ In64 h.bterm ∧ cConf.ok h.conf ∧ cText.ok h.snap ∧ (cList cEnt (fun _ => true)).ok h.log) ↔ _
  rw [cEnts_ok x.log]
  exact ⟨fun y => y.2.2.2.2.2.2.2, fun y => ⟨x.term, x.vote, x.base, x.bterm, cConf_ok x.conf, ⟨x.snap.len, x.snap.b8⟩, rfl, y⟩⟩
structure FitF (m : Fl) : Prop where
  kind : In64 m.kind
  from_ : In64 m.from_
  to : In64 m.to
  term : In64 m.term
  index : In64 m.index
  logt : In64 m.logt
  commit : In64 m.commit
  round : In64 m.round
  ents : FitL m.ents
  conf : FitC m.conf
  snap : FitT m.snap
def okF (m : Fl) : Bool := decide ((m.ents.length : Int) ≤ 8) && okL m.ents
theorem cHead_ok {m : Fl} (x : FitF m) : cHead.ok m ↔ okF m = true := by
  show (In64 m.kind ∧ In64 m.from_ ∧ In64 m.to ∧ In64 m.term ∧ In64 m.index ∧ In64 m.logt ∧ In64 m.commit ∧ In64 m.round ∧ True ∧ (cList cEnt (fun n => decide (n ≤ 8))).ok m.ents ∧ cConf.ok m.conf ∧ cText.ok m.snap) ↔ _
  rw [cEnts_ok x.ents]
  unfold okF
  rw [Bool.and_eq_true]
  exact ⟨fun y => y.2.2.2.2.2.2.2.2.2.1, fun y => ⟨x.kind, x.from_, x.to, x.term, x.index, x.logt, x.commit, x.round, trivial, y, cConf_ok x.conf, x.snap.len, x.snap.b8⟩⟩
structure FitMe (m : Me) : Prop where
  head : FitF m.head
  len : In64 m.inner.length
  inner : ∀ f ∈ m.inner, FitF f
def okMe (m : Me) : Bool := okF m.head && decide ((m.inner.length : Int) ≤ 16) && m.inner.all okF
theorem cInner_ok {f : Fl} (x : FitF f) : cInner.ok f ↔ okF f = true := by
  show (cHead.ok f ∧ ((In64 0 ∧ (if (0 : Int) = 0 then Cod.one () else Cod.non).ok ()) ∧ () = ())) ↔ _
  rw [cHead_ok x]
  exact ⟨fun y => y.1, fun y => ⟨y, ⟨⟨by decide, by decide⟩, by rw [if_pos rfl]; rfl⟩, rfl⟩⟩
theorem cMsg_ok {m : Me} (x : FitMe m) : cMsg.ok m ↔ okMe m = true := by
  show (cHead.ok m.head ∧ (cList cInner (fun n => decide (n ≤ 16))).ok m.inner) ↔ _
  rw [cHead_ok x.head, cList_ok]
  unfold okMe
  rw [Bool.and_eq_true, Bool.and_eq_true, List.all_eq_true]
  constructor
  · rintro ⟨h1, _, h2, h3⟩
    exact ⟨⟨h1, h2⟩, fun f hf => (cInner_ok (x.inner f hf)).1 (h3 f hf)⟩
  · rintro ⟨⟨h1, h2⟩, h3⟩
    exact ⟨h1, x.len, h2, fun f hf => (cInner_ok (x.inner f hf)).2 (h3 f hf)⟩
end Go.Proofs.Ytjdebdfbjcpjgaa.Wr
end
section
/- Plain: what is written is bytes; how long it is. No program. -/
namespace Go.Proofs.Ytjdebdfbjcpjgaa.Wr
open Go Go.RowKit Vl Kv Ss Cn Mem Lg
variable {α β : Type}
/-- what may be written is bytes -/
def Cod.B (A : Cod α) : Prop := ∀ x, A.ok x → B8 (A.enc x)
theorem Cod.B.seq {A : Cod α} {C : Cod β} (a : A.B) (c : C.B) : (A.seq C).B := fun x h => B8.append (a x.1 h.1) (c x.2 h.2)
theorem Cod.B.as {A : Cod α} (a : A.B) (f : α → β) (g : β → α) (hf : ∀ b, f (g b) = b) (hg : ∀ a, g (f a) = a) : (A.as f g hf hg).B := fun y h => a (g y) h
theorem Cod.B.emb {A : Cod α} (a : A.B) (f : α → β) (g : β → α) (hg : ∀ a, A.ok a → g (f a) = a) : (A.emb f g hg).B := fun y h => a (g y) h.1
theorem Cod.B.sel {A : Cod α} {C : α → Cod β} (a : A.B) (c : ∀ x, (C x).B) : (A.sel C).B := fun x h => B8.append (a x.1 h.1) (c x.1 x.2 h.2)
theorem Cod.B.one (c : α) : (Cod.one c).B := fun _ _ => B8.nil
theorem Cod.B.non : (Cod.non : Cod α).B := fun _ h => (h : False).elim
theorem Cod.B.rep {A : Cod α} (a : A.B) (n : Nat) : (A.rep n).B := by
  induction n with
  | zero => exact fun _ _ => B8.nil
  | succ n ih =>
    intro L h
    cases L with
    | nil => exact (h : False).elim
    | cons x r => exact B8.append (a x h.1) (ih r h.2)
theorem cInt_B : cInt.B := fun x _ => Pk.intB_b8 x
theorem cMark_B : cMark.B := fun x _ => by
  intro y hy
  have hy : y ∈ [if x then 1 else 0] := hy
  rw [List.mem_singleton] at hy
  subst hy
  cases x <;> decide
theorem cFlt_B : cFlt.B := fun x _ => fltB_b8 x
theorem cText_B : cText.B := fun _ h => textB_b8 h.2
theorem cKey_B : cKey.B := cText_B.emb _ _ _
theorem valPart_B (k : Int) : (valPart k).B := by
  unfold valPart
  split
  · exact cFlt_B.emb _ _ _
  · split
    · exact cKey_B.emb _ _ _
    · split
      · exact Cod.B.one _
      · exact Cod.B.non
theorem cVal_B : cVal.B := (cInt_B.sel valPart_B).as _ _ _ _
theorem cCmd_B : cCmd.B := (cInt_B.seq (cKey_B.seq (cVal_B.seq cVal_B))).as _ _ _ _
theorem cCall_B : cCall.B := (cInt_B.seq (cInt_B.seq cCmd_B)).as _ _ _ _
theorem cConf_B : cConf.B := (cInt_B.seq (cInt_B.seq (cInt_B.seq cInt_B))).as _ _ _ _
theorem entPart_B (k : Int) : (entPart k).B := by
  unfold entPart
  split
  · exact cCall_B.emb _ _ _
  · split
    · exact cConf_B.emb _ _ _
    · split
      · exact Cod.B.one _
      · exact Cod.B.non
theorem cEnt_B : cEnt.B := ((cInt_B.seq cInt_B).sel (fun x => entPart_B x.2)).as _ _ _ _
theorem cList_B {A : Cod α} (a : A.B) (P : Int → Bool) : (cList A P).B := by
  refine Cod.B.emb (Cod.B.sel cInt_B (fun n => ?_)) _ _ _
  split
  · exact a.rep _
  · exact Cod.B.non
theorem cHard_B : cHard.B := (cInt_B.seq (cInt_B.seq (cInt_B.seq (cInt_B.seq (cConf_B.seq (cText_B.seq (cList_B cEnt_B _))))))).as _ _ _ _
theorem cHead_B : cHead.B := (cInt_B.seq (cInt_B.seq (cInt_B.seq (cInt_B.seq (cInt_B.seq (cInt_B.seq (cInt_B.seq (cInt_B.seq (cMark_B.seq ((cList_B cEnt_B _).seq (cConf_B.seq cText_B))))))))))).as _ _ _ _
theorem cNone_B : cNone.B := by
  refine Cod.B.emb (Cod.B.sel cInt_B (fun n => ?_)) _ _ _
  split
  · exact Cod.B.one _
  · exact Cod.B.non
theorem cInner_B : cInner.B := (cHead_B.seq cNone_B).as _ _ _ _
theorem cMsg_B : cMsg.B := (cHead_B.seq (cList_B cInner_B _)).as _ _ _ _

/-! ### no more entries than bytes -/
theorem flat_ge {f : α → List Nat} {n : Nat} {L : List α} (h : ∀ x ∈ L, n ≤ (f x).length) : L.length * n ≤ (L.flatMap f).length := by
  induction L with
  | nil => simp
  | cons x r ih =>
    rw [List.flatMap_cons, List.length_append, List.length_cons, Nat.succ_mul]
    have := h x (List.mem_cons_self ..)
    have := ih (fun y hy => h y (List.mem_cons_of_mem _ hy))
    omega
theorem cEnt_len (x : E) : 2 ≤ (cEnt.enc x).length := by
  show 2 ≤ ((Pk.intB x.term ++ Pk.intB x.kind) ++ (entPart x.kind).enc (x.call, x.conf)).length
  rw [List.length_append, List.length_append]
  have := (Pk.intB_len x.term).1
  have := (Pk.intB_len x.kind).1
  omega
theorem log_len {l r : List Nat} {L : List E} {P : Int → Bool} (h8 : B8 l) (h : (cList cEnt P).rd l = some (L, r)) : 2 * L.length ≤ l.length := by
  obtain ⟨e, o⟩ := (cList cEnt P).sound l h8 L r h
  rw [cList_enc cEnt ((cList_ok cEnt).1 o).2.1] at e
  have h2 := flat_ge (f := cEnt.enc) (n := 2) (L := L) (fun x _ => cEnt_len x)
  rw [e, List.length_append, List.length_append]
  omega
end Go.Proofs.Ytjdebdfbjcpjgaa.Wr
end
section
/- A Writer of package wire beside other blocks: what it holds (bytes, or that a text was too long); each method as one step. -/
namespace Go.Proofs.Ytjdebdfbjcpjgaa.Wr
open Go Go.RowKit Vl Kv Ss Cn Mem Lg
def lenO (o : Option (List Nat)) : Nat := match o with | some l => l.length | none => 0
/-- more behind it -/
def app (o : Option (List Nat)) (m : List Nat) : Option (List Nat) := match o with | some l => some (l ++ m) | none => none
/-- a text behind it -/
def appT (o : Option (List Nat)) (t : List Nat) : Option (List Nat) := if t.length ≤ 16384 then app o (Pk.textB t) else none
theorem app_app (o : Option (List Nat)) (a b : List Nat) : app (app o a) b = app o (a ++ b) := by cases o <;> simp [app]
theorem app_nil (o : Option (List Nat)) : app o [] = o := by cases o <;> simp [app]
theorem lenO_app (o : Option (List Nat)) (m : List Nat) : lenO (app o m) ≤ lenO o + m.length := by cases o <;> simp [app, lenO]
theorem lenO_int (o : Option (List Nat)) (n : Int) : lenO (app o (Pk.intB n)) ≤ lenO o + 10 := by
  have := lenO_app o (Pk.intB n); have := (Pk.intB_len n).2; omega
theorem appT_short {o : Option (List Nat)} {t : List Nat} (h : t.length ≤ 16384) : appT o t = app o (Pk.textB t) := if_pos h
set_option maxRecDepth 100000 in
theorem lenO_appT (o : Option (List Nat)) (t : List Nat) : lenO (appT o t) ≤ lenO o + 16394 := by
  unfold appT
  split
  · have := lenO_app o (Pk.textB t); have := textB_len t; omega
  · simp [lenO]
/-- a Writer at bw beside the blocks of F; w0: the world at the call's start -/
def Yw (w0 wr : World) (bw : Nat) (o : Option (List Nat)) (F : List (Nat × Obj)) : Prop :=
  ∃ S, Pk.St wr bw S o ∧ (∀ k, S k → w0.heap.size ≤ k) ∧ Kept None w0 wr ∧ ∀ x ∈ F, wr.heap[x.1]? = some x.2 ∧ ¬ S x.1
theorem Yw.beh {w0 wr : World} {bw : Nat} {o : Option (List Nat)} {F : List (Nat × Obj)} (h : Yw w0 wr bw o F) : Beh w0 wr := by
  obtain ⟨_, _, _, h, _⟩ := h; exact beh_kept h
theorem Yw.get {w0 wr : World} {bw : Nat} {o : Option (List Nat)} {F : List (Nat × Obj)} (h : Yw w0 wr bw o F) {n : Nat} {ob : Obj} (hx : (n, ob) ∈ F) : wr.heap[n]? = some ob := by
  obtain ⟨_, _, _, _, h⟩ := h; exact (h _ hx).1
theorem Yw.head {w0 wr : World} {bw : Nat} {o : Option (List Nat)} {F : List (Nat × Obj)} {n : Nat} {ob : Obj} (h : Yw w0 wr bw o ((n, ob) :: F)) : wr.heap[n]? = some ob := h.get (List.mem_cons_self ..)
theorem Yw.on {w0 wr w' : World} {bw : Nat} {o : Option (List Nat)} {F : List (Nat × Obj)} (h : Yw w0 wr bw o F) (hb : Beh wr w') : Yw w0 w' bw o F := by
  obtain ⟨S, h1, h2, h3, h4⟩ := h
  exact ⟨S, h1.kept (kept_beh hb) (fun _ _ h => h), h2, h3.trans (kept_beh hb), fun x hx => ⟨hb.box (h4 x hx).1, (h4 x hx).2⟩⟩
theorem Yw.more {w0 wr : World} {bw : Nat} {o : Option (List Nat)} {F : List (Nat × Obj)} (h : Yw w0 wr bw o F) (ob : Obj) : Yw w0 (wr.alloc ob) bw o ((wr.heap.size, ob) :: F) := by
  obtain ⟨S, h1, h2, h3, h4⟩ := h
  have hk : Kept None wr (wr.alloc ob) := (Kept.refl _ _).alloc _
  refine ⟨S, h1.kept hk (fun _ _ h => h), h2, h3.trans hk, fun x hx => ?_⟩
  rcases List.mem_cons.1 hx with rfl | hx
  · exact ⟨alloc_here _ rfl, fun e => by have := h1.lt _ e; omega⟩
  · exact ⟨old_alloc _ (h4 x hx).1, (h4 x hx).2⟩
theorem Yw.less {w0 wr : World} {bw : Nat} {o : Option (List Nat)} {F G : List (Nat × Obj)} (h : Yw w0 wr bw o F) (hg : ∀ x ∈ G, x ∈ F) : Yw w0 wr bw o G := by
  obtain ⟨S, h1, h2, h3, h4⟩ := h
  exact ⟨S, h1, h2, h3, fun x hx => h4 x (hg x hx)⟩
theorem Yw.tail {w0 wr : World} {bw : Nat} {o : Option (List Nat)} {F : List (Nat × Obj)} {y : Nat × Obj} (h : Yw w0 wr bw o (y :: F)) : Yw w0 wr bw o F := h.less fun _ hx => List.mem_cons_of_mem _ hx
theorem Yw.new {T : TypeId} {w0 wr : World} (h : Beh w0 wr) {F : List (Nat × Obj)} (hF : ∀ x ∈ F, wr.heap[x.1]? = some x.2) : Yw w0 (wr.alloc (.cells #[.pointer none, .int .i64 0, .bool false] T)) wr.heap.size (some []) F :=
  ⟨_, (WAt.new wr : Pk.WAt _ _ _ _), fun k hk => by cases hk; exact h.size, (kept_beh h).alloc _, fun x hx => ⟨old_alloc _ (hF x hx), fun e => by
    have h1 : x.1 = wr.heap.size := e
    have := heap_lt (hF x hx); omega⟩⟩
/-- a struct of three that is stored into a block of F -/
theorem Yw.putW {w0 wr w' : World} {bw : Nat} {m : List Nat} {F : List (Nat × Obj)} {S : Nat → Prop} {x : Ending} (h2 : ∀ k, S k → w0.heap.size ≤ k) (h3 : Kept None w0 wr) (h4 : ∀ x ∈ F, wr.heap[x.1]? = some x.2 ∧ ¬ S x.1)
    (hp : Pk.Put bw S m wr x w') : x = .returned (.tuple #[]) ∧ Yw w0 w' bw (some m) F := by
  obtain ⟨hx, p1, p2⟩ := hp
  have hs := h3.size
  refine ⟨hx, _, (p1 : Pk.WAt _ _ _ _), fun k hk => hk.elim (h2 k) (fun h => by omega), h3.trans' p2 (fun x hx => .inr (h2 x hx)), fun x hxF => ?_⟩
  obtain ⟨a, b⟩ := h4 x hxF
  have hlt := heap_lt a
  exact ⟨p2.heap a b, fun e => e.elim b (fun h => by omega)⟩
theorem Yw.putL {w0 wr w' : World} {bw : Nat} {F : List (Nat × Obj)} {S : Nat → Prop} {x : Ending} (h2 : ∀ k, S k → w0.heap.size ≤ k) (h3 : Kept None w0 wr) (h4 : ∀ x ∈ F, wr.heap[x.1]? = some x.2 ∧ ¬ S x.1)
    (hp : Pk.PutL bw S wr x w') : x = .returned (.tuple #[]) ∧ Yw w0 w' bw none F := by
  obtain ⟨hx, p1, p2⟩ := hp
  exact ⟨hx, S, (p1 : Pk.WL _ _ _), h2, h3.trans' p2 (fun x hx => .inr (h2 x hx)), fun x hxF => ⟨p2.heap (h4 x hxF).1 (h4 x hxF).2, (h4 x hxF).2⟩⟩
variable {w0 wr : World} {bw : Nat} {o : Option (List Nat)} {F : List (Nat × Obj)}
theorem yInt (h : Yw w0 wr bw o F) {n : Int} (hn : In64 n) (hl : lenO o ≤ 1000000000) :
    Calls Try.prog 68 #[.pointer (some ⟨bw, 0, none⟩), .int .i64 n] wr fun x w' => x = .returned (.tuple #[]) ∧ Yw w0 w' bw (app o (Pk.intB n)) F := by
  obtain ⟨S, a, b, c, d⟩ := h
  cases o with
  | none => exact (Pk.WInt_long bw S n wr a hn.1 hn.2).mono fun x w' hp => Yw.putL b c d hp
  | some l => exact (Pk.WInt_any bw S l n wr a hn.1 hn.2 (by simp only [lenO] at hl; omega)).mono fun x w' hp => Yw.putW b c d hp
theorem yFlt (h : Yw w0 wr bw o F) {n : Nat} (hl : lenO o ≤ 1000000000) :
    Calls Try.prog 114 #[.pointer (some ⟨bw, 0, none⟩), .float .f64 n] wr fun x w' => x = .returned (.tuple #[]) ∧ Yw w0 w' bw (app o (Pk.fltB n)) F := by
  obtain ⟨S, a, b, c, d⟩ := h
  cases o with
  | none => exact (Pk.WFloat_long bw S n wr a).mono fun x w' hp => Yw.putL b c d hp
  | some l => exact (Pk.WFloat_any bw S l n wr a (by simp only [lenO] at hl; omega)).mono fun x w' hp => Yw.putW b c d hp
theorem yMark (h : Yw w0 wr bw o F) {n : Bool} (hl : lenO o ≤ 1000000000) :
    Calls Try.prog 94 #[.pointer (some ⟨bw, 0, none⟩), .bool n] wr fun x w' => x = .returned (.tuple #[]) ∧ Yw w0 w' bw (app o (Pk.markB n)) F := by
  obtain ⟨S, a, b, c, d⟩ := h
  cases o with
  | none => exact (Pk.WMark_long bw S n wr a).mono fun x w' hp => Yw.putL b c d hp
  | some l => exact (Pk.WMark_any bw S l n wr a (by simp only [lenO] at hl; omega)).mono fun x w' hp => Yw.putW b c d hp
/-- Text of bytes that were there at the start -/
theorem yText (h : Yw w0 wr bw o F) {b2 cap2 : Nat} {a2 : Option Addr} {t : List Nat} (hs : Src w0 b2 a2 cap2 t) (h8 : B8 t) (ht : t.length ≤ 100000) (hl : lenO o ≤ 1000000000) :
    Calls Try.prog 87 #[.pointer (some ⟨bw, 0, none⟩), .slice a2 t.length cap2] wr fun x w' => x = .returned (.tuple #[]) ∧ Yw w0 w' bw (appT o t) F := by
  obtain ⟨S, a, b, c, d⟩ := h
  have hs2 := hs.kept c (fun _ h => h)
  have hs3 : t ≠ [] → ¬ S b2 := fun ht e => by have := hs.lt ht; have := b _ e; omega
  unfold appT
  by_cases h16 : t.length ≤ 16384
  · rw [if_pos h16]
    cases o with
    | none => exact (Pk.WText_long bw S wr a a2 cap2 t.length h16).mono fun x w' hp => Yw.putL b c d hp
    | some l => exact (Pk.WText_any bw S l wr a b2 a2 cap2 t hs2 hs3 h8 h16 (by simp only [lenO] at hl; omega)).mono fun x w' hp => Yw.putW b c d hp
  · rw [if_neg h16]
    obtain ⟨T, v0, v1, v2, hh⟩ : ∃ (T : TypeId) (v0 v1 v2 : Value), wr.heap[bw]? = some (.cells #[v0, v1, v2] T (0, 0)) := by
      cases o with
      | none => obtain ⟨T, h3⟩ := a.2.2; exact ⟨_, _, _, _, h3⟩
      | some l =>
        obtain ⟨_, _, _, T, h3⟩ := a
        rcases h3 with ⟨hh, _⟩ | ⟨bp, bd, a, cap, hh, _⟩
        · exact ⟨_, _, _, _, hh⟩
        · exact ⟨_, _, _, _, hh⟩
    have hS : S bw := by
      cases o with
      | none => exact a.1
      | some l => exact a.1
    exact (Pk.WText_over bw S wr v0 v1 v2 hS a.lt hh a2 cap2 t.length (by omega) (by omega)).mono fun x w' hp => Yw.putL b c d hp
/-- Text of a string's bytes -/
theorem yStr (h : Yw w0 wr bw o F) (s : ByteArray) (hs : s.size ≤ 16384) (hl : lenO o ≤ 1000000000) {w2 : World} {n cap : Nat} (hw : w2 = Lib.bytesWorld wr 5 s) (hn : n = wr.heap.size) (hc : cap = grownCap wr s.size 0 5) :
    Calls Try.prog 87 #[.pointer (some ⟨bw, 0, none⟩), .slice (some ⟨n, 0, none⟩) s.size cap] w2 fun x w' => x = .returned (.tuple #[]) ∧ Yw w0 w' bw (app o (Pk.textB (bl s))) F := by
  subst hw hn hc
  have hb := bytesW_beh wr s
  obtain ⟨S, a, b, c, d⟩ := h
  have a2 := a.kept (kept_beh hb) (fun _ _ h => h)
  have d2 : ∀ x ∈ F, (Lib.bytesWorld wr 5 s).heap[x.1]? = some x.2 ∧ ¬ S x.1 := fun x hx => ⟨hb.box (d x hx).1, (d x hx).2⟩
  have hne : bl s ≠ [] → ¬ S wr.heap.size := fun _ e => by have := a.lt _ e; omega
  cases o with
  | none =>
    refine (Pk.WText_long bw S _ a2 _ _ s.size hs).mono fun x w' hp => Yw.putL b (c.trans (kept_beh hb)) d2 hp
  | some l =>
    have := Pk.WText_any bw S l (Lib.bytesWorld wr 5 s) a2 wr.heap.size _ _ (bl s) (bytesW_src wr s hs).src hne (bl_b8 s) (by rw [bl_length]; exact hs) (by simp only [lenO] at hl; omega)
    rw [bl_length] at this
    exact this.mono fun x w' hp => Yw.putW b (c.trans (kept_beh hb)) d2 hp
/-- Bytes -/
theorem yBytes {l : List Nat} (h : Yw w0 wr bw (some l) F) (hl : l.length ≤ 1000000000) :
    Calls Try.prog 65 #[.pointer (some ⟨bw, 0, none⟩)] wr fun x w' => ∃ b a cap, x = .returned (.tuple #[.slice a l.length cap, .int .i64 0]) ∧ OwnB 5 w' b a cap l ∧ wr.heap.size ≤ b ∧ Beh wr w' := by
  obtain ⟨S, a, b, c, d⟩ := h
  exact (Pk.WBytes_any bw S l wr a (by omega)).mono fun x w' ⟨b, a, cap, hx, ho, hb, _, hk⟩ => ⟨b, a, cap, hx, ho, hb, beh_kept hk⟩
theorem yBytes_long (h : Yw w0 wr bw none F) :
    Calls Try.prog 65 #[.pointer (some ⟨bw, 0, none⟩)] wr fun x w' => x = .returned (.tuple #[.slice none 0 0, .int .i64 2]) ∧ wr = w' := by
  obtain ⟨S, a, b, c, d⟩ := h
  exact Pk.Bytes_long bw wr a.2.2
/-- what is thrown -/
def thr : List PanicEntry := [{ v := .iface 36 (.int .i64 3), recovered := false }]
/-- what a step of the writer leaves: none: it was thrown -/
def Wrote (w0 : World) (bw : Nat) (F : List (Nat × Obj)) (r : Option (Option (List Nat))) (x : Ending) (w' : World) : Prop :=
  match r with
  | some o => x = .returned (.tuple #[]) ∧ Yw w0 w' bw o F
  | none => x = .panicked thr ∧ ∃ o, Yw w0 w' bw o F
theorem Wrote.ok {o2 : Option (List Nat)} {r : Option (Option (List Nat))} {w' : World} (h : Yw w0 w' bw o2 F) (hr : r = some o2) : Wrote w0 bw F r (.returned (.tuple #[])) w' := by subst hr; exact ⟨rfl, h⟩
theorem Wrote.no {o2 : Option (List Nat)} {r : Option (Option (List Nat))} {w' : World} (h : Yw w0 w' bw o2 F) (hr : r = none) : Wrote w0 bw F r (.panicked thr) w' := by subst hr; exact ⟨rfl, _, h⟩
set_option maxRecDepth 100000 in
theorem must_ok (w : World) : Calls Try.prog 66 #[.bool true] w fun e w' => e = .returned (.tuple #[]) ∧ w = w' := by
  go_enter Try.func66, Try.ntmps66
  go_wp2
  go_end0
  exact ⟨rfl, rfl⟩
set_option maxRecDepth 100000 in
theorem must_not (w : World) : Calls Try.prog 66 #[.bool false] w fun e w' => e = .panicked thr ∧ w = w' := by
  go_enter Try.func66, Try.ntmps66
  go_wp2
  exact ⟨rfl, rfl, rfl⟩
end Go.Proofs.Ytjdebdfbjcpjgaa.Wr
end
