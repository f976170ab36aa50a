import Derived.Test.YtaengjgmchpabaaGreatMergeWr0
import Derived.Test.YtaengjgmchpabaaGreatMergeWr10
section
/- Plain mathematics of layer 9: entries, logs behind a snapshot, what is put, compacted, installed. No program. -/
namespace Go.Proofs.YtaengjgmchpabaaGreat.Lg
open Go Go.RowKit Vl Kv Ss Cn

/-! ### entries -/
structure E where
  term : Int
  kind : Int
  call : Cl
  conf : C
def E.zero : E := ⟨0, 0, Cl.zero, C.zero⟩
instance : Inhabited E := ⟨E.zero⟩
/-- the same, floats by their bits, all NaN being one -/
def Cm.same (a b : Cm) : Bool := (a.kind == b.kind) && decide (a.key = b.key) && a.old.same b.old && a.val.same b.val
def Cl.same (a b : Cl) : Bool := (a.client == b.client) && (a.seq == b.seq) && Cm.same a.cmd b.cmd
theorem Cm.same_refl (a : Cm) : Cm.same a a = true := by unfold Cm.same; simp [V.same, Nm.same]
theorem Cl.same_refl (a : Cl) : Cl.same a a = true := by unfold Cl.same; simp [Cm.same_refl]
def noCall (c : Cl) : Bool := Cl.same c Cl.zero
/-- a call that is right, as a call -/
def callOk (c : Cl) : Bool := (if mayBe c.client c.seq = true then c.cmd.right else 1) == 0
/-- right, but for its term -/
def E.right (x : E) : Bool :=
  if x.kind = 0 then noCall x.call && decide (x.conf = C.zero)
  else if x.kind = 1 then callOk x.call && decide (x.conf = C.zero)
  else if x.kind = 2 then noCall x.call && x.conf.right
  else false
/-- may entries stand behind a term, in a log of this Term? -/
def rowOk : List E → Int → Int → Bool
  | [], _, _ => true
  | x :: r, ahead, most => decide (max ahead 1 ≤ x.term) && decide (x.term ≤ most) && x.right && rowOk r x.term most

/-! ### logs -/
structure H where
  term : Int
  vote : Int
  base : Int
  bterm : Int
  conf : C
  snap : List Nat
  log : List E
def H.zero : H := ⟨0, 0, 0, 0, C.zero, [], []⟩
def numsOk (h : H) : Bool := decide (0 ≤ h.term) && decide (h.term ≤ 1099511627776) && (decide (-1 ≤ h.vote) && decide (h.vote ≤ 6)) && (decide (0 ≤ h.base) && decide (h.base ≤ 1099511627776)) && (decide (0 ≤ h.bterm) && decide (h.bterm ≤ h.term))
def baseOk (h : H) : Bool := (decide (h.base = 0) == decide (h.bterm = 0)) && (decide (h.base ≠ 0) || decide (h.snap.length = 0)) && (decide (h.snap.length ≤ 16384) && h.conf.right)
def H.right (h : H) : Bool := numsOk h && baseOk h && rowOk h.log h.bterm h.term
def H.check (h : H) : Int := if h.right = true then 0 else 6
def begin_ (c : C) : H := ⟨0, -1, 0, 0, c, [], []⟩
def H.last (h : H) : Int := h.base + h.log.length
def lastT (b : Int) : List E → Int
  | [] => b
  | x :: r => lastT x.term r
def H.lastT (h : H) : Int := Lg.lastT h.bterm h.log
/-- is there an entry of that index? -/
def H.has (h : H) (i : Int) : Bool := decide (h.base < i) && decide (i ≤ h.last)
def H.pos (h : H) (i : Int) : Nat := (i - h.base - 1).toNat
def H.entry (h : H) (i : Int) : E := if h.has i = true then h.log.getD (h.pos i) E.zero else E.zero
def H.termOf (h : H) (i : Int) : Int := if i = h.base then h.bterm else if h.has i = true then (h.log.getD (h.pos i) E.zero).term else -1
def H.from_ (h : H) (i most : Int) : List E := if h.has i = true ∧ 1 ≤ most then (h.log.drop (h.pos i)).take most.toNat else []
/-- the configuration in force up to an index: behind k entries -/
def forceK (h : H) (upto : Int) : Nat → C × Int
  | 0 => (h.conf, h.base)
  | k + 1 => if (h.log.getD k E.zero).kind = 2 ∧ h.base + k + 1 ≤ upto then ((h.log.getD k E.zero).conf, h.base + k + 1) else forceK h upto k
def H.force (h : H) (upto : Int) : C × Int := forceK h upto h.log.length
def H.fits (h : H) (i t : Int) : Bool := (t != -1) && (h.termOf i == t)
def H.newer (h : H) (i t : Int) : Bool := decide (h.lastT < t) || (t == h.lastT) && decide (h.last ≤ i)
/-- how many of l stand there already, by their terms -/
def there : List E → List E → Nat
  | x :: r, y :: s => if y.term = x.term then there r s + 1 else 0
  | _, _ => 0
def putL (L : List E) (n : Nat) (l : List E) : List E :=
  (if there (L.drop n) l < l.length then L.take (n + there (L.drop n) l) else L) ++ l.drop (there (L.drop n) l)
def H.off (h : H) (i : Int) : Nat := (i - h.base).toNat
def H.putOk (h : H) (i : Int) (l : List E) : Int := if h.right = false then 6 else if (h.termOf i == -1) || !rowOk l (h.termOf i) h.term then 1 else 0
def H.put (h : H) (i : Int) (l : List E) : H := if h.putOk i l = 0 then { h with log := putL h.log (h.off i) l } else H.zero
def H.instOk (h : H) (i t : Int) (c : C) (s : List Nat) : Int :=
  if h.right = false then 6 else if !(decide (h.base + 1 ≤ i) && decide (i ≤ 1099511627776)) || !(decide (max h.bterm 1 ≤ t) && decide (t ≤ h.term)) then 1 else if c.right = false then 14 else if 16384 < s.length then 2 else 0
def H.inst (h : H) (i t : Int) (c : C) (s : List Nat) : H :=
  if h.instOk i t c s = 0 then ⟨h.term, h.vote, i, t, c, s, if h.fits i t = true then h.log.drop (h.off i) else []⟩ else H.zero
def H.compOk (h : H) (i : Int) (s : List Nat) : Int := if h.right = false then 6 else if !(h.has i) || decide (1099511627776 < i) then 1 else if 16384 < s.length then 2 else 0
def H.comp (h : H) (i : Int) (s : List Nat) : H :=
  if h.compOk i s = 0 then ⟨h.term, h.vote, i, h.termOf i, (h.force i).1, s, h.log.drop (h.off i)⟩ else H.zero
end Go.Proofs.YtaengjgmchpabaaGreat.Lg
end
section
/- Plain mathematics of layer 10: values, commands, calls, configurations, entries, logs, messages as codes. No program. -/
namespace Go.Proofs.YtaengjgmchpabaaGreat.Wr
open Go Go.RowKit Vl Kv Ss Cn Mem Lg
variable {α β : Type}
/-- some things of another kind -/
def Cod.emb (A : Cod α) (f : α → β) (g : β → α) (hg : ∀ a, A.ok a → g (f a) = a) : Cod β where
  enc y := A.enc (g y)
  rd l := match A.rd l with
    | none => none
    | some (a, r) => some (f a, r)
  ok y := A.ok (g y) ∧ f (g y) = y
  sound l h8 y r h := by
    cases ha : A.rd l with
    | none => rw [ha] at h; cases h
    | some p =>
      obtain ⟨a, q⟩ := p
      rw [ha] at h
      simp only at h
      injection h with h
      injection h with h1 h2
      subst h1 h2
      obtain ⟨e1, o1⟩ := A.sound l h8 a q ha
      rw [hg a o1]
      exact ⟨e1, o1, rfl⟩
  comp y r h := by
    rw [A.comp (g y) r h.1]
    simp only
    rw [h.2]
theorem bl_lb {t : List Nat} (h : B8 t) : bl (lb t) = t := by
  unfold bl lb
  show (List.map UInt8.ofNat t).map UInt8.toNat = t
  rw [List.map_map]
  conv => rhs; rw [← List.map_id t]
  refine List.map_congr_left fun x hx => ?_
  have : x < 256 := h x hx
  show (UInt8.ofNat x).toNat = x
  rw [UInt8.toNat_ofNat']
  omega
def cKey : Cod ByteArray := cText.emb lb bl fun _ h => bl_lb h.2
def valPart (k : Int) : Cod (Nat × ByteArray) := if k = 1 then cFlt.emb (fun x => (x, ⟨#[]⟩)) Prod.fst (fun _ _ => rfl) else if k = 2 then cKey.emb (fun t => (0, t)) Prod.snd (fun _ _ => rfl) else if k = 0 then Cod.one (0, ⟨#[]⟩) else Cod.non
def cVal : Cod V := (cInt.sel valPart).as (fun x => ⟨x.1, x.2.1, x.2.2⟩) (fun v => (v.kind, v.num, v.text)) (fun _ => rfl) (fun _ => rfl)
theorem cVal_enc (v : V) : cVal.enc v = valB v := by
  show Pk.intB v.kind ++ (valPart v.kind).enc (v.num, v.text) = _
  unfold valB valPart
  congr 1
  by_cases h1 : v.kind = 1
  · rw [if_pos h1, if_pos h1]; rfl
  · rw [if_neg h1, if_neg h1]
    by_cases h2 : v.kind = 2
    · rw [if_pos h2, if_pos h2]; rfl
    · rw [if_neg h2, if_neg h2]
      split <;> rfl
def cCmd : Cod Cm := (cInt.seq (cKey.seq (cVal.seq cVal))).as (fun x => ⟨x.1, x.2.1, x.2.2.1, x.2.2.2⟩) (fun c => (c.kind, c.key, c.old, c.val)) (fun _ => rfl) (fun _ => rfl)
def cCall : Cod Cl := (cInt.seq (cInt.seq cCmd)).as (fun x => ⟨x.1, x.2.1, x.2.2⟩) (fun c => (c.client, c.seq, c.cmd)) (fun _ => rfl) (fun _ => rfl)
def cConf : Cod C := (cInt.seq (cInt.seq (cInt.seq cInt))).as (fun x => ⟨x.1, x.2.1, x.2.2.1, x.2.2.2⟩) (fun c => (c.f, c.w, c.l, c.x)) (fun _ => rfl) (fun _ => rfl)
def entPart (k : Int) : Cod (Cl × C) := if k = 1 then cCall.emb (fun c => (c, C.zero)) Prod.fst (fun _ _ => rfl) else if k = 2 then cConf.emb (fun c => (Cl.zero, c)) Prod.snd (fun _ _ => rfl) else if k = 0 then Cod.one (Cl.zero, C.zero) else Cod.non
def cEnt : Cod E := ((cInt.seq cInt).sel (fun x => entPart x.2)).as (fun x => ⟨x.1.1, x.1.2, x.2.1, x.2.2⟩) (fun e => ((e.term, e.kind), e.call, e.conf)) (fun _ => rfl) (fun _ => rfl)
/-- a list: how many, and these; P: how many there may be -/
def cList (A : Cod α) (P : Int → Bool) : Cod (List α) := (cInt.sel (fun n => if 0 ≤ n ∧ P n = true then A.rep n.toNat else Cod.non)).emb Prod.snd (fun L => ((L.length : Int), L)) fun x h => by
  obtain ⟨n, L⟩ := x
  have h2 := h.2
  by_cases hn : 0 ≤ n ∧ P n = true
  · simp only [if_pos hn] at h2
    have := (rep_ok.1 h2).1
    have e : (L.length : Int) = n := by omega
    simp only [e]
  · simp only [if_neg hn] at h2
    exact (h2 : False).elim
theorem cList_enc (A : Cod α) {P : Int → Bool} {L : List α} (h : P L.length = true) : (cList A P).enc L = Pk.intB L.length ++ L.flatMap A.enc := by
  show Pk.intB L.length ++ (if 0 ≤ (L.length : Int) ∧ P L.length = true then A.rep (L.length : Int).toNat else Cod.non).enc L = _
  rw [if_pos ⟨by omega, h⟩, rep_enc (by simp)]
theorem cList_ok (A : Cod α) {P : Int → Bool} {L : List α} : (cList A P).ok L ↔ In64 L.length ∧ P L.length = true ∧ ∀ x ∈ L, A.ok x := by
  show ((In64 L.length ∧ (if 0 ≤ (L.length : Int) ∧ P L.length = true then A.rep (L.length : Int).toNat else Cod.non).ok L) ∧ L = L) ↔ _
  by_cases h : P L.length = true
  · rw [if_pos ⟨by omega, h⟩, rep_ok]
    exact ⟨fun x => ⟨x.1.1, h, x.1.2.2⟩, fun x => ⟨⟨x.1, by simp, x.2.2⟩, rfl⟩⟩
  · rw [if_neg (fun x => h x.2)]
    exact ⟨fun x => (x.1.2 : False).elim, fun x => absurd x.2.1 h⟩
def cHard : Cod H := (cInt.seq (cInt.seq (cInt.seq (cInt.seq (cConf.seq (cText.seq (cList cEnt (fun _ => true)))))))).as
  (fun x => ⟨x.1, x.2.1, x.2.2.1, x.2.2.2.1, x.2.2.2.2.1, x.2.2.2.2.2.1, x.2.2.2.2.2.2⟩) (fun h => (h.term, h.vote, h.base, h.bterm, h.conf, h.snap, h.log)) (fun _ => rfl) (fun _ => rfl)
/-- a message but for its inner ones -/
structure Fl where
  kind : Int
  from_ : Int
  to : Int
  term : Int
  index : Int
  logt : Int
  commit : Int
  round : Int
  yes : Bool
  ents : List E
  conf : C
  snap : List Nat
def cHead : Cod Fl := (cInt.seq (cInt.seq (cInt.seq (cInt.seq (cInt.seq (cInt.seq (cInt.seq (cInt.seq (cMark.seq ((cList cEnt (fun n => decide (n ≤ 8))).seq (cConf.seq cText))))))))))).as
  (fun x => ⟨x.1, x.2.1, x.2.2.1, x.2.2.2.1, x.2.2.2.2.1, x.2.2.2.2.2.1, x.2.2.2.2.2.2.1, x.2.2.2.2.2.2.2.1, x.2.2.2.2.2.2.2.2.1, x.2.2.2.2.2.2.2.2.2.1, x.2.2.2.2.2.2.2.2.2.2.1, x.2.2.2.2.2.2.2.2.2.2.2⟩)
  (fun m => (m.kind, m.from_, m.to, m.term, m.index, m.logt, m.commit, m.round, m.yes, m.ents, m.conf, m.snap)) (fun _ => rfl) (fun _ => rfl)
/-- a number that is nought -/
def cNone : Cod Unit := (cInt.sel (fun n => if n = 0 then Cod.one () else Cod.non)).emb (fun _ => ()) (fun _ => (0, ())) fun x h => by
  obtain ⟨n, u⟩ := x
  have h2 := h.2
  by_cases hn : n = 0
  · subst hn; rfl
  · simp only [if_neg hn] at h2
    exact (h2 : False).elim
def cInner : Cod Fl := (cHead.seq cNone).as (fun x => x.1) (fun m => (m, ())) (fun _ => rfl) (fun _ => rfl)
structure Me where
  head : Fl
  inner : List Fl
def cMsg : Cod Me := (cHead.seq (cList cInner (fun n => decide (n ≤ 16)))).as (fun x => ⟨x.1, x.2⟩) (fun m => (m.head, m.inner)) (fun _ => rfl) (fun _ => rfl)

/-! ### all bytes -/
def Cod.all (A : Cod α) (b : List Nat) : Option α := match A.rd b with
  | some (x, []) => if b.length ≤ 16384 then some x else none
  | _ => none
theorem all_enc (A : Cod α) {x : α} (h : A.ok x) (hl : (A.enc x).length ≤ 16384) : A.all (A.enc x) = some x := by
  unfold Cod.all
  have := A.comp x [] h
  rw [List.append_nil] at this
  rw [this]
  simp only
  rw [if_pos hl]
theorem all_sound (A : Cod α) {b : List Nat} {x : α} (h8 : B8 b) (h : A.all b = some x) : b = A.enc x ∧ A.ok x ∧ b.length ≤ 16384 := by
  unfold Cod.all at h
  cases hd : A.rd b with
  | none => rw [hd] at h; cases h
  | some p =>
    obtain ⟨y, r⟩ := p
    rw [hd] at h
    cases r with
    | cons z s => simp at h
    | nil =>
      simp only at h
      by_cases hl : b.length ≤ 16384
      · rw [if_pos hl] at h
        injection h with h
        subst h
        obtain ⟨e, o⟩ := A.sound b h8 y [] hd
        exact ⟨by rw [List.append_nil] at e; exact e, o, hl⟩
      · rw [if_neg hl] at h; cases h
theorem enc_inj (A : Cod α) {x y : α} (hx : A.ok x) (hy : A.ok y) {d : List Nat} (e : A.enc x ++ d = A.enc y) : x = y ∧ d = [] := by
  have h1 := A.comp x d hx
  have h2 := A.comp y [] hy
  rw [List.append_nil] at h2
  rw [e, h2] at h1
  injection h1 with h1
  injection h1 with h1 h3
  exact ⟨h1.symm, h3.symm⟩
/-- a strict beginning, and something more, is none -/
theorem all_cut (A : Cod α) {x : α} (hx : A.ok x) {c d : List Nat} (h8 : B8 c) (e : c ++ d = A.enc x) (hd : d ≠ []) : A.all c = none := by
  cases h : A.all c with
  | none => rfl
  | some y =>
    obtain ⟨e2, o, _⟩ := all_sound A h8 h
    rw [e2] at e
    exact absurd (enc_inj A o hx e).2 hd
theorem all_more (A : Cod α) {x : α} (hx : A.ok x) {d : List Nat} (h8 : B8 (A.enc x ++ d)) (hd : d ≠ []) : A.all (A.enc x ++ d) = none := by
  cases h : A.all (A.enc x ++ d) with
  | none => rfl
  | some y =>
    obtain ⟨e2, o, _⟩ := all_sound A h8 h
    exact absurd (enc_inj A hx o e2).2 hd
end Go.Proofs.YtaengjgmchpabaaGreat.Wr
end
section
/- Plain: what may be written, as the tests of it; what codes take. No program. -/
namespace Go.Proofs.YtaengjgmchpabaaGreat.Wr
open Go Go.RowKit Vl Kv Ss Cn Mem Lg
def okV (v : V) : Bool := decide (0 ≤ v.kind) && decide (v.kind ≤ 2) && (decide (v.kind = 2) || decide (v.text = ⟨#[]⟩)) && (if v.kind = 1 then Nm.canon v.num == v.num else v.num == 0)
def okE (x : E) : Bool := decide (0 ≤ x.kind) && decide (x.kind ≤ 2) && (decide (x.kind = 1) || noCall x.call) && (decide (x.kind = 2) || decide (x.conf = C.zero)) && (!decide (x.kind = 1) || (okV x.call.cmd.old && okV x.call.cmd.val))
theorem same_zeroW {a : Nat} (h : Nm.same a 0 = true) : a = 0 := by
  have h0 : Nm.canon 0 = 0 := by decide
  unfold Nm.same at h
  rw [decide_eq_true_eq, h0] at h
  unfold Nm.canon at h
  split at h
  · cases h
  · exact h
theorem vsame_zeroW {v : V} (h : v.same V.zero = true) : v = V.zero := by
  unfold V.same at h
  rw [Bool.and_eq_true, Bool.and_eq_true, decide_eq_true_eq, decide_eq_true_eq] at h
  exact V.ext h.1.1 (same_zeroW h.1.2) h.2
theorem noCall_iff {c : Cl} : noCall c = true ↔ c = Cl.zero := by
  constructor
  · intro h
    unfold noCall Cl.same Cm.same at h
    simp only [Bool.and_eq_true, beq_iff_eq, decide_eq_true_eq] at h
    obtain ⟨⟨h1, h2⟩, ⟨⟨h3, h4⟩, h5⟩, h6⟩ := h
    obtain ⟨cl, sq, ⟨kd, ky, o, v⟩⟩ := c
    have e1 := vsame_zeroW h5
    have e2 := vsame_zeroW h6
    simp only at h1 h2 h3 h4 e1 e2
    rw [h1, h2, h3, h4, e1, e2]
    rfl
  · rintro rfl; exact Cl.same_refl _
/-- a value that a program may hold, its text no longer than may be written -/
structure FitV (v : V) : Prop where
  kind : In64 v.kind
  num : v.num < 18446744073709551616
  text : v.text.size ≤ 16384
theorem valPart_1 : valPart 1 = cFlt.emb (fun x => (x, ⟨#[]⟩)) Prod.fst (fun _ _ => rfl) := rfl
theorem cKey_ok {t : ByteArray} : cKey.ok t ↔ t.size ≤ 16384 := by
  show (((bl t).length ≤ 16384 ∧ B8 (bl t)) ∧ lb (bl t) = t) ↔ _
  rw [bl_length, lb_bl]
  exact ⟨fun h => h.1.1, fun h => ⟨⟨h, bl_b8 t⟩, rfl⟩⟩
theorem cVal_ok {v : V} (h : FitV v) : cVal.ok v ↔ okV v = true := by
  obtain ⟨k, n, t⟩ := v
  obtain ⟨hk, hn, ht⟩ := h
  show (In64 k ∧ (valPart k).ok (n, t)) ↔ _
  simp only at hk hn ht
  unfold okV valPart
  simp only [Bool.and_eq_true, Bool.or_eq_true, decide_eq_true_eq]
  by_cases h1 : k = 1
  · subst h1
    rw [if_pos rfl, if_pos rfl]
    show (_ ∧ ((n < 18446744073709551616 ∧ Nm.canon n = n) ∧ (n, (⟨#[]⟩ : ByteArray)) = (n, t))) ↔ _
    rw [beq_iff_eq]
    constructor
    · rintro ⟨_, ⟨_, h3⟩, h4⟩
      injection h4 with _ h4
      exact ⟨⟨by omega, .inr h4.symm⟩, h3⟩
    · rintro ⟨⟨_, h4⟩, h3⟩
      rcases h4 with h4 | h4
      · exact absurd h4 (by decide)
      · exact ⟨hk, ⟨hn, h3⟩, by rw [h4]⟩
  · rw [if_neg h1, if_neg h1, beq_iff_eq]
    by_cases h2 : k = 2
    · subst h2
      rw [if_pos rfl]
      show (_ ∧ (cKey.ok t ∧ ((0 : Nat), t) = (n, t))) ↔ _
      rw [cKey_ok]
      constructor
      · rintro ⟨_, _, h4⟩
        injection h4 with h4 _
        exact ⟨⟨by omega, .inl rfl⟩, h4.symm⟩
      · rintro ⟨_, h4⟩
        exact ⟨hk, ht, by rw [h4]⟩
    · rw [if_neg h2]
      by_cases h0 : k = 0
      · subst h0
        rw [if_pos rfl]
        show (_ ∧ (n, t) = ((0 : Nat), (⟨#[]⟩ : ByteArray))) ↔ _
        constructor
        · rintro ⟨_, h4⟩
          injection h4 with h4 h5
          exact ⟨⟨by omega, .inr h5⟩, h4⟩
        · rintro ⟨⟨_, h5⟩, h4⟩
          rcases h5 with h5 | h5
          · exact absurd h5 h2
          · exact ⟨hk, by rw [h4, h5]⟩
      · rw [if_neg h0]
        constructor
        · rintro ⟨_, h4⟩; exact (h4 : False).elim
        · rintro ⟨⟨h4, _⟩, _⟩; omega
structure FitCl (c : Cl) : Prop where
  client : In64 c.client
  seq : In64 c.seq
  kind : In64 c.cmd.kind
  key : c.cmd.key.size ≤ 16384
  old : FitV c.cmd.old
  val : FitV c.cmd.val
structure FitC (c : C) : Prop where
  f : In64 c.f
  w : In64 c.w
  l : In64 c.l
  x : In64 c.x
structure FitE (x : E) : Prop where
  term : In64 x.term
  kind : In64 x.kind
  call : FitCl x.call
  conf : FitC x.conf
theorem cCall_ok {c : Cl} (h : FitCl c) : cCall.ok c ↔ okV c.cmd.old = true ∧ okV c.cmd.val = true := by
  show (In64 c.client ∧ In64 c.seq ∧ (In64 c.cmd.kind ∧ cKey.ok c.cmd.key ∧ cVal.ok c.cmd.old ∧ cVal.ok c.cmd.val)) ↔ _
  rw [cKey_ok, cVal_ok h.old, cVal_ok h.val]
  exact ⟨fun x => x.2.2.2.2, fun x => ⟨h.client, h.seq, h.kind, h.key, x⟩⟩
theorem cConf_ok {c : C} (h : FitC c) : cConf.ok c := ⟨h.f, h.w, h.l, h.x⟩
theorem cEnt_ok {x : E} (h : FitE x) : cEnt.ok x ↔ okE x = true := by
  obtain ⟨t, k, c, f⟩ := x
  obtain ⟨ht, hk, hc, hf⟩ := h
  show ((In64 t ∧ In64 k) ∧ (entPart k).ok (c, f)) ↔ _
  simp only at ht hk hc hf
  unfold okE entPart
  simp only [Bool.and_eq_true, Bool.or_eq_true, decide_eq_true_eq, Bool.not_eq_true', decide_eq_false_iff_not, noCall_iff]
  by_cases h1 : k = 1
  · subst h1
    rw [if_pos rfl]
    show (_ ∧ (cCall.ok c ∧ (c, C.zero) = (c, f))) ↔ _
    rw [cCall_ok hc]
    constructor
    · rintro ⟨_, h3, h4⟩
      injection h4 with _ h4
      exact ⟨⟨⟨by omega, .inl rfl⟩, .inr h4.symm⟩, .inr h3⟩
    · rintro ⟨⟨_, h4⟩, h3⟩
      rcases h4 with h4 | h4
      · exact absurd h4 (by decide)
      · rcases h3 with h3 | h3
        · exact absurd rfl h3
        · exact ⟨⟨ht, hk⟩, h3, by rw [h4]⟩
  · rw [if_neg h1]
    by_cases h2 : k = 2
    · subst h2
      rw [if_pos rfl]
      show (_ ∧ (cConf.ok f ∧ (Cl.zero, f) = (c, f))) ↔ _
      constructor
      · rintro ⟨_, _, h4⟩
        injection h4 with h4 _
        exact ⟨⟨⟨by omega, .inr h4.symm⟩, .inl rfl⟩, .inl (by decide)⟩
      · rintro ⟨⟨⟨_, h4⟩, _⟩, _⟩
        rcases h4 with h4 | h4
        · exact absurd h4 (by decide)
        · exact ⟨⟨ht, hk⟩, cConf_ok hf, by rw [h4]⟩
    · rw [if_neg h2]
      by_cases h0 : k = 0
      · subst h0
        rw [if_pos rfl]
        show (_ ∧ (c, f) = (Cl.zero, C.zero)) ↔ _
        constructor
        · rintro ⟨_, h4⟩
          injection h4 with h4 h5
          exact ⟨⟨⟨by omega, .inr h4⟩, .inr h5⟩, .inl (by decide)⟩
        · rintro ⟨⟨⟨_, h4⟩, h5⟩, _⟩
          rcases h4 with h4 | h4
          · exact absurd h4 (by decide)
          · rcases h5 with h5 | h5
            · exact absurd h5 (by decide)
            · exact ⟨⟨ht, hk⟩, by rw [h4, h5]⟩
      · rw [if_neg h0]
        constructor
        · rintro ⟨_, h4⟩; exact (h4 : False).elim
        · rintro ⟨⟨⟨h4, _⟩, _⟩, _⟩; omega
def okL (L : List E) : Bool := L.all okE
structure FitL (L : List E) : Prop where
  len : In64 L.length
  all : ∀ x ∈ L, FitE x
structure FitT (t : List Nat) : Prop where
  len : t.length ≤ 16384
  b8 : B8 t
theorem cEnts_ok {L : List E} {P : Int → Bool} (h : FitL L) : (cList cEnt P).ok L ↔ P L.length = true ∧ okL L = true := by
  rw [cList_ok]
  unfold okL
  rw [List.all_eq_true]
  constructor
  · rintro ⟨_, h2, h3⟩
    exact ⟨h2, fun x hx => (cEnt_ok (h.all x hx)).1 (h3 x hx)⟩
  · rintro ⟨h2, h3⟩
    exact ⟨h.len, h2, fun x hx => (cEnt_ok (h.all x hx)).2 (h3 x hx)⟩
structure FitH (h : H) : Prop where
  term : In64 h.term
  vote : In64 h.vote
  base : In64 h.base
  bterm : In64 h.bterm
  conf : FitC h.conf
  snap : FitT h.snap
  log : FitL h.log
theorem cHard_ok {h : H} (x : FitH h) : cHard.ok h ↔ okL h.log = true := by
  show (In64 h.term ∧ In64 h.vote ∧ In64 h.base ∧ In64 h.bterm ∧ cConf.ok h.conf ∧ cText.ok h.snap ∧ (cList cEnt (fun _ => true)).ok h.log) ↔ _
  rw [cEnts_ok x.log]
  exact ⟨fun y => y.2.2.2.2.2.2.2, fun y => ⟨x.term, x.vote, x.base, x.bterm, cConf_ok x.conf, ⟨x.snap.len, x.snap.b8⟩, rfl, y⟩⟩
structure FitF (m : Fl) : Prop where
  kind : In64 m.kind
  from_ : In64 m.from_
  to : In64 m.to
  term : In64 m.term
  index : In64 m.index
  logt : In64 m.logt
  commit : In64 m.commit
  round : In64 m.round
  ents : FitL m.ents
  conf : FitC m.conf
  snap : FitT m.snap
def okF (m : Fl) : Bool := decide ((m.ents.length : Int) ≤ 8) && okL m.ents
theorem cHead_ok {m : Fl} (x : FitF m) : cHead.ok m ↔ okF m = true := by
  show (In64 m.kind ∧ In64 m.from_ ∧ In64 m.to ∧ In64 m.term ∧ In64 m.index ∧ In64 m.logt ∧ In64 m.commit ∧ In64 m.round ∧ True ∧ (cList cEnt (fun n => decide (n ≤ 8))).ok m.ents ∧ cConf.ok m.conf ∧ cText.ok m.snap) ↔ _
  rw [cEnts_ok x.ents]
  unfold okF
  rw [Bool.and_eq_true]
  exact ⟨fun y => y.2.2.2.2.2.2.2.2.2.1, fun y => ⟨x.kind, x.from_, x.to, x.term, x.index, x.logt, x.commit, x.round, trivial, y, cConf_ok x.conf, x.snap.len, x.snap.b8⟩⟩
structure FitMe (m : Me) : Prop where
  head : FitF m.head
  len : In64 m.inner.length
  inner : ∀ f ∈ m.inner, FitF f
def okMe (m : Me) : Bool := okF m.head && decide ((m.inner.length : Int) ≤ 16) && m.inner.all okF
theorem cInner_ok {f : Fl} (x : FitF f) : cInner.ok f ↔ okF f = true := by
  show (cHead.ok f ∧ ((In64 0 ∧ (if (0 : Int) = 0 then Cod.one () else Cod.non).ok ()) ∧ () = ())) ↔ _
  rw [cHead_ok x]
  exact ⟨fun y => y.1, fun y => ⟨y, ⟨⟨by decide, by decide⟩, by rw [if_pos rfl]; rfl⟩, rfl⟩⟩
theorem cMsg_ok {m : Me} (x : FitMe m) : cMsg.ok m ↔ okMe m = true := by
  show (cHead.ok m.head ∧ (cList cInner (fun n => decide (n ≤ 16))).ok m.inner) ↔ _
  rw [cHead_ok x.head, cList_ok]
  unfold okMe
  rw [Bool.and_eq_true, Bool.and_eq_true, List.all_eq_true]
  constructor
  · rintro ⟨h1, _, h2, h3⟩
    exact ⟨⟨h1, h2⟩, fun f hf => (cInner_ok (x.inner f hf)).1 (h3 f hf)⟩
  · rintro ⟨⟨h1, h2⟩, h3⟩
    exact ⟨h1, x.len, h2, fun f hf => (cInner_ok (x.inner f hf)).2 (h3 f hf)⟩
end Go.Proofs.YtaengjgmchpabaaGreat.Wr
end
section
/- Plain: what is written is bytes; how long it is. No program. -/
namespace Go.Proofs.YtaengjgmchpabaaGreat.Wr
open Go Go.RowKit Vl Kv Ss Cn Mem Lg
variable {α β : Type}
/-- what may be written is bytes -/
def Cod.B (A : Cod α) : Prop := ∀ x, A.ok x → B8 (A.enc x)
theorem Cod.B.seq {A : Cod α} {C : Cod β} (a : A.B) (c : C.B) : (A.seq C).B := fun x h => B8.append (a x.1 h.1) (c x.2 h.2)
theorem Cod.B.as {A : Cod α} (a : A.B) (f : α → β) (g : β → α) (hf : ∀ b, f (g b) = b) (hg : ∀ a, g (f a) = a) : (A.as f g hf hg).B := fun y h => a (g y) h
theorem Cod.B.emb {A : Cod α} (a : A.B) (f : α → β) (g : β → α) (hg : ∀ a, A.ok a → g (f a) = a) : (A.emb f g hg).B := fun y h => a (g y) h.1
theorem Cod.B.sel {A : Cod α} {C : α → Cod β} (a : A.B) (c : ∀ x, (C x).B) : (A.sel C).B := fun x h => B8.append (a x.1 h.1) (c x.1 x.2 h.2)
theorem Cod.B.one (c : α) : (Cod.one c).B := fun _ _ => B8.nil
theorem Cod.B.non : (Cod.non : Cod α).B := fun _ h => (h : False).elim
theorem Cod.B.rep {A : Cod α} (a : A.B) (n : Nat) : (A.rep n).B := by
  induction n with
  | zero => exact fun _ _ => B8.nil
  | succ n ih =>
    intro L h
    cases L with
    | nil => exact (h : False).elim
    | cons x r => exact B8.append (a x h.1) (ih r h.2)
theorem cInt_B : cInt.B := fun x _ => Pk.intB_b8 x
theorem cMark_B : cMark.B := fun x _ => by
  intro y hy
  have hy : y ∈ [if x then 1 else 0] := hy
  rw [List.mem_singleton] at hy
  subst hy
  cases x <;> decide
theorem cFlt_B : cFlt.B := fun x _ => fltB_b8 x
theorem cText_B : cText.B := fun _ h => textB_b8 h.2
theorem cKey_B : cKey.B := cText_B.emb _ _ _
theorem valPart_B (k : Int) : (valPart k).B := by
  unfold valPart
  split
  · exact cFlt_B.emb _ _ _
  · split
    · exact cKey_B.emb _ _ _
    · split
      · exact Cod.B.one _
      · exact Cod.B.non
theorem cVal_B : cVal.B := (cInt_B.sel valPart_B).as _ _ _ _
theorem cCmd_B : cCmd.B := (cInt_B.seq (cKey_B.seq (cVal_B.seq cVal_B))).as _ _ _ _
theorem cCall_B : cCall.B := (cInt_B.seq (cInt_B.seq cCmd_B)).as _ _ _ _
theorem cConf_B : cConf.B := (cInt_B.seq (cInt_B.seq (cInt_B.seq cInt_B))).as _ _ _ _
theorem entPart_B (k : Int) : (entPart k).B := by
  unfold entPart
  split
  · exact cCall_B.emb _ _ _
  · split
    · exact cConf_B.emb _ _ _
    · split
      · exact Cod.B.one _
      · exact Cod.B.non
theorem cEnt_B : cEnt.B := ((cInt_B.seq cInt_B).sel (fun x => entPart_B x.2)).as _ _ _ _
theorem cList_B {A : Cod α} (a : A.B) (P : Int → Bool) : (cList A P).B := by
  refine Cod.B.emb (Cod.B.sel cInt_B (fun n => ?_)) _ _ _
  split
  · exact a.rep _
  · exact Cod.B.non
theorem cHard_B : cHard.B := (cInt_B.seq (cInt_B.seq (cInt_B.seq (cInt_B.seq (cConf_B.seq (cText_B.seq (cList_B cEnt_B _))))))).as _ _ _ _
theorem cHead_B : cHead.B := (cInt_B.seq (cInt_B.seq (cInt_B.seq (cInt_B.seq (cInt_B.seq (cInt_B.seq (cInt_B.seq (cInt_B.seq (cMark_B.seq ((cList_B cEnt_B _).seq (cConf_B.seq cText_B))))))))))).as _ _ _ _
theorem cNone_B : cNone.B := by
  refine Cod.B.emb (Cod.B.sel cInt_B (fun n => ?_)) _ _ _
  split
  · exact Cod.B.one _
  · exact Cod.B.non
theorem cInner_B : cInner.B := (cHead_B.seq cNone_B).as _ _ _ _
theorem cMsg_B : cMsg.B := (cHead_B.seq (cList_B cInner_B _)).as _ _ _ _

/-! ### no more entries than bytes -/
theorem flat_ge {f : α → List Nat} {n : Nat} {L : List α} (h : ∀ x ∈ L, n ≤ (f x).length) : L.length * n ≤ (L.flatMap f).length := by
  induction L with
  | nil => simp
  | cons x r ih =>
    rw [List.flatMap_cons, List.length_append, List.length_cons, Nat.succ_mul]
    have := h x (List.mem_cons_self ..)
    have := ih (fun y hy => h y (List.mem_cons_of_mem _ hy))
    omega
theorem cEnt_len (x : E) : 2 ≤ (cEnt.enc x).length := by
  show 2 ≤ ((Pk.intB x.term ++ Pk.intB x.kind) ++ (entPart x.kind).enc (x.call, x.conf)).length
  rw [List.length_append, List.length_append]
  have := (Pk.intB_len x.term).1
  have := (Pk.intB_len x.kind).1
  omega
theorem log_len {l r : List Nat} {L : List E} {P : Int → Bool} (h8 : B8 l) (h : (cList cEnt P).rd l = some (L, r)) : 2 * L.length ≤ l.length := by
  obtain ⟨e, o⟩ := (cList cEnt P).sound l h8 L r h
  rw [cList_enc cEnt ((cList_ok cEnt).1 o).2.1] at e
  have h2 := flat_ge (f := cEnt.enc) (n := 2) (L := L) (fun x _ => cEnt_len x)
  rw [e, List.length_append, List.length_append]
  omega
end Go.Proofs.YtaengjgmchpabaaGreat.Wr
end
