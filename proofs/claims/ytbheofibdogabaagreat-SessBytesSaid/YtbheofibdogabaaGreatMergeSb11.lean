import Derived.Test.YtbheofibdogabaaGreatMergeSb0
import Derived.Test.YtbheofibdogabaaGreatKvMath
import Derived.Test.YtbheofibdogabaaGreatMergeSb10
import Derived.Test.YtbheofibdogabaaGreatMergeSb3
import Derived.Laws.ResultCell
import Derived.Test.YtbheofibdogabaaGreatMergeSb2
import Derived.WideShapes
import Derived.Deep.Quiet
import Derived.Deep.QuietTactic
import Derived.BigQuiet
section
/- Plain mathematics of layer 7: machines, what is right, their bytes, what is read of bytes. No program. -/
namespace Go.Proofs.YtbheofibdogabaaGreat.Ss
open Go Go.RowKit Vl Kv Mem
/-! ### a text's bytes -/
def bl (s : ByteArray) : List Nat := s.data.toList.map UInt8.toNat
def lb (l : List Nat) : ByteArray := ⟨(l.map UInt8.ofNat).toArray⟩
theorem lb_bl (s : ByteArray) : lb (bl s) = s := by
  unfold lb bl
  rw [List.map_map]
  have : (UInt8.ofNat ∘ UInt8.toNat) = id := by funext x; simp
  rw [this, List.map_id]
theorem bl_length (s : ByteArray) : (bl s).length = s.size := by unfold bl; rw [List.length_map]; rfl
theorem bl_b8 (s : ByteArray) : B8 (bl s) := by
  intro x hx
  obtain ⟨y, _, rfl⟩ := List.mem_map.1 hx
  exact y.toNat_lt
theorem bl_lb {l : List Nat} (h : B8 l) : bl (lb l) = l := by
  unfold bl lb
  simp only
  rw [List.map_map]
  induction l with
  | nil => rfl
  | cons x r ih =>
    have h1 := h x (List.mem_cons_self ..)
    rw [List.map_cons, ih (fun y hy => h y (List.mem_cons_of_mem _ hy))]
    congr 1
    show (UInt8.ofNat x).toNat = x
    rw [UInt8.toNat_ofNat']
    omega
theorem lb_nil : lb [] = (⟨#[]⟩ : ByteArray) := rfl
theorem bl_nil : bl (⟨#[]⟩ : ByteArray) = [] := rfl

/-! ### sessions, machines, calls -/
structure Se where
  client : Int
  seq : Int
  code : Int
  val : V
structure Ma where
  pairs : List Pr
  sess : List Se
def Se.zero : Se := ⟨0, 0, 0, V.zero⟩
instance : Inhabited Se := ⟨Se.zero⟩
def Ma.zero : Ma := ⟨[], []⟩
def Se.right (s : Se) : Bool := mayBe s.client s.seq && decide (0 ≤ s.code) && decide (s.code ≤ 16) && decide (s.val.check = 0)
def goodS (S : List Se) (j : Nat) : Bool := (S.getD j Se.zero).right && (decide (j = 0) || decide ((S.getD (j - 1) Se.zero).client < (S.getD j Se.zero).client))
def rightS (S : List Se) : Bool := (List.range S.length).all (goodS S)
def rightM (m : Ma) : Bool := rightP m.pairs && rightS m.sess
theorem Se.right_iff {s : Se} : s.right = true ↔ (1 ≤ s.client ∧ s.client ≤ 4 ∧ 1 ≤ s.seq ∧ s.seq ≤ 1099511627776) ∧ 0 ≤ s.code ∧ s.code ≤ 16 ∧ s.val.check = 0 := by
  unfold Se.right; simp only [Bool.and_eq_true, decide_eq_true_eq, mayBe_iff, and_assoc]
/-- sessions that rise, each right -/
def SrtS (S : List Se) : Prop := (∀ s ∈ S, s.right = true) ∧ S.Pairwise (fun s t => s.client < t.client)
theorem risesS {S : List Se} (h : ∀ j, j < S.length → j = 0 ∨ (S.getD (j - 1) Se.zero).client < (S.getD j Se.zero).client) : S.Pairwise (fun s t => s.client < t.client) := by
  rw [List.pairwise_iff_getElem]
  intro i j hi hj hij
  have key : ∀ d, (hd : i + 1 + d < S.length) → S[i].client < S[i + 1 + d].client := by
    intro d
    induction d with
    | zero =>
      intro hd
      have := (h (i + 1) (by omega)).resolve_left (by omega)
      rw [Nat.add_sub_cancel] at this
      simpa [hi, show i + 1 < S.length by omega] using this
    | succ d ih =>
      intro hd
      have := (h (i + 1 + (d + 1)) (by omega)).resolve_left (by omega)
      have e : i + 1 + (d + 1) - 1 = i + 1 + d := by omega
      rw [e] at this
      refine Int.lt_trans (ih (by omega)) ?_
      simpa [hd, show i + 1 + d < S.length by omega] using this
  have := key (j - (i + 1)) (by omega)
  simpa [show i + 1 + (j - (i + 1)) = j by omega] using this
theorem rightS_iff (S : List Se) : rightS S = true ↔ SrtS S := by
  unfold rightS SrtS
  rw [List.all_eq_true]
  constructor
  · intro h
    refine ⟨fun p hp => ?_, risesS fun j hj => ?_⟩
    · obtain ⟨i, hi, rfl⟩ := List.mem_iff_getElem.1 hp
      have := h i (List.mem_range.2 hi)
      unfold goodS at this
      rw [Bool.and_eq_true] at this
      simpa [hi] using this.1
    · have := h j (List.mem_range.2 hj)
      unfold goodS at this
      rw [Bool.and_eq_true, Bool.or_eq_true, decide_eq_true_eq, decide_eq_true_eq] at this
      exact this.2
  · rintro ⟨h1, h2⟩ j hj
    rw [List.mem_range] at hj
    unfold goodS
    rw [Bool.and_eq_true, Bool.or_eq_true, decide_eq_true_eq, decide_eq_true_eq]
    refine ⟨by have := h1 S[j] (List.getElem_mem hj); simpa [hj] using this, ?_⟩
    by_cases h0 : j = 0
    · exact .inl h0
    · refine .inr ?_
      have := List.pairwise_iff_getElem.1 h2 (j - 1) j (by omega) hj (by omega)
      simpa [hj, show j - 1 < S.length by omega] using this
theorem rightS_false {S : List Se} {i : Nat} (hi : i < S.length) (h : goodS S i = false) : rightS S = false := by
  unfold rightS
  rw [List.all_eq_false]
  exact ⟨i, List.mem_range.2 hi, by rw [h]; simp⟩
/-- at most four -/
theorem SrtS.few {S : List Se} (h : SrtS S) : S.length ≤ 4 := by
  obtain ⟨h1, h2⟩ := h
  have key : ∀ i (hi : i < S.length), (i : Int) + 1 ≤ S[i].client := by
    intro i
    induction i with
    | zero =>
      intro hi
      have := (Se.right_iff.1 (h1 _ (List.getElem_mem hi))).1.1
      simpa using this
    | succ i ih =>
      intro hi
      have a := ih (by omega)
      have b := List.pairwise_iff_getElem.1 h2 i (i + 1) (by omega) hi (by omega)
      omega
  rcases Nat.lt_or_ge 4 S.length with h | h
  · have a := key 4 h
    have b := (Se.right_iff.1 (h1 _ (List.getElem_mem h))).1.2.1
    omega
  · exact h

/-! ### bytes -/
def valB (v : V) : List Nat := Pk.intB v.kind ++ (if v.kind = 1 then Pk.fltB v.num else if v.kind = 2 then Pk.textB (bl v.text) else [])
def prB (p : Pr) : List Nat := Pk.textB (bl p.key) ++ valB p.val
def seB (s : Se) : List Nat := Pk.intB s.client ++ (Pk.intB s.seq ++ (Pk.intB s.code ++ valB s.val))
def encM (m : Ma) : List Nat := Pk.intB m.pairs.length ++ (m.pairs.flatMap prB ++ (Pk.intB m.sess.length ++ m.sess.flatMap seB))
theorem textB_b8 {t : List Nat} (h : B8 t) : B8 (Pk.textB t) := B8.append (Pk.intB_b8 _) h
theorem fltB_b8 (x : Nat) : B8 (Pk.fltB x) := Pk.high8_b8 _
theorem valB_b8 (v : V) : B8 (valB v) := by
  unfold valB
  refine B8.append (Pk.intB_b8 _) ?_
  split
  · exact fltB_b8 _
  · split
    · exact textB_b8 (bl_b8 _)
    · exact B8.nil
theorem prB_b8 (p : Pr) : B8 (prB p) := B8.append (textB_b8 (bl_b8 _)) (valB_b8 _)
theorem seB_b8 (s : Se) : B8 (seB s) := B8.append (Pk.intB_b8 _) (B8.append (Pk.intB_b8 _) (B8.append (Pk.intB_b8 _) (valB_b8 _)))
theorem flat_b8 {α : Type} {f : α → List Nat} (h : ∀ a, B8 (f a)) (L : List α) : B8 (L.flatMap f) := by
  intro x hx
  obtain ⟨a, _, ha⟩ := List.mem_flatMap.1 hx
  exact h a x ha
theorem encM_b8 (m : Ma) : B8 (encM m) := B8.append (Pk.intB_b8 _) (B8.append (flat_b8 prB_b8 _) (B8.append (Pk.intB_b8 _) (flat_b8 seB_b8 _)))
theorem textB_len (t : List Nat) : (Pk.textB t).length ≤ t.length + 10 := by
  unfold Pk.textB; rw [List.length_append]; have := (Pk.intB_len t.length).2; omega
theorem valB_len {v : V} (h : v.text.size ≤ 32) : (valB v).length ≤ 52 := by
  unfold valB
  rw [List.length_append]
  have := (Pk.intB_len v.kind).2
  split
  · have : (Pk.fltB v.num).length = 8 := rfl
    omega
  · split
    · have := textB_len (bl v.text)
      rw [bl_length] at this
      omega
    · simp; omega
theorem short_text {v : V} (h : v.check = 0) : v.text.size ≤ 32 := by
  obtain ⟨h0, h1, h2, _⟩ := check_zero h
  by_cases e : v.kind = 2
  · exact h1 e
  · have := h2 e; omega
theorem prB_len {p : Pr} (h : p.right = true) : (prB p).length ≤ 70 := by
  obtain ⟨_, h1, _, h2⟩ := Pr.right_iff.1 h
  unfold prB
  rw [List.length_append]
  have := textB_len (bl p.key)
  rw [bl_length] at this
  have := valB_len (short_text h2)
  omega
theorem seB_len {s : Se} (h : s.right = true) : (seB s).length ≤ 82 := by
  have h2 := (Se.right_iff.1 h).2.2.2
  unfold seB
  simp only [List.length_append]
  have := valB_len (short_text h2)
  have := (Pk.intB_len s.client).2
  have := (Pk.intB_len s.seq).2
  have := (Pk.intB_len s.code).2
  omega
theorem flat_len {α : Type} {f : α → List Nat} {n : Nat} {L : List α} (h : ∀ a ∈ L, (f a).length ≤ n) : (L.flatMap f).length ≤ L.length * n := by
  induction L with
  | nil => simp
  | cons a r ih =>
    rw [List.flatMap_cons, List.length_append, List.length_cons, Nat.succ_mul]
    have := h a (List.mem_cons_self ..)
    have := ih (fun b hb => h b (List.mem_cons_of_mem _ hb))
    omega
/-- a right machine's parts -/
structure RightM (m : Ma) : Prop where
  pairs : rightP m.pairs = true
  sess : rightS m.sess = true
theorem rightM_iff {m : Ma} : rightM m = true ↔ RightM m := by
  unfold rightM; rw [Bool.and_eq_true]; exact ⟨fun h => ⟨h.1, h.2⟩, fun h => ⟨h.1, h.2⟩⟩
theorem RightM.np {m : Ma} (h : RightM m) : m.pairs.length ≤ 32 := ((rightP_iff _).1 h.pairs).1
theorem RightM.ns {m : Ma} (h : RightM m) : m.sess.length ≤ 4 := ((rightS_iff _).1 h.sess).few
theorem RightM.pr {m : Ma} (h : RightM m) : ∀ p ∈ m.pairs, p.right = true := ((rightP_iff _).1 h.pairs).2.1
theorem RightM.se {m : Ma} (h : RightM m) : ∀ s ∈ m.sess, s.right = true := ((rightS_iff _).1 h.sess).1
theorem RightM.len {m : Ma} (h : RightM m) : (encM m).length ≤ 4000 := by
  unfold encM
  simp only [List.length_append]
  have := flat_len (f := prB) (n := 70) (L := m.pairs) (fun p hp => prB_len (h.pr p hp))
  have := flat_len (f := seB) (n := 82) (L := m.sess) (fun p hp => seB_len (h.se p hp))
  have := h.np
  have := h.ns
  have := (Pk.intB_len (m.pairs.length : Int)).2
  have := (Pk.intB_len (m.sess.length : Int)).2
  omega

/-! ### what is read -/
def rdV (l : List Nat) (e : Int) : V × List Nat × Int :=
  if (Pk.intOut l e).1 = 1 then (⟨(Pk.intOut l e).1, (Pk.fltOut (Pk.intOut l e).2.1 (Pk.intOut l e).2.2).1, ⟨#[]⟩⟩, (Pk.fltOut (Pk.intOut l e).2.1 (Pk.intOut l e).2.2).2)
  else if (Pk.intOut l e).1 = 2 then (⟨(Pk.intOut l e).1, 0, lb (Pk.textOut (Pk.intOut l e).2.1 (Pk.intOut l e).2.2).1⟩, (Pk.textOut (Pk.intOut l e).2.1 (Pk.intOut l e).2.2).2)
  else (⟨(Pk.intOut l e).1, 0, ⟨#[]⟩⟩, (Pk.intOut l e).2)
def rdPr (l : List Nat) (e : Int) : Pr × List Nat × Int :=
  (⟨lb (Pk.textOut l e).1, (rdV (Pk.textOut l e).2.1 (Pk.textOut l e).2.2).1⟩, (rdV (Pk.textOut l e).2.1 (Pk.textOut l e).2.2).2)
def rd3 (l : List Nat) (e : Int) : (Int × Int × Int) × List Nat × Int :=
  let a := Pk.intOut l e
  let b := Pk.intOut a.2.1 a.2.2
  let c := Pk.intOut b.2.1 b.2.2
  ((a.1, b.1, c.1), c.2)
def rdSe (l : List Nat) (e : Int) : Se × List Nat × Int :=
  (⟨(rd3 l e).1.1, (rd3 l e).1.2.1, (rd3 l e).1.2.2, (rdV (rd3 l e).2.1 (rd3 l e).2.2).1⟩, (rdV (rd3 l e).2.1 (rd3 l e).2.2).2)
def rdN {α : Type} (f : List Nat → Int → α × List Nat × Int) (l : List Nat) (e : Int) : Nat → List α × List Nat × Int
  | 0 => ([], l, e)
  | n + 1 => ((rdN f l e n).1 ++ [(f (rdN f l e n).2.1 (rdN f l e n).2.2).1], (f (rdN f l e n).2.1 (rdN f l e n).2.2).2)
theorem rdN_length {α : Type} (f : List Nat → Int → α × List Nat × Int) (l : List Nat) (e : Int) (n : Nat) : (rdN f l e n).1.length = n := by
  induction n with
  | zero => rfl
  | succ n ih => show ((rdN f l e n).1 ++ [_]).length = _; rw [List.length_append, ih]; rfl
def rdP (l : List Nat) : List Pr × List Nat × Int := rdN rdPr (Pk.intOut l 0).2.1 (Pk.intOut l 0).2.2 (min (Pk.intOut l 0).1 32).toNat
def rdS (l : List Nat) (e : Int) : List Se × List Nat × Int := rdN rdSe (Pk.intOut l e).2.1 (Pk.intOut l e).2.2 (min (Pk.intOut l e).1 4).toNat
def readM (l : List Nat) : Ma := ⟨(rdP l).1, (rdS (rdP l).2.1 (rdP l).2.2).1⟩
theorem intOut_enc {n : Int} (h1 : -9223372036854775808 ≤ n) (h2 : n ≤ 9223372036854775807) (r : List Nat) (e : Int) : Pk.intOut (Pk.intB n ++ r) e = (n, r, e) := by
  unfold Pk.intOut; rw [Pk.rdInt_enc h1 h2]
theorem fltOut_enc {x : Nat} (hx : x < 18446744073709551616) (r : List Nat) (e : Int) : Pk.fltOut (Pk.fltB x ++ r) e = (Nm.canon x, r, e) := by
  unfold Pk.fltOut; rw [Pk.rdFlt_enc hx]
theorem textOut_enc {t : List Nat} (h : t.length ≤ 16384) (r : List Nat) (e : Int) : Pk.textOut (Pk.textB t ++ r) e = (t, r, e) := by
  unfold Pk.textOut; rw [Pk.rdText_enc h]
theorem rdV_enc {v : V} (h : v.check = 0) (hn : v.num < 18446744073709551616) (r : List Nat) (e : Int) : rdV (valB v ++ r) e = (v, r, e) := by
  obtain ⟨h0, _, h2, h3, h4⟩ := check_zero h
  have h32 := short_text h
  have hk : -9223372036854775808 ≤ v.kind ∧ v.kind ≤ 9223372036854775807 := by omega
  unfold rdV valB
  rw [List.append_assoc, intOut_enc hk.1 hk.2]
  dsimp only
  by_cases e1 : v.kind = 1
  · rw [if_pos e1, if_pos e1, fltOut_enc hn, h4]
    have := empty_of (h2 (by omega))
    obtain ⟨k, n, t⟩ := v
    simp only at this
    rw [this]
  · rw [if_neg e1, if_neg e1]
    have hz := h3 e1
    by_cases e2 : v.kind = 2
    · rw [if_pos e2, if_pos e2, textOut_enc (by rw [bl_length]; omega), lb_bl]
      obtain ⟨k, n, t⟩ := v
      simp only at hz
      rw [hz]
    · rw [if_neg e2, if_neg e2]
      have := empty_of (h2 e2)
      obtain ⟨k, n, t⟩ := v
      simp only at this hz
      rw [this, hz]
      rfl
theorem rdPr_enc {p : Pr} (h : p.right = true) (hn : p.val.num < 18446744073709551616) (r : List Nat) (e : Int) : rdPr (prB p ++ r) e = (p, r, e) := by
  obtain ⟨_, h1, _, h2⟩ := Pr.right_iff.1 h
  unfold rdPr prB
  rw [List.append_assoc, textOut_enc (by rw [bl_length]; omega)]
  dsimp only
  rw [rdV_enc h2 hn, lb_bl]
theorem rdSe_enc {s : Se} (h : s.right = true) (hn : s.val.num < 18446744073709551616) (r : List Nat) (e : Int) : rdSe (seB s ++ r) e = (s, r, e) := by
  obtain ⟨⟨h1, h2, h3, h4⟩, h5, h6, h7⟩ := Se.right_iff.1 h
  have e3 : rd3 (seB s ++ r) e = ((s.client, s.seq, s.code), valB s.val ++ r, e) := by
    unfold rd3 seB
    simp only [List.append_assoc]
    rw [intOut_enc (by omega) (by omega), intOut_enc (by omega) (by omega), intOut_enc (by omega) (by omega)]
  unfold rdSe
  rw [e3]
  dsimp only
  rw [rdV_enc h7 hn]
theorem rdN_enc {α : Type} {f : List Nat → Int → α × List Nat × Int} {g : α → List Nat} {L : List α} (h : ∀ a ∈ L, ∀ r e, f (g a ++ r) e = (a, r, e)) (r : List Nat) (e : Int) :
    ∀ k, k ≤ L.length → rdN f (L.flatMap g ++ r) e k = (L.take k, (L.drop k).flatMap g ++ r, e) := by
  intro k
  induction k with
  | zero => intro _; rfl
  | succ k ih =>
    intro hk
    have hlt : k < L.length := by omega
    unfold rdN
    rw [ih (by omega)]
    dsimp only
    rw [List.drop_eq_getElem_cons hlt, List.flatMap_cons, List.append_assoc, h _ (List.getElem_mem hlt)]
    rw [List.take_succ_eq_append_getElem hlt]
theorem rdN_all {α : Type} {f : List Nat → Int → α × List Nat × Int} {g : α → List Nat} {L : List α} (h : ∀ a ∈ L, ∀ r e, f (g a ++ r) e = (a, r, e)) (r : List Nat) (e : Int) : rdN f (L.flatMap g ++ r) e L.length = (L, r, e) := by
  rw [rdN_enc h r e L.length (Nat.le_refl _), List.take_length, List.drop_length]
  rfl
/-- floats that are floats -/
structure FitM (m : Ma) : Prop where
  pairs : Fits m.pairs
  sess : ∀ s ∈ m.sess, s.val.num < 18446744073709551616
theorem readM_enc {m : Ma} (h : RightM m) (hf : FitM m) (r : List Nat) : rdP (encM m ++ r) = (m.pairs, Pk.intB m.sess.length ++ (m.sess.flatMap seB ++ r), 0) ∧ rdS (Pk.intB m.sess.length ++ (m.sess.flatMap seB ++ r)) 0 = (m.sess, r, 0) := by
  have hp := h.np
  have hs := h.ns
  constructor
  · unfold rdP encM
    simp only [List.append_assoc]
    rw [intOut_enc (by omega) (by omega)]
    dsimp only
    rw [show (min (m.pairs.length : Int) 32).toNat = m.pairs.length by omega]
    exact rdN_all (fun p hp r e => rdPr_enc (h.pr p hp) (hf.pairs p hp) r e) _ _
  · unfold rdS
    rw [intOut_enc (by omega) (by omega)]
    dsimp only
    rw [show (min (m.sess.length : Int) 4).toNat = m.sess.length by omega]
    exact rdN_all (fun p hp r e => rdSe_enc (h.se p hp) (hf.sess p hp) r e) _ _
theorem readM_eq {m : Ma} (h : RightM m) (hf : FitM m) : readM (encM m) = m := by
  have := readM_enc h hf []
  rw [List.append_nil, List.append_nil] at this
  unfold readM
  rw [this.1]
  dsimp only
  rw [this.2]
/-- right machines of which one's bytes are a beginning of another's are one -/
theorem encM_pre {m n : Ma} (hm : RightM m) (fm : FitM m) (hn : RightM n) (fn : FitM n) {d : List Nat} (e : encM m ++ d = encM n) : m = n ∧ d = [] := by
  have h1 := readM_enc hm fm d
  have h2 := readM_enc hn fn []
  rw [e] at h1
  rw [List.append_nil, List.append_nil] at h2
  have a := h1.1.symm.trans h2.1
  injection a with a1 a2
  injection a2 with a2 _
  have b := h1.2
  rw [a2] at b
  have c := b.symm.trans h2.2
  injection c with c1 c2
  injection c2 with c2 _
  refine ⟨?_, c2⟩
  cases m; cases n; simp_all
theorem encM_inj {m n : Ma} (hm : RightM m) (fm : FitM m) (hn : RightM n) (fn : FitM n) (e : encM m = encM n) : m = n :=
  (encM_pre hm fm hn fn (d := []) (by rw [List.append_nil]; exact e)).1
/-- what Decode answers -/
def decM (b : List Nat) : Ma × Int := if rightM (readM b) = true ∧ encM (readM b) = b then (readM b, 0) else (Ma.zero, 6)
theorem decM_enc {m : Ma} (h : RightM m) (hf : FitM m) : decM (encM m) = (m, 0) := by
  unfold decM
  rw [readM_eq h hf, if_pos ⟨rightM_iff.2 h, rfl⟩]
theorem decM_cases (b : List Nat) : (decM b = (Ma.zero, 6) ∧ ¬ (rightM (readM b) = true ∧ encM (readM b) = b)) ∨ (decM b = (readM b, 0) ∧ RightM (readM b) ∧ encM (readM b) = b) := by
  unfold decM
  by_cases h : rightM (readM b) = true ∧ encM (readM b) = b
  · rw [if_pos h]; exact .inr ⟨rfl, rightM_iff.1 h.1, h.2⟩
  · rw [if_neg h]; exact .inl ⟨rfl, h⟩
end Go.Proofs.YtbheofibdogabaaGreat.Ss
end
section
/- Walks of the reference's join, Add, Max. -/
namespace Go.Proofs.YtbheofibdogabaaGreat.Vl
open Go Go.RowKit Go.Proofs.YtbheofibdogabaaGreat.Nm
attribute [local go_sem] run_bits run_frombits run_store_float
set_option maxHeartbeats 1600000 in
theorem join_a (a b : V) (add : Bool) (h : a.check ≠ 0) (w : World) :
    Calls Tryz.prog 96 #[a.val, b.val, .bool add] w fun e w' => e = .returned (.tuple #[V.zero.val, .int .i64 a.check]) ∧ Below w.heap.size w w' := by
  obtain ⟨k, x, s⟩ := a
  obtain ⟨l, y, t⟩ := b
  have h1 := int_nbeq h
  have h2 := int_nbne h
  clear h
  go_enter Tryz.func96, Tryz.ntmps96
  go_wp2_with (first | (go_at_call 25; refine (refCheck_any ⟨_, _, _⟩ _).mono ?_; rintro e w' ⟨rfl, o, rfl⟩))
  (try simp only [Exit.inBlock, Exit.then])
  refine bodyPost_ret (v := .tuple #[V.zero.val, .int .i64 (V.mk k x s).check]) ?_ rfl ⟨rfl, below4 _ _ _ _ _⟩
  rw [results_cell_tmp rfl]
  go_simp
set_option maxHeartbeats 1600000 in
theorem join_b (a b : V) (add : Bool) (ha : a.check = 0) (h : b.check ≠ 0) (w : World) :
    Calls Tryz.prog 96 #[a.val, b.val, .bool add] w fun e w' => e = .returned (.tuple #[V.zero.val, .int .i64 b.check]) ∧ Below w.heap.size w w' := by
  obtain ⟨k, x, s⟩ := a
  obtain ⟨l, y, t⟩ := b
  have h1 := int_nbeq h
  have h2 := int_nbne h
  have a1 := int_beq ha
  clear h ha
  go_enter Tryz.func96, Tryz.ntmps96
  go_wp2_with (first | (go_at_call 25; refine (refCheck_any ⟨_, _, _⟩ _).mono ?_; rintro e w' ⟨rfl, o, rfl⟩))
  (try simp only [Exit.inBlock, Exit.then])
  refine bodyPost_ret (v := .tuple #[V.zero.val, .int .i64 (V.mk l y t).check]) ?_ rfl ⟨rfl, below5 _ _ _ _ _ _⟩
  rw [results_cell_tmp rfl]
  go_simp
set_option maxHeartbeats 1600000 in
theorem join_none (a b : V) (add : Bool) (ha : a.check = 0) (hb : b.check = 0) (hk : a.kind = 0) (w : World) :
    Calls Tryz.prog 96 #[a.val, b.val, .bool add] w fun e w' => e = .returned (.tuple #[b.val, .int .i64 0]) ∧ Below w.heap.size w w' := by
  obtain ⟨k, x, s⟩ := a
  obtain ⟨l, y, t⟩ := b
  obtain rfl : k = 0 := hk
  have a1 := int_beq ha
  have a2 := int_bne ha
  have b1 := int_beq hb
  have b2 := int_bne hb
  clear ha hb
  go_enter Tryz.func96, Tryz.ntmps96
  go_wp2_with (first | (go_at_call 25; refine (refCheck_any ⟨_, _, _⟩ _).mono ?_; rintro e w' ⟨rfl, o, rfl⟩))
  (try simp only [Exit.inBlock, Exit.then])
  refine bodyPost_ret (v := .tuple #[(V.mk l y t).val, .int .i64 0]) ?_ rfl ⟨rfl, below5 _ _ _ _ _ _⟩
  rw [results_cell_tmp rfl]
  go_simp
set_option maxHeartbeats 1600000 in
theorem join_unlike_a (a b : V) (add : Bool) (ha : a.check = 0) (hb : b.check = 0) (hk : a.kind ≠ 0) (h : a.kind ≠ 1) (w : World) :
    Calls Tryz.prog 96 #[a.val, b.val, .bool add] w fun e w' => e = .returned (.tuple #[V.zero.val, .int .i64 8]) ∧ Below w.heap.size w w' := by
  obtain ⟨k, x, s⟩ := a
  obtain ⟨l, y, t⟩ := b
  have k0 : k ≠ 0 := hk
  have k1 : k ≠ 1 := h
  have a1 := int_beq ha
  have a2 := int_bne ha
  have b1 := int_beq hb
  have b2 := int_bne hb
  have e0 := int_nbeq k0
  have e1 := int_nbeq k1
  have e2 := int_nbne k1
  clear ha hb hk h k0 k1
  go_enter Tryz.func96, Tryz.ntmps96
  go_wp2_with (first | (go_at_call 25; refine (refCheck_any ⟨_, _, _⟩ _).mono ?_; rintro e w' ⟨rfl, o, rfl⟩))
  (try simp only [Exit.inBlock, Exit.then])
  refine bodyPost_ret (v := .tuple #[V.zero.val, .int .i64 8]) ?_ rfl ⟨rfl, below5 _ _ _ _ _ _⟩
  rw [results_cell_tmp rfl]
  go_simp
set_option maxHeartbeats 1600000 in
theorem join_unlike_b (a b : V) (add : Bool) (ha : a.check = 0) (hb : b.check = 0) (hk : a.kind = 1) (h : b.kind ≠ 1) (w : World) :
    Calls Tryz.prog 96 #[a.val, b.val, .bool add] w fun e w' => e = .returned (.tuple #[V.zero.val, .int .i64 8]) ∧ Below w.heap.size w w' := by
  obtain ⟨k, x, s⟩ := a
  obtain ⟨l, y, t⟩ := b
  obtain rfl : k = 1 := hk
  have k1 : l ≠ 1 := h
  have a1 := int_beq ha
  have a2 := int_bne ha
  have b1 := int_beq hb
  have b2 := int_bne hb
  have e1 := int_nbeq k1
  have e2 := int_nbne k1
  clear ha hb h k1
  go_enter Tryz.func96, Tryz.ntmps96
  go_wp2_with (first | (go_at_call 25; refine (refCheck_any ⟨_, _, _⟩ _).mono ?_; rintro e w' ⟨rfl, o, rfl⟩))
  (try simp only [Exit.inBlock, Exit.then])
  refine bodyPost_ret (v := .tuple #[V.zero.val, .int .i64 8]) ?_ rfl ⟨rfl, below5 _ _ _ _ _ _⟩
  rw [results_cell_tmp rfl]
  go_simp
set_option maxHeartbeats 1600000 in
theorem join_add (a b : V) (ha : a.check = 0) (hb : b.check = 0) (hk : a.kind = 1) (hl : b.kind = 1) (w : World) :
    Calls Tryz.prog 96 #[a.val, b.val, .bool true] w fun e w' => e = .returned (.tuple #[(V.mk 1 (sumC a.num b.num) (⟨#[]⟩ : ByteArray)).val, .int .i64 0]) ∧ Below w.heap.size w w' := by
  obtain ⟨k, x, s⟩ := a
  obtain ⟨l, y, t⟩ := b
  obtain rfl : k = 1 := hk
  obtain rfl : l = 1 := hl
  have a1 := int_beq ha
  have a2 := int_bne ha
  have b1 := int_beq hb
  have b2 := int_bne hb
  clear ha hb
  go_enter Tryz.func96, Tryz.ntmps96
  go_wp2_with (first | (go_at_call 25; refine (refCheck_any ⟨_, _, _⟩ _).mono ?_; rintro e w' ⟨rfl, o, rfl⟩) | (go_at_call 114; refine (refAdd_any _ _ _).mono ?_; rintro e w' ⟨rfl, n, rfl⟩))
  (try simp only [Exit.inBlock, Exit.then])
  refine bodyPost_ret (v := .tuple #[(V.mk 1 (sumC x y) (⟨#[]⟩ : ByteArray)).val, .int .i64 0]) ?_ rfl ⟨rfl, (by repeat' (first | exact below_drewN (below5 _ _ _ _ _ _) _ | refine Below.setCell ?_ (show w.heap.size ≤ w.heap.size + 1 + 1 by omega) _))⟩
  rw [results_cell_tmp rfl]
  go_simp
set_option maxHeartbeats 1600000 in
theorem join_max (a b : V) (ha : a.check = 0) (hb : b.check = 0) (hk : a.kind = 1) (hl : b.kind = 1) (hx : a.num < 18446744073709551616) (hy : b.num < 18446744073709551616) (w : World) :
    Calls Tryz.prog 96 #[a.val, b.val, .bool false] w fun e w' => e = .returned (.tuple #[(V.mk 1 (maxF a.num b.num) (⟨#[]⟩ : ByteArray)).val, .int .i64 0]) ∧ Below w.heap.size w w' := by
  obtain ⟨k, x, s⟩ := a
  obtain ⟨l, y, t⟩ := b
  obtain rfl : k = 1 := hk
  obtain rfl : l = 1 := hl
  have a1 := int_beq ha
  have a2 := int_bne ha
  have b1 := int_beq hb
  have b2 := int_bne hb
  clear ha hb
  have hx : x < 18446744073709551616 := hx
  have hy : y < 18446744073709551616 := hy
  go_enter Tryz.func96, Tryz.ntmps96
  go_wp2_with (first | (go_at_call 25; refine (refCheck_any ⟨_, _, _⟩ _).mono ?_; rintro e w' ⟨rfl, o, rfl⟩) | (go_at_call 115; refine (refMax_any _ _ (by assumption) (by assumption) _).mono ?_; rintro e w' ⟨rfl, rfl⟩))
  (try simp only [Exit.inBlock, Exit.then])
  refine bodyPost_ret (v := .tuple #[(V.mk 1 (maxF x y) (⟨#[]⟩ : ByteArray)).val, .int .i64 0]) ?_ rfl ⟨rfl, (by repeat' (first | exact below5 _ _ _ _ _ _ | refine Below.setCell ?_ (show w.heap.size ≤ w.heap.size + 1 + 1 by omega) _))⟩
  rw [results_cell_tmp rfl]
  go_simp
end Go.Proofs.YtbheofibdogabaaGreat.Vl
end
section
/- The reference's join. -/
namespace Go.Proofs.YtbheofibdogabaaGreat.Vl
open Go Go.RowKit Go.Proofs.YtbheofibdogabaaGreat.Nm
attribute [local go_sem] run_bits run_frombits run_store_float
/-- what is told of two values joined -/
def JoinTold (f : Nat → Nat → Nat) (a b : V) (w : World) (e : Ending) (w' : World) : Prop :=
  e = .returned (.tuple #[(joined f a b).1.val, .int .i64 (joined f a b).2]) ∧ Below w.heap.size w w'
theorem join_any (a b : V) (add : Bool) (ha : a.num < 18446744073709551616) (hb : b.num < 18446744073709551616) (w : World) :
    Calls Tryz.prog 96 #[a.val, b.val, .bool add] w (JoinTold (if add = true then sumC else maxF) a b w) := by
  unfold JoinTold joined
  by_cases h1 : a.check = 0
  · by_cases h2 : b.check = 0
    · rw [if_neg (by omega), if_neg (by omega)]
      by_cases k0 : a.kind = 0
      · rw [if_pos k0]; exact join_none a b add h1 h2 k0 w
      · rw [if_neg k0]
        by_cases k1 : a.kind = 1
        · by_cases k2 : b.kind = 1
          · rw [if_neg (by omega)]
            cases add
            · exact join_max a b h1 h2 k1 k2 ha hb w
            · exact join_add a b h1 h2 k1 k2 w
          · rw [if_pos (.inr k2)]; exact join_unlike_b a b add h1 h2 k1 k2 w
        · rw [if_pos (.inl k1)]; exact join_unlike_a a b add h1 h2 k0 k1 w
    · rw [if_neg (by omega), if_pos h2]; exact join_b a b add h1 h2 w
  · rw [if_pos h1]; exact join_a a b add h1 w
end Go.Proofs.YtbheofibdogabaaGreat.Vl
end
section
/- Blocks of a call's own, behind a call that leaves alone what there was. No program. -/
namespace Go.Proofs.YtbheofibdogabaaGreat.Vl
open Go Go.RowKit Go.Proofs.YtbheofibdogabaaGreat.Nm

end Go.Proofs.YtbheofibdogabaaGreat.Vl
end
section
/- Pairs in memory: read, appended to. No program's function. -/
namespace Go.Proofs.YtbheofibdogabaaGreat.Kv
open Go Go.RowKit Vl Nm Mem
theorem infoPair : (Tryz.prog.info? 61).map (fun i => (i.zero, i.size, i.bytes)) = some (some (.agg #[.string ⟨#[]⟩, .int .i64 0, .float .f64 0, .string ⟨#[]⟩]), 4, 48) := by kernel_rfl
end Go.Proofs.YtbheofibdogabaaGreat.Kv
end
section
/- Worlds behind a world; a drawn region's moves; a result in one cell. No program's function. -/
namespace Go.Proofs.YtbheofibdogabaaGreat.Kv
open Go Go.RowKit Vl Nm Mem
def Pr.obj (p : Pr) : Obj := .cells #[.string p.key, .int .i64 p.val.kind, .float .f64 p.val.num, .string p.val.text] 61
def repObj (code : Int) (v : V) : Obj := .cells #[.int .i64 code, .int .i64 v.kind, .float .f64 v.num, .string v.text] 52
end Go.Proofs.YtbheofibdogabaaGreat.Kv
end
