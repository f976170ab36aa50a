import Derived.Test.YtaengjgmchpabaaGreatWireCl
import Derived.Test.YtaengjgmchpabaaGreatMergeWr36
import Derived.Test.YtaengjgmchpabaaGreatMergeWr25
/- The landed writer: message. -/
namespace Go.Proofs.YtaengjgmchpabaaGreat.Wr
open Go Go.RowKit Vl Kv Ss Cn Mem Lg Nm
attribute [local go_sem] Nm.run_bits Nm.run_frombits run_store_float
variable {w0 wr : World} {bw : Nat} {o : Option (List Nat)} {F : List (Nat × Obj)}
/-- the eight numbers at a message's beginning -/
def mNums (f : Fl) : List Nat := Pk.intB f.kind ++ (Pk.intB f.from_ ++ (Pk.intB f.to ++ (Pk.intB f.term ++ (Pk.intB f.index ++ (Pk.intB f.logt ++ (Pk.intB f.commit ++ (Pk.intB f.round)))))))
/-- what is written of a message ahead of its snapshot -/
def mHead (f : Fl) : List Nat := mNums f ++ (Pk.markB f.yes ++ (listB f.ents ++ cConf.enc f.conf))
/-- a message whose inner ones are not written yet -/
def mS (o : Option (List Nat)) (f : Fl) : Option (List Nat) := appT (app o (mHead f)) f.snap
/-- an inner one -/
def mI (o : Option (List Nat)) (f : Fl) : Option (List Nat) := app (mS o f) (Pk.intB 0)
theorem mark_len (b : Bool) : (Pk.markB b).length = 1 := by cases b <;> rfl
theorem mNums_le (f : Fl) : (mNums f).length ≤ 80 := by
  unfold mNums
  have a0 := (Pk.intB_len f.kind).2
  have a1 := (Pk.intB_len f.from_).2
  have a2 := (Pk.intB_len f.to).2
  have a3 := (Pk.intB_len f.term).2
  have a4 := (Pk.intB_len f.index).2
  have a5 := (Pk.intB_len f.logt).2
  have a6 := (Pk.intB_len f.commit).2
  have a7 := (Pk.intB_len f.round).2
  simp only [List.length_append]
  omega
theorem mHead_le {f : Fl} (h : FitR f) (h8 : f.ents.length ≤ 8) : (mHead f).length ≤ 500000 := by
  unfold mHead
  have a1 := mNums_le f
  have a2 := mark_len f.yes
  have a3 := listB_le h.ents
  have a4 := cConf_le f.conf
  have a5 : f.ents.length * 60000 ≤ 8 * 60000 := Nat.mul_le_mul_right _ h8
  simp only [List.length_append]
  omega
theorem mS_le {o : Option (List Nat)} {f : Fl} (h : FitR f) (h8 : f.ents.length ≤ 8) : lenO (mS o f) ≤ lenO o + 520000 := by
  unfold mS
  have := lenO_appT (app o (mHead f)) f.snap
  have := lenO_app o (mHead f)
  have := mHead_le h h8
  omega
theorem mI_le {o : Option (List Nat)} {f : Fl} (h : FitR f) (h8 : f.ents.length ≤ 8) : lenO (mI o f) ≤ lenO o + 530000 := by
  unfold mI
  have := lenO_int (mS o f) 0
  have := mS_le (o := o) h h8
  omega
/-- may it be written, but for its inner ones? -/
theorem okF_iff (f : Fl) : okF f = true ↔ (f.ents.length : Int) ≤ 8 ∧ okL f.ents = true := by unfold okF; rw [Bool.and_eq_true, decide_eq_true_eq]
/-- an inner message that may be written -/
def okI (x : Mr) : Bool := okF x.1 && decide (x.2.n = 0)
theorem okI_next {L : List Mr} {k : Nat} (hk : k < L.length) (h : (L.take k).all okI = true) (hx : okI (L.getD k Mr.zero) = true) : (L.take (k + 1)).all okI = true := by
  have e : L.getD k Mr.zero = L[k] := by simp [hk]
  rw [e] at hx
  rw [List.take_succ_eq_append_getElem hk, List.all_append, h]
  simp [hx]
theorem okI_hit {L : List Mr} {k : Nat} (hk : k < L.length) (hx : okI (L.getD k Mr.zero) = false) : ¬ L.all okI = true := by
  have e : L.getD k Mr.zero = L[k] := by simp [hk]
  rw [e] at hx
  intro h
  rw [List.all_eq_true] at h
  rw [h _ (List.getElem_mem hk)] at hx
  cases hx
theorem mr_getD {L : List Mr} {k : Nat} (hk : k < L.length) : L.getD k Mr.zero ∈ L := by
  have e : L.getD k Mr.zero = L[k] := by simp [hk]
  rw [e]; exact List.getElem_mem hk
theorem fold_next {L : List Mr} {k : Nat} {st : Option (List Nat)} (hk : k < L.length) : (L.take (k + 1)).foldl (fun o y => mI o y.1) st = mI ((L.take k).foldl (fun o y => mI o y.1) st) (L.getD k Mr.zero).1 := by
  have e : L.getD k Mr.zero = L[k] := by simp [hk]
  rw [List.take_succ_eq_append_getElem hk, List.foldl_append, e]
  rfl
theorem fold_le1 {L : List Mr} : ∀ {st : Option (List Nat)}, (∀ y ∈ L, FitR y.1) → L.all okI = true → lenO (L.foldl (fun o y => mI o y.1) st) ≤ lenO st + L.length * 530000 := by
  induction L with
  | nil => intro st _ _; simp
  | cons y r ih =>
    intro st h1 h2
    rw [List.all_cons, Bool.and_eq_true] at h2
    have a1 := ih (st := mI st y.1) (fun z hz => h1 z (List.mem_cons_of_mem _ hz)) h2.2
    have a3 : okF y.1 = true := by have := h2.1; unfold okI at this; rw [Bool.and_eq_true] at this; exact this.1
    have a2 := mI_le (o := st) (h1 y (List.mem_cons_self ..)) (by have := ((okF_iff y.1).1 a3).1; omega)
    show lenO (r.foldl (fun o y => mI o y.1) (mI st y.1)) ≤ _
    rw [List.length_cons, Nat.succ_mul]
    omega
theorem fold_le {L : List Mr} {k : Nat} {st : Option (List Nat)} (h1 : ∀ y ∈ L, FitR y.1) (h2 : (L.take k).all okI = true) : lenO ((L.take k).foldl (fun o y => mI o y.1) st) ≤ lenO st + L.length * 530000 := by
  refine Nat.le_trans (fold_le1 (fun y hy => h1 y (List.mem_of_mem_take hy)) h2) (Nat.add_le_add_left (Nat.mul_le_mul_right _ ?_) _)
  rw [List.length_take]; omega
/-- what message leaves -/
def mR (o : Option (List Nat)) (x : Mr) (L : List Mr) (most : Int) : Option (Option (List Nat)) :=
  if okF x.1 = true ∧ (x.2.n : Int) ≤ most ∧ L.all okI = true then some (L.foldl (fun o y => mI o y.1) (app (mS o x.1) (Pk.intB x.2.n))) else none
set_option maxHeartbeats 12800000 in
set_option maxRecDepth 100000 in
theorem message_any {x : Mr} {L : List Mr} {most : Int} (hx : Yw w0 wr bw o F) (hp : FlAt w0 x) (hf : FitR x.1) (hm : most ≤ 16) (hn16 : x.2.n ≤ 100000)
    (hL : (x.2.n : Int) ≤ most → L.length = x.2.n ∧ (0 < L.length → MsgsAt w0 x.2.ia x.2.ic L) ∧ ∀ y ∈ L, FitR y.1 ∧ ∀ (bw : Nat) (o : Option (List Nat)) (wr : World) (F : List (Nat × Obj)), Yw w0 wr bw o F → lenO o ≤ 40000000 →
      Calls Tryz.prog 17 #[.pointer (some ⟨bw, 0, none⟩), y.val, .int .i64 0] wr (Wrote w0 bw F (if okI y = true then some (mI o y.1) else none))) (hl : lenO o ≤ 50000000) (hl0 : 0 < L.length → lenO o ≤ 20000000) :
    Calls Tryz.prog 17 #[.pointer (some ⟨bw, 0, none⟩), x.val, .int .i64 most] wr (Wrote w0 bw F (mR o x L most)) := by
  have HLO := Lib.hid hl0
  have HX := Lib.hid (hx.more x.obj)
  have HO : Hid (∀ p : Prop, (p ↔ (okF x.1 = true ∧ (x.2.n : Int) ≤ most ∧ L.all okI = true)) → (¬ p → mR o x L most = none) ∧ (p → mR o x L most = some (L.foldl (fun o y => mI o y.1) (app (mS o x.1) (Pk.intB x.2.n))))) := fun p hp => by
    unfold mR
    exact ⟨fun h => if_neg (fun e => h (hp.2 e)), fun h => if_pos (hp.1 h)⟩
  have HD := Lib.hid (show mS o x.1 = appT (app o (mHead x.1)) x.1.snap from rfl)
  have HH := Lib.hid (show mHead x.1 = mNums x.1 ++ (Pk.markB x.1.yes ++ (listB x.1.ents ++ cConf.enc x.1.conf)) from rfl)
  have HN := Lib.hid (show mNums x.1 = Pk.intB x.1.kind ++ (Pk.intB x.1.from_ ++ (Pk.intB x.1.to ++ (Pk.intB x.1.term ++ (Pk.intB x.1.index ++ (Pk.intB x.1.logt ++ (Pk.intB x.1.commit ++ (Pk.intB x.1.round))))))) from rfl)
  have HP := Lib.hid hp
  have HF := Lib.hid hf
  have HL := Lib.hid hL
  have hl1 := lenO_int (o) x.1.kind
  have hl2 := lenO_int (app (o) (Pk.intB x.1.kind)) x.1.from_
  have hl3 := lenO_int (app (app (o) (Pk.intB x.1.kind)) (Pk.intB x.1.from_)) x.1.to
  have hl4 := lenO_int (app (app (app (o) (Pk.intB x.1.kind)) (Pk.intB x.1.from_)) (Pk.intB x.1.to)) x.1.term
  have hl5 := lenO_int (app (app (app (app (o) (Pk.intB x.1.kind)) (Pk.intB x.1.from_)) (Pk.intB x.1.to)) (Pk.intB x.1.term)) x.1.index
  have hl6 := lenO_int (app (app (app (app (app (o) (Pk.intB x.1.kind)) (Pk.intB x.1.from_)) (Pk.intB x.1.to)) (Pk.intB x.1.term)) (Pk.intB x.1.index)) x.1.logt
  have hl7 := lenO_int (app (app (app (app (app (app (o) (Pk.intB x.1.kind)) (Pk.intB x.1.from_)) (Pk.intB x.1.to)) (Pk.intB x.1.term)) (Pk.intB x.1.index)) (Pk.intB x.1.logt)) x.1.commit
  have hl8 := lenO_int (app (app (app (app (app (app (app (o) (Pk.intB x.1.kind)) (Pk.intB x.1.from_)) (Pk.intB x.1.to)) (Pk.intB x.1.term)) (Pk.intB x.1.index)) (Pk.intB x.1.logt)) (Pk.intB x.1.commit)) x.1.round
  have hl9 := lenO_app (app (app (app (app (app (app (app (app (o) (Pk.intB x.1.kind)) (Pk.intB x.1.from_)) (Pk.intB x.1.to)) (Pk.intB x.1.term)) (Pk.intB x.1.index)) (Pk.intB x.1.logt)) (Pk.intB x.1.commit)) (Pk.intB x.1.round)) (Pk.markB x.1.yes)
  rw [mark_len] at hl9
  clear hx hp hf hL hl0
  obtain ⟨c0, c1, c2, c3, c4, c5, c6, c7, c8, c9, c10, c11, c12, c13, c14, c15⟩ := cells16m (x := x) HX.out.head
  go_enter Tryz.func17, Tryz.ntmps17
  go_wp2_with fail
  go_region_with (go_at_call 35; refine Calls.mono (yInt (HX.out.on ((Beh.start _).drewN 1)) HF.out.kind (by omega)) ?_; rintro e w' ⟨rfl, hx⟩; (have HX := Lib.hid hx); clear hx c0 c1 c2 c3 c4 c5 c6 c7 c8 c9 c10 c11 c12 c13 c14 c15)
  obtain ⟨c0, c1, c2, c3, c4, c5, c6, c7, c8, c9, c10, c11, c12, c13, c14, c15⟩ := cells16m (x := x) HX.out.head
  go_wp2_with fail
  go_region_with (go_at_call 35; refine Calls.mono (yInt (HX.out.on ((Beh.start _).drewN 1)) HF.out.from_ (by omega)) ?_; rintro e w' ⟨rfl, hx⟩; (have HX := Lib.hid hx); clear hx c0 c1 c2 c3 c4 c5 c6 c7 c8 c9 c10 c11 c12 c13 c14 c15)
  obtain ⟨c0, c1, c2, c3, c4, c5, c6, c7, c8, c9, c10, c11, c12, c13, c14, c15⟩ := cells16m (x := x) HX.out.head
  go_wp2_with fail
  go_region_with (go_at_call 35; refine Calls.mono (yInt (HX.out.on ((Beh.start _).drewN 1)) HF.out.to (by omega)) ?_; rintro e w' ⟨rfl, hx⟩; (have HX := Lib.hid hx); clear hx c0 c1 c2 c3 c4 c5 c6 c7 c8 c9 c10 c11 c12 c13 c14 c15)
  obtain ⟨c0, c1, c2, c3, c4, c5, c6, c7, c8, c9, c10, c11, c12, c13, c14, c15⟩ := cells16m (x := x) HX.out.head
  go_wp2_with fail
  go_region_with (go_at_call 35; refine Calls.mono (yInt (HX.out.on ((Beh.start _).drewN 1)) HF.out.term (by omega)) ?_; rintro e w' ⟨rfl, hx⟩; (have HX := Lib.hid hx); clear hx c0 c1 c2 c3 c4 c5 c6 c7 c8 c9 c10 c11 c12 c13 c14 c15)
  obtain ⟨c0, c1, c2, c3, c4, c5, c6, c7, c8, c9, c10, c11, c12, c13, c14, c15⟩ := cells16m (x := x) HX.out.head
  go_wp2_with fail
  go_region_with (go_at_call 35; refine Calls.mono (yInt (HX.out.on ((Beh.start _).drewN 1)) HF.out.index (by omega)) ?_; rintro e w' ⟨rfl, hx⟩; (have HX := Lib.hid hx); clear hx c0 c1 c2 c3 c4 c5 c6 c7 c8 c9 c10 c11 c12 c13 c14 c15)
  obtain ⟨c0, c1, c2, c3, c4, c5, c6, c7, c8, c9, c10, c11, c12, c13, c14, c15⟩ := cells16m (x := x) HX.out.head
  go_wp2_with fail
  go_region_with (go_at_call 35; refine Calls.mono (yInt (HX.out.on ((Beh.start _).drewN 1)) HF.out.logt (by omega)) ?_; rintro e w' ⟨rfl, hx⟩; (have HX := Lib.hid hx); clear hx c0 c1 c2 c3 c4 c5 c6 c7 c8 c9 c10 c11 c12 c13 c14 c15)
  obtain ⟨c0, c1, c2, c3, c4, c5, c6, c7, c8, c9, c10, c11, c12, c13, c14, c15⟩ := cells16m (x := x) HX.out.head
  go_wp2_with fail
  go_region_with (go_at_call 35; refine Calls.mono (yInt (HX.out.on ((Beh.start _).drewN 1)) HF.out.commit (by omega)) ?_; rintro e w' ⟨rfl, hx⟩; (have HX := Lib.hid hx); clear hx c0 c1 c2 c3 c4 c5 c6 c7 c8 c9 c10 c11 c12 c13 c14 c15)
  obtain ⟨c0, c1, c2, c3, c4, c5, c6, c7, c8, c9, c10, c11, c12, c13, c14, c15⟩ := cells16m (x := x) HX.out.head
  go_wp2_with fail
  go_region_with (go_at_call 35; refine Calls.mono (yInt (HX.out.on ((Beh.start _).drewN 1)) HF.out.round (by omega)) ?_; rintro e w' ⟨rfl, hx⟩; (have HX := Lib.hid hx); clear hx c0 c1 c2 c3 c4 c5 c6 c7 c8 c9 c10 c11 c12 c13 c14 c15)
  obtain ⟨c0, c1, c2, c3, c4, c5, c6, c7, c8, c9, c10, c11, c12, c13, c14, c15⟩ := cells16m (x := x) HX.out.head
  go_wp2_with fail
  go_region_with (go_at_call 36; refine Calls.mono (yMark (HX.out.on ((Beh.start _).drewN 1)) (by omega)) ?_; rintro e w' ⟨rfl, hx⟩; (have HX := Lib.hid hx); clear hx c0 c1 c2 c3 c4 c5 c6 c7 c8 c9 c10 c11 c12 c13 c14 c15)
  obtain ⟨c0, c1, c2, c3, c4, c5, c6, c7, c8, c9, c10, c11, c12, c13, c14, c15⟩ := cells16m (x := x) HX.out.head
  have hl10 : lenO (app (app (app (app (app (app (app (app (app (o) (Pk.intB x.1.kind)) (Pk.intB x.1.from_)) (Pk.intB x.1.to)) (Pk.intB x.1.term)) (Pk.intB x.1.index)) (Pk.intB x.1.logt)) (Pk.intB x.1.commit)) (Pk.intB x.1.round)) (Pk.markB x.1.yes)) ≤ 50000100 := by omega
  clear hl1 hl2 hl3 hl4 hl5 hl6 hl7 hl8 hl9
  have HT := Lib.hid (show app (app (app (app (app (app (app (app (app (o) (Pk.intB x.1.kind)) (Pk.intB x.1.from_)) (Pk.intB x.1.to)) (Pk.intB x.1.term)) (Pk.intB x.1.index)) (Pk.intB x.1.logt)) (Pk.intB x.1.commit)) (Pk.intB x.1.round)) (Pk.markB x.1.yes) = app o (mNums x.1 ++ Pk.markB x.1.yes) by rw [HN.out]; simp only [app_app, List.append_assoc])
  by_cases h8 : (x.1.ents.length : Int) ≤ 8 ∧ okL x.1.ents = true
  · go_wp2_with fail
    refine Calls.mono (entries_yes HX.out rfl HP.out.ents HF.out.ents (Nat.le_trans HF.out.len (by decide)) h8.1 h8.2 (by omega)) ?_
    rintro e w' ⟨rfl, hx⟩
    have HX := Lib.hid hx
    clear hx c0 c1 c2 c3 c4 c5 c6 c7 c8 c9 c10 c11 c12 c13 c14 c15
    obtain ⟨c0, c1, c2, c3, c4, c5, c6, c7, c8, c9, c10, c11, c12, c13, c14, c15⟩ := cells16m (x := x) HX.out.head
    have hl11 := lenO_app (app (app (app (app (app (app (app (app (app (o) (Pk.intB x.1.kind)) (Pk.intB x.1.from_)) (Pk.intB x.1.to)) (Pk.intB x.1.term)) (Pk.intB x.1.index)) (Pk.intB x.1.logt)) (Pk.intB x.1.commit)) (Pk.intB x.1.round)) (Pk.markB x.1.yes)) (listB x.1.ents)
    have hl12 := listB_le HF.out.ents
    have hl13 : x.1.ents.length * 60000 ≤ 8 * 60000 := Nat.mul_le_mul_right _ (by omega)
    have hl14 := lenO_conf (app (app (app (app (app (app (app (app (app (app (o) (Pk.intB x.1.kind)) (Pk.intB x.1.from_)) (Pk.intB x.1.to)) (Pk.intB x.1.term)) (Pk.intB x.1.index)) (Pk.intB x.1.logt)) (Pk.intB x.1.commit)) (Pk.intB x.1.round)) (Pk.markB x.1.yes)) (listB x.1.ents)) x.1.conf
    go_wp2_with fail
    refine Calls.mono (conf_any (c := x.1.conf) HX.out HF.out.conf (by omega)) ?_
    rintro e w' ⟨rfl, hx⟩
    have HX := Lib.hid hx
    clear hx c0 c1 c2 c3 c4 c5 c6 c7 c8 c9 c10 c11 c12 c13 c14 c15
    obtain ⟨c0, c1, c2, c3, c4, c5, c6, c7, c8, c9, c10, c11, c12, c13, c14, c15⟩ := cells16m (x := x) HX.out.head
    go_wp2_with fail
    go_region_with (go_at_call 39; refine Calls.mono (yText (t := x.1.snap) (HX.out.on ((Beh.start _).drewN 1)) HP.out.snap HF.out.b8 HF.out.snap (by omega)) ?_; rintro e w' ⟨rfl, hx⟩; (have HX := Lib.hid hx); clear hx c0 c1 c2 c3 c4 c5 c6 c7 c8 c9 c10 c11 c12 c13 c14 c15)
    have HX : Hid (Yw w0 w' bw (mS o x.1) ((wr.heap.size, x.obj) :: F)) := by
      have hx := HX.out
      rw [HT.out, app_app, app_app] at hx
      simp only [List.append_assoc] at hx
      rw [← HH.out, ← HD.out] at hx
      exact hx
    obtain ⟨c0, c1, c2, c3, c4, c5, c6, c7, c8, c9, c10, c11, c12, c13, c14, c15⟩ := cells16m (x := x) HX.out.head
    have hl15 := mS_le (o := o) HF.out (by omega)
    clear hl10 hl11 hl12 hl13 hl14 HT
    have HOK := Lib.hid ((okF_iff x.1).2 h8)
    clear h8
    by_cases hn : (x.2.n : Int) ≤ most
    · obtain ⟨hlen, hat, hall⟩ := HL.out hn
      have HAT := Lib.hid hat
      have HALL := Lib.hid hall
      clear hat hall HL
      go_wp2_with fail
      refine Calls.mono (upTo_yes HX.out most (by omega) hn (by omega) (by omega)) ?_
      rintro e w' ⟨rfl, hx⟩
      have HX := Lib.hid hx
      clear hx c0 c1 c2 c3 c4 c5 c6 c7 c8 c9 c10 c11 c12 c13 c14 c15
      obtain ⟨c0, c1, c2, c3, c4, c5, c6, c7, c8, c9, c10, c11, c12, c13, c14, c15⟩ := cells16m (x := x) HX.out.head
      go_wp2_with fail
      clear c0 c1 c2 c3 c4 c5 c6 c7 c8 c9 c10 c11 c12 c13 c14 c15
      generalize wr.heap.size = bx at *
      generalize x.2.ia = ia at *
      go_loopw [7, 85] (fun _ i wq => ∃ k : Nat, k ≤ L.length ∧ i = .int .i64 k ∧ Hid ((L.take k).all okI = true) ∧ Hid (Yw w0 wq bw ((L.take k).foldl (fun o y => mI o y.1) (app (mS o x.1) (Pk.intB x.2.n))) ((bx, x.obj) :: F))) (fun _ i _ => L.length - (intOf i).toNat)
      case atStart => exact ⟨0, by omega, rfl, rfl, HX.out⟩
      case round =>
        clear HX
        obtain ⟨k, hk, rfl, HS, HX⟩ := hrel
        by_cases hlt : k < L.length
        · obtain ⟨b, off, rfl, hc⟩ := MsgsAt.cells ((HAT.out (by omega)).below HX.out.beh) (by omega)
          have hc := hc k hlt
          have HN2 := Lib.hid (okI_next hlt HS.out)
          have HH2 := Lib.hid (okI_hit hlt)
          have HE := Lib.hid (fold_next (st := app (mS o x.1) (Pk.intB x.2.n)) hlt)
          have HY := Lib.hid (HALL.out _ (mr_getD hlt))
          have hl16 := fold_le (st := app (mS o x.1) (Pk.intB x.2.n)) (L := L) (fun y hy => (HALL.out y hy).1) HS.out
          have hl17 : lenO ((L.take k).foldl (fun o y => mI o y.1) (app (mS o x.1) (Pk.intB x.2.n))) ≤ 40000000 := by
            have := HLO.out (by omega)
            have := lenO_int (mS o x.1) x.2.n
            omega
          clear hl16
          have HB := Lib.hid (Bh.Bx.one wr Mr.zero.obj)
          generalize L.getD k Mr.zero = y at *
          have HM := Lib.hid HY.out.2
          clear HY
          obtain ⟨c0, c1, c2, c3, c4, c5, c6, c7, c8, c9, c10, c11, c12, c13, c14, c15⟩ := hc
          cases hq : okI y
          · simp only [hq, Bool.false_eq_true, if_false] at HM
            go_wp2_with (first
              | (apply Bh.store_bx 16 0 HB.out; rfl; rfl; rfl; rfl; rfl; rfl; kernel_rfl; rfl; rfl; intro wz hz; have HB := Lib.hid hz; clear hz; have HX := Lib.hid (HX.out.laid HB.out.beh HB.out.b0))
              | (apply Bh.load_bx 0 HB.out Tryz.underlying28; rfl; rfl; rfl; rfl; rfl; kernel_rfl)
              | (go_at_call 17; refine Calls.mono (HM.out _ _ _ _ HX.out hl17) ?_; rintro e w' HW; obtain ⟨rfl, hx⟩ := HW; (have HX2 := Lib.hid (tail_ex hx)); clear hx))
            exact ⟨rfl, Wrote.no2 (tail_ex HX2.out) ((HO.out False ⟨fun h => h.elim, fun h => (HH2.out hq) h.2.2⟩).1 (fun h => h))⟩
          · simp only [hq, if_true] at HM
            go_wp2_with (first
              | (apply Bh.store_bx 16 0 HB.out; rfl; rfl; rfl; rfl; rfl; rfl; kernel_rfl; rfl; rfl; intro wz hz; have HB := Lib.hid hz; clear hz; have HX := Lib.hid (HX.out.laid HB.out.beh HB.out.b0))
              | (apply Bh.load_bx 0 HB.out Tryz.underlying28; rfl; rfl; rfl; rfl; rfl; kernel_rfl)
              | (go_at_call 17; refine Calls.mono (HM.out _ _ _ _ HX.out hl17) ?_; rintro e w' HW; obtain ⟨rfl, hx⟩ := HW; (have HX := Lib.hid hx.tail); clear hx))
            go_roundw
            case rel => exact ⟨k + 1, by omega, by go_num, HN2.out hq, by show Yw _ _ _ _ _; rw [HE.out]; exact HX.out⟩
            case measure => simp [intOf]; omega
        · obtain rfl : k = L.length := by omega
          have HR := Lib.hid ((HO.out True ⟨fun _ => ⟨HOK.out, hn, by have := HS.out; rwa [List.take_length] at this⟩, fun _ => trivial⟩).2 trivial)
          go_wp2
          go_end0
          have hx := HX.out.tail
          rw [List.take_length] at hx
          exact Wrote.ok hx HR.out
    · have HR := Lib.hid ((HO.out False ⟨fun h => h.elim, fun h => hn h.2.1⟩).1 (fun h => h))
      have HNN : Hid (¬ (0 ≤ (x.2.n : Int) ∧ (x.2.n : Int) ≤ most)) := fun h => hn h.2
      clear hn
      go_wp2_with (first | (go_at_call 40; refine (upTo_no HX.out most ⟨by omega, by omega⟩ HNN.out (by omega)).mono ?_; rintro e w' ⟨rfl, hx⟩; (have HX2 := Lib.hid hx); clear hx))
      exact ⟨rfl, Wrote.no2 (tail_ex HX2.out) HR.out⟩
  · have HR := Lib.hid ((HO.out False ⟨fun h => h.elim, fun h => h8 ((okF_iff x.1).1 h.1)⟩).1 (fun h => h))
    go_wp2_with (first | (go_at_call 37; refine Calls.mono (entries_no HX.out rfl HP.out.ents HF.out.ents (Nat.le_trans HF.out.len (by decide)) h8 (by omega)) ?_; rintro e w' ⟨rfl, hx⟩; (have HX2 := Lib.hid hx); clear hx))
    exact ⟨rfl, Wrote.no2 (tail_ex HX2.out) HR.out⟩
end Go.Proofs.YtaengjgmchpabaaGreat.Wr
