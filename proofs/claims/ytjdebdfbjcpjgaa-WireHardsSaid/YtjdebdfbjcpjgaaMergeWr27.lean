import Derived.Test.YtjdebdfbjcpjgaaMergeWr8
import Derived.Test.YtjdebdfbjcpjgaaMergeWr3
import Derived.Test.YtjdebdfbjcpjgaaMergeWr7
import Derived.Test.YtjdebdfbjcpjgaaWireEncE
import Derived.Test.YtjdebdfbjcpjgaaMergeWr25
import Derived.Test.YtjdebdfbjcpjgaaWireEncM
section
/- Cut out of SessRest so that every seat fills it. -/
namespace Go.Proofs.Ytjdebdfbjcpjgaa.Ss
open Go Go.RowKit Vl Kv Mem
/-- what is left: no longer, bytes -/
def Rest (l r : List Nat) : Prop := r.length ≤ l.length ∧ B8 r
theorem Rest.trans {a b c : List Nat} (h : Rest a b) (k : Rest b c) : Rest a c := ⟨Nat.le_trans k.1 h.1, k.2⟩
theorem Rest.self {a : List Nat} (h : B8 a) : Rest a a := ⟨Nat.le_refl _, h⟩
theorem Rest.none {a : List Nat} : Rest a [] := ⟨by simp, B8.nil⟩
theorem Rest.ne {a b : List Nat} (h : Rest a b) (hb : b ≠ []) : a ≠ [] := fun e => by
  subst e
  have := h.1
  exact hb (List.eq_nil_of_length_eq_zero (by simpa using this))
theorem intOut_rest {l : List Nat} (h : B8 l) (e : Int) : Rest l (Pk.intOut l e).2.1 := by
  unfold Pk.intOut
  cases hd : Pk.rdInt l with
  | none => exact Rest.none
  | some p =>
    obtain ⟨n, r⟩ := p
    obtain ⟨h1, _⟩ := Pk.rdInt_sound h hd
    refine ⟨?_, fun x hx => h x (by rw [h1]; exact List.mem_append_right _ hx)⟩
    rw [h1, List.length_append]
    show r.length ≤ _
    omega
theorem fltOut_rest {l : List Nat} (h : B8 l) (e : Int) : Rest l (Pk.fltOut l e).2.1 := by
  unfold Pk.fltOut Pk.rdFlt
  split
  · rename_i n r hd
    split at hd
    · cases hd
    · split at hd
      · injection hd with hd
        injection hd with _ hd
        subst hd
        exact ⟨by show (l.drop 8).length ≤ _; rw [List.length_drop]; omega, h.drop _⟩
      · cases hd
  · exact Rest.none
theorem textOut_rest {l : List Nat} (h : B8 l) (e : Int) : Rest l (Pk.textOut l e).2.1 := by
  unfold Pk.textOut Pk.rdText
  cases hd : Pk.rdInt l with
  | none => exact Rest.none
  | some p =>
    obtain ⟨n, r⟩ := p
    obtain ⟨h1, _⟩ := Pk.rdInt_sound h hd
    have hr : Rest l r := ⟨by rw [h1, List.length_append]; omega, fun x hx => h x (by rw [h1]; exact List.mem_append_right _ hx)⟩
    simp only
    split
    · rename_i t r2 hd2
      split at hd2
      · cases hd2
      · split at hd2
        · cases hd2
        · injection hd2 with hd2
          injection hd2 with _ hd2
          subst hd2
          exact hr.trans ⟨by rw [List.length_drop]; omega, hr.2.drop _⟩
    · exact Rest.none
theorem rdV_rest {l : List Nat} (h : B8 l) (e : Int) : Rest l (rdV l e).2.1 := by
  have h1 := intOut_rest h e
  unfold rdV
  split
  · exact h1.trans (fltOut_rest h1.2 _)
  · split
    · exact h1.trans (textOut_rest h1.2 _)
    · exact h1
theorem rdN_rest {α : Type} {f : List Nat → Int → α × List Nat × Int} (hf : ∀ {l : List Nat}, B8 l → ∀ e, Rest l (f l e).2.1) {l : List Nat} (h : B8 l) (e : Int) (n : Nat) : Rest l (rdN f l e n).2.1 := by
  induction n with
  | zero => exact Rest.self h
  | succ n ih => exact ih.trans (hf ih.2 _)
/-- a float that is read is one -/
theorem fltOut_lt {l : List Nat} (h : B8 l) (e : Int) : (Pk.fltOut l e).1 < 18446744073709551616 := by
  unfold Pk.fltOut Pk.rdFlt
  split
  · rename_i n r hd
    split at hd
    · cases hd
    · split at hd
      · injection hd with hd
        injection hd with hd _
        subst hd
        exact (Pk.high8_num8 (l := l.take 8) (by rw [List.length_take]; omega) (h.take 8)).2
      · cases hd
  · show (0 : Nat) < 18446744073709551616; decide
theorem rdV_lt {l : List Nat} (h : B8 l) (e : Int) : (rdV l e).1.num < 18446744073709551616 := by
  have h1 := intOut_rest h e
  unfold rdV
  split
  · exact fltOut_lt h1.2 _
  · split
    · show (0 : Nat) < 18446744073709551616; decide
    · show (0 : Nat) < 18446744073709551616; decide
theorem rdN_all2 {α : Type} {f : List Nat → Int → α × List Nat × Int} {P : α → Prop} (hf : ∀ {l : List Nat}, B8 l → ∀ e, Rest l (f l e).2.1) (hp : ∀ {l : List Nat}, B8 l → ∀ e, P (f l e).1) {l : List Nat} (h : B8 l) (e : Int) (n : Nat) : ∀ a ∈ (rdN f l e n).1, P a := by
  induction n with
  | zero => intro a ha; cases ha
  | succ n ih =>
    intro a ha
    rcases List.mem_append.1 ha with ha | ha
    · exact ih a ha
    · rw [List.mem_singleton] at ha
      subst ha
      exact hp (rdN_rest hf h e n).2 _
end Go.Proofs.Ytjdebdfbjcpjgaa.Ss
end
section
/- A Reader beside other blocks. Cut out of SessRd so that every seat fills it. -/
namespace Go.Proofs.Ytjdebdfbjcpjgaa.Ss
open Go Go.RowKit Vl Kv Mem Nm
theorem RAt.seto {w : World} {br bs : Nat} {l : List Nat} {e : Int} (h : Pk.RAt w br bs l e) {b : Nat} (h1 : b ≠ br) (h2 : l ≠ [] → b ≠ bs) (i : Nat) (v : Value) : Pk.RAt (w.setCell ⟨b, i, none⟩ v) br bs l e :=
  h.kept ((Kept.refl (Only b) w).setAt (.inl rfl) i v) (fun e => h1 e.symm) (fun hl e => h2 hl e.symm)
theorem RAt.allo {w : World} {br bs : Nat} {l : List Nat} {e : Int} (h : Pk.RAt w br bs l e) (o : Obj) : Pk.RAt (w.alloc o) br bs l e :=
  h.kept (S := None) ((Kept.refl _ _).alloc _) (fun h => h) (fun _ h => h)
theorem RAt.lt1 {w : World} {br bs : Nat} {l : List Nat} {e : Int} (h : Pk.RAt w br bs l e) : br < w.heap.size := by
  obtain ⟨a, cap, hh, _⟩ := h; exact lt_of_heap hh
theorem RAt.lt2 {w : World} {br bs : Nat} {l : List Nat} {e : Int} (h : Pk.RAt w br bs l e) (hl : l ≠ []) : bs < w.heap.size := by
  obtain ⟨a, cap, _, hs, _⟩ := h; exact hs.lt hl
/-- the blocks that two worlds have: all but one are as they were -/
theorem keptO {br : Nat} {w w' : World} (h : Kept (Only br) w w') {n : Nat} {o : Obj} (hn : w.heap[n]? = some o) (hne : n ≠ br) : w'.heap[n]? = some o := h.heap hn (fun e => hne e)
end Go.Proofs.Ytjdebdfbjcpjgaa.Ss
end
section
/- The Reader's Left and Done. -/
namespace Go.Proofs.Ytjdebdfbjcpjgaa.Pk
open Go Go.RowKit Mem

set_option maxHeartbeats 400000 in
theorem Left_any (br bs : Nat) (l : List Nat) (e : Int) (w : World) (h : RAt w br bs l e) :
    Calls Try.prog 93 #[.pointer (some ⟨br, 0, none⟩)] w fun e w' => e = .returned (.int .i64 l.length) ∧ w = w' := by
  obtain ⟨a, cap, hh, hs, _, _, _⟩ := h
  have c0 := cell_heap hh 0
  have f0 := frozen_heap hh 0
  simp at c0
  clear hh hs
  go_enter Try.func93, Try.ntmps93
  go_wp2
  go_ret
  exact ⟨rfl, rfl⟩
set_option maxHeartbeats 400000 in
theorem Done_any (br bs : Nat) (l : List Nat) (e : Int) (w : World) (h : RAt w br bs l e) :
    Calls Try.prog 78 #[.pointer (some ⟨br, 0, none⟩)] w fun e' w' => e' = .returned (.int .i64 (doneOf l e)) ∧ w = w' := by
  obtain ⟨a, cap, hh, hs, _, _, he⟩ := h
  have c0 := cell_heap hh 0
  have c1 := cell_heap hh 1
  simp at c0 c1
  clear hh hs
  by_cases h0 : e = 0
  · subst h0
    by_cases hl : 0 < l.length
    · have hl' : decide (0 < l.length) = true := by simpa using hl
      go_enter Try.func78, Try.ntmps78
      go_wp2
      go_ret
      exact ⟨ret_int (by simp [doneOf, hl]), rfl⟩
    · have hl' : decide (0 < l.length) = false := by simpa using hl
      have he' := Lib.hid he
      have HL := Lib.hid hl
      clear he hl
      go_enter Try.func78, Try.ntmps78
      go_wp2
      go_ret
      exact ⟨ret_int (by simp [doneOf, HL.out]), rfl⟩
  · have h0' : (e == 0) = false := by simpa using h0
    have he' := Lib.hid he
    have H0 := Lib.hid h0
    clear he h0
    go_enter Try.func78, Try.ntmps78
    go_wp2
    go_ret
    exact ⟨ret_int (by simp [doneOf, H0.out]), rfl⟩
end Go.Proofs.Ytjdebdfbjcpjgaa.Pk
end
section
/- The Reader's Mark. -/
namespace Go.Proofs.Ytjdebdfbjcpjgaa.Pk
open Go Go.RowKit Mem
/-- what Mark answers -/
def MarkPost (br bs : Nat) (l : List Nat) (e : Int) (w : World) (x : Ending) (w' : World) : Prop :=
  match rdMark l with
  | some (n, r) => x = .returned (.bool n) ∧ RAt w' br bs r e ∧ Kept (Only br) w w'
  | none => Fell br bs (keep e 3) (.bool false) w x w'
theorem markPost_none {br bs : Nat} {l : List Nat} {e : Int} {w : World} {x : Ending} {w' : World} (h : rdMark l = none) (hp : Fell br bs (keep e 3) (.bool false) w x w') : MarkPost br bs l e w x w' := by
  unfold MarkPost; rw [h]; exact hp
theorem markPost_some {br bs : Nat} {l r : List Nat} {z : Bool} {e : Int} {w : World} {x : Ending} {w' : World} (h : rdMark l = some (z, r)) (hx : x = .returned (.bool z)) (hr : RAt w' br bs r e) (hk : Kept (Only br) w w') : MarkPost br bs l e w x w' := by
  unfold MarkPost; rw [h]; exact ⟨hx, hr, hk⟩
attribute [local go_sem] eq_nil
set_option maxHeartbeats 1000000 in
theorem RMark_any (br bs : Nat) (l : List Nat) (e : Int) (w : World) (h : RAt w br bs l e) :
    Calls Try.prog 112 #[.pointer (some ⟨br, 0, none⟩)] w (MarkPost br bs l e w) := by
  cases l with
  | nil =>
    have HR := Lib.hid h
    clear h
    go_enter Try.func112, Try.ntmps112
    go_wp2_with (first | (go_at_call 123; refine (take_no br bs [] e 1 _ HR.out (.inr (by decide))).mono ?_; rintro x w' ⟨rfl, h1, h2⟩))
    go_ret
    exact markPost_none rfl ⟨rfl, h1, h2⟩
  | cons y r =>
    have hy : y < 256 := by obtain ⟨_, _, _, _, h8, _⟩ := h; exact h8 y (List.mem_cons_self ..)
    have HR := Lib.hid h
    clear h
    by_cases hy1 : 1 < y
    · go_enter Try.func112, Try.ntmps112
      go_wp2_with fail
      refine (take_ok br bs (y :: r) e 1 _ HR.out (by simp)).mono ?_
      rintro x w1 ⟨a, cap, rfl, hs, hr, hk, hn⟩
      obtain ⟨off, rfl, hc⟩ := first_cell hs hn
      have HR1 := Lib.hid hr
      clear hr hs hn
      go_wp2_with fail
      refine (fail_any br bs r e _ _ HR1.out).mono ?_
      rintro x w' ⟨rfl, h1, h2⟩
      have hc2 : w'.cell? ⟨bs, off, none⟩ = some (.int .u8 y) := by
        rw [h2.cell (p := ⟨bs, off, none⟩) (World.block_lt_of_cell? w1 _ hc) (not_self HR1.out.ne)]; exact hc
      have hyn : ((y : Int) == 1) = false := beq_eq_false_iff_ne.2 (by omega)
      go_wp2
      go_ret
      exact markPost_none (by simp [rdMark, hy1]) ⟨rfl, h1, hk.trans h2⟩
    · have hyl : decide (1 < (y : Int)) = false := by simp; omega
      go_enter Try.func112, Try.ntmps112
      go_wp2_with fail
      refine (take_ok br bs (y :: r) e 1 _ HR.out (by simp)).mono ?_
      rintro x w1 ⟨a, cap, rfl, hs, hr, hk, hn⟩
      obtain ⟨off, rfl, hc⟩ := first_cell hs hn
      have HR1 := Lib.hid hr
      clear hr hs hn
      obtain ⟨q, hq⟩ : ∃ q, ((y : Int) == 1) = q := ⟨_, rfl⟩
      go_wp2
      go_ret
      exact markPost_some (z := q) (by rw [← hq, beq_one]; simp [rdMark, hy1]) rfl HR1.out hk

end Go.Proofs.Ytjdebdfbjcpjgaa.Pk
end
section
/- What the landed writers tell, in the codes' words. -/
namespace Go.Proofs.Ytjdebdfbjcpjgaa.Wr
open Go Go.RowKit Vl Kv Ss Cn Mem Lg Nm
theorem eR_is (x : E) : eR (some []) x = if okE x = true then some (some (cEnt.enc x)) else none := rfl
theorem cHard_enc (h : H) : cHard.enc h = hHead h ++ (Pk.textB h.snap ++ listB h.log) := by
  show Pk.intB h.term ++ (Pk.intB h.vote ++ (Pk.intB h.base ++ (Pk.intB h.bterm ++ (cConf.enc h.conf ++ (Pk.textB h.snap ++ (cList cEnt (fun _ => true)).enc h.log))))) = _
  rw [listB_enc rfl]
  unfold hHead
  simp only [List.append_assoc]
theorem hR_is (h : H) : hR (some []) h = if okL h.log = true then (if h.snap.length ≤ 16384 then some (some (cHard.enc h)) else some none) else none := by
  unfold hR
  by_cases hk : okL h.log = true
  · rw [if_pos hk, if_pos hk]
    unfold appT
    by_cases hs : h.snap.length ≤ 16384
    · rw [if_pos hs, if_pos hs, cHard_enc]
      show some (some (([] ++ hHead h ++ Pk.textB h.snap) ++ listB h.log)) = _
      simp only [List.nil_append, List.append_assoc]
    · rw [if_neg hs, if_neg hs]; rfl
  · rw [if_neg hk, if_neg hk]
theorem cHead_enc {f : Fl} (h : f.ents.length ≤ 8) : cHead.enc f = mHead f ++ Pk.textB f.snap := by
  show Pk.intB f.kind ++ (Pk.intB f.from_ ++ (Pk.intB f.to ++ (Pk.intB f.term ++ (Pk.intB f.index ++ (Pk.intB f.logt ++ (Pk.intB f.commit ++ (Pk.intB f.round ++ (Pk.markB f.yes ++ ((cList cEnt (fun n => decide (n ≤ 8))).enc f.ents ++ (cConf.enc f.conf ++ Pk.textB f.snap)))))))))) = _
  rw [listB_enc (decide_eq_true (by omega))]
  unfold mHead mNums
  simp only [List.append_assoc]
theorem cInner_enc {f : Fl} (h : f.ents.length ≤ 8) : cInner.enc f = mHead f ++ (Pk.textB f.snap ++ Pk.intB 0) := by
  show cHead.enc f ++ (Pk.intB 0 ++ (if (0 : Int) = 0 then Cod.one () else Cod.non).enc ()) = _
  rw [cHead_enc h, if_pos rfl]
  show _ ++ (Pk.intB 0 ++ []) = _
  simp only [List.append_assoc, List.append_nil]
/-- a message, its inner ones in a list -/
def me (x : Mr) (L : List Mr) : Me := ⟨x.1, L.map Prod.fst⟩
theorem okF_len {f : Fl} (h : okF f = true) : f.ents.length ≤ 8 := by
  unfold okF at h
  rw [Bool.and_eq_true, decide_eq_true_eq] at h
  omega
theorem mI_some {l : List Nat} {f : Fl} (hk : okF f = true) (hs : f.snap.length ≤ 16384) : mI (some l) f = some (l ++ cInner.enc f) := by
  unfold mI mS appT
  rw [if_pos hs, cInner_enc (okF_len hk)]
  show some (((l ++ mHead f) ++ Pk.textB f.snap) ++ Pk.intB 0) = _
  simp only [List.append_assoc]
theorem mI_long {o : Option (List Nat)} {f : Fl} (hs : ¬ f.snap.length ≤ 16384) : mI o f = none := by
  unfold mI mS appT
  rw [if_neg hs]; rfl
theorem mI_none (f : Fl) : mI none f = none := by
  unfold mI mS appT
  by_cases hs : f.snap.length ≤ 16384
  · rw [if_pos hs]; rfl
  · rw [if_neg hs]; rfl
theorem fold_none (L : List Mr) : L.foldl (fun o y => mI o y.1) none = none := by
  induction L with
  | nil => rfl
  | cons y r ih => rw [List.foldl_cons, mI_none]; exact ih
theorem fold_some {L : List Mr} (l : List Nat) (hk : ∀ y ∈ L, okF y.1 = true) (hs : ∀ y ∈ L, y.1.snap.length ≤ 16384) : L.foldl (fun o y => mI o y.1) (some l) = some (l ++ (L.map Prod.fst).flatMap cInner.enc) := by
  induction L generalizing l with
  | nil => simp
  | cons y r ih =>
    rw [List.foldl_cons, mI_some (hk y (List.mem_cons_self ..)) (hs y (List.mem_cons_self ..)), ih _ (fun z hz => hk z (List.mem_cons_of_mem _ hz)) (fun z hz => hs z (List.mem_cons_of_mem _ hz))]
    simp
theorem fold_long {L : List Mr} (o : Option (List Nat)) (hs : ¬ ∀ y ∈ L, y.1.snap.length ≤ 16384) : L.foldl (fun o y => mI o y.1) o = none := by
  induction L generalizing o with
  | nil => exact absurd (fun y hy => nomatch hy) hs
  | cons y r ih =>
    rw [List.foldl_cons]
    by_cases h1 : y.1.snap.length ≤ 16384
    · refine ih _ fun h2 => hs fun z hz => ?_
      rcases List.mem_cons.1 hz with rfl | hz
      · exact h1
      · exact h2 z hz
    · rw [mI_long h1]; exact fold_none r
def snapsOk (x : Mr) (L : List Mr) : Prop := x.1.snap.length ≤ 16384 ∧ ∀ y ∈ L, y.1.snap.length ≤ 16384
def mayM (x : Mr) (L : List Mr) : Prop := okF x.1 = true ∧ (x.2.n : Int) ≤ 16 ∧ L.all okI = true
theorem okI_flat {L : List Mr} (h : L.all okI = true) : ∀ y ∈ L, okF y.1 = true ∧ y.2.n = 0 := fun y hy => by
  have := List.all_eq_true.1 h y hy
  unfold okI at this
  rw [Bool.and_eq_true, decide_eq_true_eq] at this
  exact this
theorem mR_yes {x : Mr} {L : List Mr} (hn : L.length = x.2.n) (h : mayM x L) (hs : snapsOk x L) : mR (some []) x L 16 = some (some (cMsg.enc (me x L))) := by
  unfold mR
  rw [if_pos (c := okF x.1 = true ∧ (x.2.n : Int) ≤ 16 ∧ L.all okI = true) h]
  obtain ⟨h1, h2, h3⟩ := h
  have e0 : app (mS (some []) x.1) (Pk.intB x.2.n) = some (cHead.enc x.1 ++ Pk.intB x.2.n) := by
    unfold mS appT
    rw [if_pos hs.1, cHead_enc (okF_len h1)]
    rfl
  rw [e0, fold_some _ (fun y hy => (okI_flat h3 y hy).1) hs.2]
  have e1 : cMsg.enc (me x L) = cHead.enc x.1 ++ (Pk.intB x.2.n ++ (L.map Prod.fst).flatMap cInner.enc) := by
    show cHead.enc x.1 ++ (cList cInner (fun n => decide (n ≤ 16))).enc (L.map Prod.fst) = _
    rw [cList_enc cInner (by rw [List.length_map]; exact decide_eq_true (by omega)), List.length_map, hn]
  rw [e1, List.append_assoc]
theorem mR_long {x : Mr} {L : List Mr} (h : mayM x L) (hs : ¬ snapsOk x L) : mR (some []) x L 16 = some none := by
  unfold mR
  rw [if_pos (c := okF x.1 = true ∧ (x.2.n : Int) ≤ 16 ∧ L.all okI = true) h]
  by_cases h1 : x.1.snap.length ≤ 16384
  · rw [fold_long _ (fun h2 => hs ⟨h1, h2⟩)]
  · have e0 : app (mS (some []) x.1) (Pk.intB x.2.n) = none := by
      unfold mS appT
      rw [if_neg h1]; rfl
    rw [e0, fold_none]
theorem mR_no {x : Mr} {L : List Mr} (h : ¬ mayM x L) : mR (some []) x L 16 = none := if_neg h
/-- what a writer tells: P: it may be written -/
def Told (P : Prop) (l : List Nat) (w : World) (e : Ending) (w' : World) : Prop :=
  Beh w w' ∧ ((P ∧ l.length ≤ 16384 ∧ ∃ b a cap, e = .returned (.tuple #[.slice a l.length cap, .int .i64 0]) ∧ OwnB 5 w' b a cap l ∧ w.heap.size ≤ b) ∨
    (¬ (P ∧ l.length ≤ 16384) ∧ ∃ c : Int, c ≠ 0 ∧ e = .returned (.tuple #[.slice none 0 0, .int .i64 c])))
theorem EncTold.told {r : Option (Option (List Nat))} {P : Prop} {l : List Nat} {w w' : World} {e : Ending} (h : EncTold r w e w') (hy : P → r = some (some l)) (hn : ¬ P → r = none ∨ r = some none) : Told P l w e w' := by
  obtain ⟨hb, h⟩ := h
  refine ⟨hb, ?_⟩
  by_cases hP : P
  · rw [hy hP] at h
    simp only at h
    by_cases hl : l.length ≤ 16384
    · exact .inl ⟨hP, hl, h.1 hl⟩
    · exact .inr ⟨fun x => hl x.2, 2, by decide, h.2 (by omega)⟩
  · rcases hn hP with e1 | e1
    · rw [e1] at h
      exact .inr ⟨fun x => hP x.1, 3, by decide, h⟩
    · rw [e1] at h
      exact .inr ⟨fun x => hP x.1, 2, by decide, h⟩
theorem Entry_told {x : E} (hf : FitE x) (w : World) : Calls Try.prog 11 #[x.agg] w (Told (cEnt.ok x) (cEnt.enc x) w) :=
  (Entry_any hf).mono fun e w' h => h.told (fun hP => by rw [eR_is, if_pos ((cEnt_ok hf).1 hP)]) (fun hP => .inl (by rw [eR_is, if_neg (fun h => hP ((cEnt_ok hf).2 h))]))
theorem FitS.of_ok {h : H} (hf : FitS h) (hs : h.snap.length ≤ 16384) : FitH h := ⟨hf.term, hf.vote, hf.base, hf.bterm, hf.conf, ⟨hs, hf.b8⟩, ⟨by have := hf.len; exact ⟨by omega, by omega⟩, hf.log⟩⟩
theorem hard_snap {h : H} (o : cHard.ok h) : h.snap.length ≤ 16384 := by
  have o : In64 h.term ∧ In64 h.vote ∧ In64 h.base ∧ In64 h.bterm ∧ cConf.ok h.conf ∧ (h.snap.length ≤ 16384 ∧ B8 h.snap) ∧ _ := o
  exact o.2.2.2.2.2.1.1
theorem Hard_told {h : H} {p : Hp} {w : World} (hp : HardAt w h p) (hf : FitS h) : Calls Try.prog 19 #[h.val p] w (Told (cHard.ok h) (cHard.enc h) w) :=
  (Hard_any hp hf).mono fun e w' x => x.told
    (fun hP => by rw [hR_is, if_pos ((cHard_ok (hf.of_ok (hard_snap hP))).1 hP), if_pos (hard_snap hP)])
    (fun hP => by
      rw [hR_is]
      by_cases hk : okL h.log = true
      · by_cases hs : h.snap.length ≤ 16384
        · exact absurd ((cHard_ok (hf.of_ok hs)).2 hk) hP
        · rw [if_pos hk, if_neg hs]; exact .inr rfl
      · rw [if_neg hk]; exact .inl rfl)
theorem FitR.fit {f : Fl} (h : FitR f) (hs : f.snap.length ≤ 16384) : FitF f := ⟨h.kind, h.from_, h.to, h.term, h.index, h.logt, h.commit, h.round, ⟨by have := h.len; exact ⟨by omega, by omega⟩, h.ents⟩, h.conf, ⟨hs, h.b8⟩⟩
/-- a message that may be written -/
def okM (x : Mr) (L : List Mr) : Prop := cMsg.ok (me x L) ∧ ∀ y ∈ L, y.2.n = 0
theorem okM_snaps {x : Mr} {L : List Mr} (h : cMsg.ok (me x L)) : snapsOk x L := by
  have h : cHead.ok x.1 ∧ (cList cInner (fun n => decide (n ≤ 16))).ok (L.map Prod.fst) := h
  have hs : ∀ f, cHead.ok f → f.snap.length ≤ 16384 := fun f o => by
    have o : In64 f.kind ∧ In64 f.from_ ∧ In64 f.to ∧ In64 f.term ∧ In64 f.index ∧ In64 f.logt ∧ In64 f.commit ∧ In64 f.round ∧ True ∧ (cList cEnt (fun n => decide (n ≤ 8))).ok f.ents ∧ cConf.ok f.conf ∧ (f.snap.length ≤ 16384 ∧ B8 f.snap) := o
    exact o.2.2.2.2.2.2.2.2.2.2.2.1
  refine ⟨hs _ h.1, fun y hy => ?_⟩
  have h3 := ((cList_ok cInner).1 h.2).2.2 y.1 (List.mem_map_of_mem hy)
  exact hs _ (show cHead.ok y.1 ∧ _ from h3).1
theorem okM_iff {x : Mr} {L : List Mr} (hf : FitMs x L) : okM x L ↔ mayM x L ∧ snapsOk x L := by
  have key : snapsOk x L → FitMe (me x L) := fun hs => ⟨hf.head.fit hs.1, by show In64 ((L.map Prod.fst).length : Int); rw [List.length_map]; have := hf.few; exact ⟨by omega, by omega⟩, fun f hm => by
    obtain ⟨y, hy, rfl⟩ := List.mem_map.1 (show f ∈ L.map Prod.fst from hm)
    exact (hf.all y hy).1.fit (hs.2 y hy)⟩
  constructor
  · rintro ⟨h1, h2⟩
    have hs := okM_snaps h1
    have h3 := (cMsg_ok (key hs)).1 h1
    unfold okMe at h3
    rw [Bool.and_eq_true, Bool.and_eq_true, decide_eq_true_eq, List.all_eq_true] at h3
    have h4 : ((L.map Prod.fst).length : Int) ≤ 16 := h3.1.2
    rw [List.length_map, hf.len] at h4
    refine ⟨⟨h3.1.1, h4, List.all_eq_true.2 fun y hy => ?_⟩, hs⟩
    unfold okI
    rw [Bool.and_eq_true, decide_eq_true_eq]
    exact ⟨h3.2 y.1 (List.mem_map_of_mem hy), h2 y hy⟩
  · rintro ⟨⟨h1, h2, h3⟩, hs⟩
    refine ⟨(cMsg_ok (key hs)).2 ?_, fun y hy => (okI_flat h3 y hy).2⟩
    unfold okMe
    rw [Bool.and_eq_true, Bool.and_eq_true, decide_eq_true_eq, List.all_eq_true]
    refine ⟨⟨h1, by show ((L.map Prod.fst).length : Int) ≤ 16; rw [List.length_map, hf.len]; exact h2⟩, fun f hm => ?_⟩
    obtain ⟨y, hy, rfl⟩ := List.mem_map.1 (show f ∈ L.map Prod.fst from hm)
    exact (okI_flat h3 y hy).1
theorem Msg_told {x : Mr} {L : List Mr} {w : World} (hp : MsgAt w x L) (hf : FitMs x L) : Calls Try.prog 27 #[x.val] w (Told (okM x L) (cMsg.enc (me x L)) w) :=
  (Msg_any hp hf).mono fun e w' h => h.told
    (fun hP => mR_yes hf.len ((okM_iff hf).1 hP).1 ((okM_iff hf).1 hP).2)
    (fun hP => by
      by_cases hk : mayM x L
      · exact .inr (mR_long hk fun hs => hP ((okM_iff hf).2 ⟨hk, hs⟩))
      · exact .inl (mR_no hk))
end Go.Proofs.Ytjdebdfbjcpjgaa.Wr
end
section
/- What may be written fits. Plain. -/
namespace Go.Proofs.Ytjdebdfbjcpjgaa.Wr
open Go Go.RowKit Vl Kv Ss Cn Mem Lg Nm
theorem z64 : In64 0 := ⟨by decide, by decide⟩
theorem s0 : (⟨#[]⟩ : ByteArray).size ≤ 16384 := by decide
theorem n0 : (0 : Nat) < 18446744073709551616 := by decide
theorem fitV_zero : FitV V.zero := ⟨z64, by decide, by decide⟩
theorem fitCl_zero : FitCl Cl.zero := ⟨z64, z64, z64, by decide, fitV_zero, fitV_zero⟩
theorem fitC_zero : FitC C.zero := ⟨z64, z64, z64, z64⟩
theorem fitE_zero : FitE E.zero := ⟨z64, z64, fitCl_zero, fitC_zero⟩
theorem fitV_of {v : V} (h : cVal.ok v) : FitV v := by
  obtain ⟨k, n, t⟩ := v
  have h : In64 k ∧ (valPart k).ok (n, t) := h
  obtain ⟨hk, h⟩ := h
  unfold valPart at h
  by_cases h1 : k = 1
  · rw [if_pos h1] at h
    have h : ((n < 18446744073709551616 ∧ Nm.canon n = n) ∧ (n, (⟨#[]⟩ : ByteArray)) = (n, t)) := h
    have ht : (⟨#[]⟩ : ByteArray) = t := congrArg Prod.snd h.2
    exact ⟨hk, h.1.1, by rw [← ht]; exact s0⟩
  · rw [if_neg h1] at h
    by_cases h2 : k = 2
    · rw [if_pos h2] at h
      have h : (cKey.ok t ∧ ((0 : Nat), t) = (n, t)) := h
      have hn : 0 = n := congrArg Prod.fst h.2
      exact ⟨hk, by rw [← hn]; exact n0, cKey_ok.1 h.1⟩
    · rw [if_neg h2] at h
      by_cases h0 : k = 0
      · rw [if_pos h0] at h
        have h : (n, t) = ((0 : Nat), (⟨#[]⟩ : ByteArray)) := h
        have hn : n = 0 := congrArg Prod.fst h
        have ht : t = ⟨#[]⟩ := congrArg Prod.snd h
        exact ⟨hk, by rw [hn]; exact n0, by rw [ht]; exact s0⟩
      · rw [if_neg h0] at h
        exact (h : False).elim
theorem fitCl_of {c : Cl} (h : cCall.ok c) : FitCl c := by
  have h : In64 c.client ∧ In64 c.seq ∧ (In64 c.cmd.kind ∧ cKey.ok c.cmd.key ∧ cVal.ok c.cmd.old ∧ cVal.ok c.cmd.val) := h
  exact ⟨h.1, h.2.1, h.2.2.1, cKey_ok.1 h.2.2.2.1, fitV_of h.2.2.2.2.1, fitV_of h.2.2.2.2.2⟩
theorem fitC_of {c : C} (h : cConf.ok c) : FitC c := by
  have h : In64 c.f ∧ In64 c.w ∧ In64 c.l ∧ In64 c.x := h
  exact ⟨h.1, h.2.1, h.2.2.1, h.2.2.2⟩
theorem fitE_of {x : E} (h : cEnt.ok x) : FitE x := by
  obtain ⟨t, k, c, f⟩ := x
  have h : (In64 t ∧ In64 k) ∧ (entPart k).ok (c, f) := h
  obtain ⟨⟨ht, hk⟩, h⟩ := h
  unfold entPart at h
  by_cases h1 : k = 1
  · rw [if_pos h1] at h
    have h : (cCall.ok c ∧ (c, C.zero) = (c, f)) := h
    have hf : C.zero = f := congrArg Prod.snd h.2
    exact ⟨ht, hk, fitCl_of h.1, hf ▸ fitC_zero⟩
  · rw [if_neg h1] at h
    by_cases h2 : k = 2
    · rw [if_pos h2] at h
      have h : (cConf.ok f ∧ (Cl.zero, f) = (c, f)) := h
      have hc : Cl.zero = c := congrArg Prod.fst h.2
      exact ⟨ht, hk, hc ▸ fitCl_zero, fitC_of h.1⟩
    · rw [if_neg h2] at h
      by_cases h0 : k = 0
      · rw [if_pos h0] at h
        have h : (c, f) = (Cl.zero, C.zero) := h
        have hc : c = Cl.zero := congrArg Prod.fst h
        have hf : f = C.zero := congrArg Prod.snd h
        exact ⟨ht, hk, hc ▸ fitCl_zero, hf ▸ fitC_zero⟩
      · rw [if_neg h0] at h
        exact (h : False).elim
theorem fitS_of {h : H} (o : cHard.ok h) (hl : (cHard.enc h).length ≤ 16384) : FitS h := by
  have o : In64 h.term ∧ In64 h.vote ∧ In64 h.base ∧ In64 h.bterm ∧ cConf.ok h.conf ∧ (h.snap.length ≤ 16384 ∧ B8 h.snap) ∧ (cList cEnt (fun _ => true)).ok h.log := o
  obtain ⟨o1, o2, o3, o4, o5, o6, o7⟩ := o
  have h1 := ((cList_ok cEnt).1 o7).2.2
  have h2 := flat_ge (f := cEnt.enc) (n := 2) (L := h.log) (fun x _ => cEnt_len x)
  rw [cHard_enc] at hl
  unfold listB at hl
  simp only [List.length_append] at hl
  exact ⟨o1, o2, o3, o4, fitC_of o5, o6.2, by have := o6.1; omega, fun x hx => fitE_of (h1 x hx), by omega⟩
theorem fitR_of {f : Fl} (o : cHead.ok f) : FitR f := by
  have o : In64 f.kind ∧ In64 f.from_ ∧ In64 f.to ∧ In64 f.term ∧ In64 f.index ∧ In64 f.logt ∧ In64 f.commit ∧ In64 f.round ∧ True ∧ (cList cEnt (fun n => decide (n ≤ 8))).ok f.ents ∧ cConf.ok f.conf ∧ (f.snap.length ≤ 16384 ∧ B8 f.snap) := o
  obtain ⟨o1, o2, o3, o4, o5, o6, o7, o8, _, o9, o10, o11, o12⟩ := o
  have h1 := (cList_ok cEnt).1 o9
  have h2 := of_decide_eq_true h1.2.1
  exact ⟨o1, o2, o3, o4, o5, o6, o7, o8, fun x hx => fitE_of (h1.2.2 x hx), by omega, fitC_of o10, o12, by omega⟩
theorem fitMs_of {x : Mr} {L : List Mr} (o : cMsg.ok (me x L)) (hn : L.length = x.2.n) (hz : ∀ y ∈ L, y.2.n = 0) : FitMs x L := by
  have o : cHead.ok x.1 ∧ (cList cInner (fun n => decide (n ≤ 16))).ok (L.map Prod.fst) := o
  have h1 := (cList_ok cInner).1 o.2
  have h2 := of_decide_eq_true h1.2.1
  rw [List.length_map] at h2
  refine ⟨fitR_of o.1, hn, by omega, fun y hy => ⟨fitR_of (show cHead.ok y.1 ∧ _ from h1.2.2 y.1 (List.mem_map_of_mem hy)).1, ?_⟩⟩
  rw [hz y hy]; omega
end Go.Proofs.Ytjdebdfbjcpjgaa.Wr
end
