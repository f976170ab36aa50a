import Derived.Test.YtbheofibdogabaaGreatMergeSb9
section
/- Walks of the Reader: Mark, Float, Text. -/
namespace Go.Proofs.YtbheofibdogabaaGreat.Pk
open Go Go.RowKit Mem
theorem first_cell {w : World} {bs cap y : Nat} {r : List Nat} {a : Option Addr} (hs : Shows w bs a cap ((y :: r).take 1)) (hn : a = none → y :: r = []) : ∃ off, a = some ⟨bs, off, none⟩ ∧ w.cell? ⟨bs, off, none⟩ = some (.int .u8 y) := by
  rcases hs.2.2 with ⟨ha, _⟩ | ⟨off, ha, hc⟩
  · have := hn ha; cases this
  · exact ⟨off, ha, hc 0 (by simp)⟩
theorem beq_one (y : Nat) : ((y : Int) == 1) = (y == 1) := by rw [Bool.eq_iff_iff]; simp; omega
theorem RAt.ne {w : World} {br bs : Nat} {l : List Nat} {e : Int} (h : RAt w br bs l e) : br ≠ bs := by
  obtain ⟨_, _, _, _, _, h, _⟩ := h; exact h
/-- what Float answers -/
def FltPost (br bs : Nat) (l : List Nat) (e : Int) (w : World) (x : Ending) (w' : World) : Prop :=
  match rdFlt l with
  | some (n, r) => x = .returned (.float .f64 n) ∧ RAt w' br bs r e ∧ Kept (Only br) w w'
  | none => Fell br bs (keep e 3) (.float .f64 0) w x w'
theorem fltPost_none {br bs : Nat} {l : List Nat} {e : Int} {w : World} {x : Ending} {w' : World} (h : rdFlt l = none) (hp : Fell br bs (keep e 3) (.float .f64 0) w x w') : FltPost br bs l e w x w' := by
  unfold FltPost; rw [h]; exact hp
theorem fltPost_some {br bs : Nat} {l r : List Nat} {z : Nat} {e : Int} {w : World} {x : Ending} {w' : World} (h : rdFlt l = some (z, r)) (hx : x = .returned (.float .f64 z)) (hr : RAt w' br bs r e) (hk : Kept (Only br) w w') : FltPost br bs l e w x w' := by
  unfold FltPost; rw [h]; exact ⟨hx, hr, hk⟩
theorem num8_snoc (l : List Nat) (k : Nat) (h : k < l.length) : num8 (l.take (k + 1)) = num8 (l.take k) * 256 + l.getD k 0 := by
  rw [List.take_succ_eq_append_getElem h]
  unfold num8
  rw [List.foldl_append]
  simp [h]
theorem num8_lt (l : List Nat) (h : B8 l) : ∀ k, k ≤ l.length → num8 (l.take k) < 256 ^ k := by
  intro k
  induction k with
  | zero => intro _; simp [num8]
  | succ k ih =>
    intro hk
    rw [num8_snoc l k hk, Nat.pow_succ]
    have := ih (by omega)
    have := h.get k
    omega
theorem num8_step {Z y : Nat} (hZ : Z ≤ 72057594037927935) (hy : y < 256) : bits .or .u64 ((Z : Int) * 256) (y : Int) = ((Z * 256 + y : Nat) : Int) := by
  have := or_low y Z hy (by omega)
  rw [Int.natCast_mul] at this
  exact this
theorem num8_small {l : List Nat} (h : B8 l) {k : Nat} (hk : k ≤ l.length) (h7 : k ≤ 7) : num8 (l.take k) ≤ 72057594037927935 := by
  have h1 := num8_lt l h k hk
  have h2 : 256 ^ k ≤ 256 ^ 7 := Nat.pow_le_pow_right (by decide) h7
  rw [show 256 ^ 7 = 72057594037927936 from rfl] at h2
  omega
attribute [local go_sem] run_bits run_frombits
set_option maxHeartbeats 1000000 in
theorem RFloat_any (br bs : Nat) (l : List Nat) (e : Int) (w : World) (h : RAt w br bs l e) :
    Calls Tryz.prog 78 #[.pointer (some ⟨br, 0, none⟩)] w (FltPost br bs l e w) := by
  have HR := Lib.hid h
  have H8 : Hid (B8 l) := by obtain ⟨_, _, _, _, h8, _⟩ := h; exact h8
  clear h
  by_cases h8 : l.length < 8
  · have h00 : ((0 : Int) != 0) = false := rfl
    go_enter Tryz.func78, Tryz.ntmps78
    go_wp2_with (first | (go_at_call 77; refine (take_no br bs l e 8 _ HR.out (.inr (by omega))).mono ?_; rintro x w' ⟨rfl, h1, h2⟩))
    refine wp_loop_rounds 1 ?_
    rw [rounds_succ]
    go_wp2_with (first | (go_at_call 71; refine (Canon_any _ _).mono ?_; rintro e w' ⟨rfl, rfl⟩))
    go_ret
    exact fltPost_none (by unfold rdFlt; rw [if_pos h8]) ⟨rfl, h1, h2⟩
  · go_enter Tryz.func78, Tryz.ntmps78
    go_wp2_with fail
    refine (take_ok br bs l e 8 _ HR.out (by omega)).mono ?_
    rintro x w1 ⟨a, cap, rfl, hs, hr, hk, hn⟩
    have HR1 := Lib.hid hr
    obtain ⟨off, rfl, hc⟩ : ∃ off, a = some ⟨bs, off, none⟩ ∧ ∀ i, i < 8 → w1.cell? ⟨bs, off + i, none⟩ = some (.int .u8 (l.getD i 0)) := by
      rcases hs.2.2 with ⟨ha, _⟩ | ⟨off, ha, hc⟩
      · have := hn ha; subst this; simp at h8
      · refine ⟨off, ha, fun i hi => ?_⟩
        rw [hc i (by rw [List.length_take]; omega)]
        simp [List.getD, hi]
    have HC := Lib.hid hc
    clear hr hs hn hc
    go_wp2
    go_loop [3, 10] (fun z i => ∃ k Z : Nat, k ≤ 8 ∧ i = .int .i64 k ∧ z = .int .u64 Z ∧ Hid (Z = num8 (l.take k))) (fun _ i => 8 - (intOf i).toNat)
    case atStart => exact ⟨0, 0, by omega, rfl, rfl, rfl⟩
    case round =>
      obtain ⟨k, Z, hk8, rfl, rfl, hz⟩ := hrel
      by_cases hlt : k < 8
      · have hcell := HC.out k hlt
        have hy := H8.out.get k
        have hsn := Lib.hid (num8_snoc l k (by omega))
        have hZ : Z ≤ 72057594037927935 := by rw [hz.out]; exact num8_small H8.out (by omega) (by omega)
        generalize l.getD k 0 = y at *
        have HN := Lib.hid (num8_step hZ hy)
        go_wp2
        go_round
        case rel => exact ⟨k + 1, Z * 256 + y, by omega, by go_num, by rw [HN.out], by show _ = _; rw [hsn.out, hz.out]⟩
        case measure => simp [intOf]; omega
      · obtain rfl : k = 8 := by omega
        obtain ⟨q, hq⟩ : ∃ q, (((Nm.canon Z : Nat) : Int) != (Z : Int)) = q := ⟨_, rfl⟩
        cases q
        · go_wp2_with (first | (go_at_call 71; refine (Canon_any _ _).mono ?_; rintro e w' ⟨rfl, rfl⟩))
          go_ret
          refine fltPost_some ?_ rfl HR1.out hk
          unfold rdFlt
          rw [if_neg h8, ← hz.out, if_pos (by simp at hq; omega)]
        · go_wp2_with (first | (go_at_call 71; refine (Canon_any _ _).mono ?_; rintro e w' ⟨rfl, rfl⟩) | (go_at_call 76; refine (fail_any br bs _ e _ _ HR1.out).mono ?_; rintro x w' ⟨rfl, h1, h2⟩))
          go_ret
          refine fltPost_none ?_ ⟨rfl, h1, hk.trans h2⟩
          unfold rdFlt
          rw [if_neg h8, ← hz.out, if_neg (by simp at hq; omega)]

/-- what Text answers: new bytes (none, where there is an error), what is left, and the error -/
def textOut (l : List Nat) (e : Int) : List Nat × List Nat × Int := match rdText l with
  | .ok (t, r) => (t, r, e)
  | .error x => ([], [], keep e x)
def TextPost (br bs : Nat) (w : World) (o : List Nat × List Nat × Int) (x : Ending) (w' : World) : Prop :=
  ∃ b a cap, x = .returned (.slice a o.1.length cap) ∧ OwnB 5 w' b a cap o.1 ∧ w.heap.size ≤ b ∧ b ≤ w'.heap.size ∧ RAt w' br bs o.2.1 o.2.2 ∧ Kept (Only br) w w'
theorem textOut_err {l : List Nat} {e x : Int} (h : rdText l = .error x) : textOut l e = ([], [], keep e x) := by unfold textOut; rw [h]
theorem textOut_ok {l t r : List Nat} {e : Int} (h : rdText l = .ok (t, r)) : textOut l e = (t, r, e) := by unfold textOut; rw [h]
theorem RAt.kept {w w' : World} {br bs : Nat} {l : List Nat} {e : Int} {S : Nat → Prop} (h : RAt w br bs l e) (hk : Kept S w w') (h1 : ¬ S br) (h2 : l ≠ [] → ¬ S bs) : RAt w' br bs l e := by
  obtain ⟨a, cap, hh, hs, h3⟩ := h
  exact ⟨a, cap, hk.heap hh h1, hs.kept hk h2, h3⟩
theorem RAt.len {w : World} {br bs : Nat} {l : List Nat} {e : Int} (h : RAt w br bs l e) : B8 l ∧ (e ≠ 0 → l = []) := by
  obtain ⟨_, _, _, _, h8, _, he⟩ := h; exact ⟨h8, he⟩
theorem keep_keep (e x y : Int) (hx : x ≠ 0) : keep (keep e x) y = keep e x := by unfold keep; split <;> simp_all
set_option maxHeartbeats 1000000 in
theorem RText_any (br bs : Nat) (l : List Nat) (e : Int) (w : World) (h : RAt w br bs l e) (hl : l.length ≤ 35184372088832) :
    Calls Tryz.prog 54 #[.pointer (some ⟨br, 0, none⟩)] w (TextPost br bs w (textOut l e)) := by
  have HR := Lib.hid h
  have H8 := Lib.hid h.len.1
  clear h
  cases hd : rdInt l with
  | none =>
    have HD := Lib.hid hd
    clear hd
    go_enter Tryz.func54, Tryz.ntmps54
    go_wp2_with fail
    refine (RInt_any br bs l e w HR.out hl).mono ?_
    intro x w1 hp
    unfold IntPost at hp
    rw [HD.out] at hp
    obtain ⟨rfl, h1, h2⟩ := hp
    have HR1 := Lib.hid h1
    have h00 : decide ((16384 : Int) < 0) = false := rfl
    go_wp2_with fail
    refine (take_ok br bs [] (keep e 3) 0 _ HR1.out (Nat.le_refl _)).mono ?_
    rintro x w2 ⟨a, cap, rfl, hs, hr, hk, hn⟩
    have HR2 := Lib.hid hr
    have HS := Lib.hid hs
    clear hr hs hn h1
    go_wp2_with fail
    refine (Clone_any bs a cap [] w2 HS.out.src (by simp)).mono ?_
    rintro x w3 ⟨b3, a3, cap3, rfl, ho, hb3, k3, hb4⟩
    have HO := Lib.hid ho
    clear ho
    go_wp2
    go_ret
    rw [textOut_err (l := l) (x := 3) (by unfold rdText; rw [HD.out])]
    exact ⟨b3, a3, cap3, rfl, HO.out, Nat.le_trans (h2.trans hk).size hb3, hb4, HR2.out.kept k3 (fun h => h) (fun _ h => h), (h2.trans hk).trans k3.ofNone⟩
  | some p =>
    obtain ⟨n, r⟩ := p
    have HD := Lib.hid hd
    clear hd
    have hb := rdInt_sound H8.out HD.out
    have hb1 := hb.2.1
    have hb2 := hb.2.2
    have hr8 : B8 r := fun x hx => H8.out x (by rw [hb.1]; exact List.mem_append_right _ hx)
    have hrl : r.length ≤ l.length := by rw [hb.1]; simp
    clear hb
    go_enter Tryz.func54, Tryz.ntmps54
    go_wp2_with fail
    refine (RInt_any br bs l e w HR.out hl).mono ?_
    intro x w1 hp
    unfold IntPost at hp
    rw [HD.out] at hp
    obtain ⟨rfl, h1, h2⟩ := hp
    have HR1 := Lib.hid h1
    clear h1
    by_cases hbig : 16384 < n
    · go_wp2_with (first | (go_at_call 76; refine (fail_any br bs _ e _ _ HR1.out).mono ?_; rintro x w' ⟨rfl, h1, h3⟩))
      go_ret
      rw [textOut_err (l := l) (x := 2) (by unfold rdText; rw [HD.out]; simp [hbig])]
      exact ⟨w.heap.size, none, 0, rfl, OwnB.nil _ _ _, Nat.le_refl _, (h2.trans h3).size, h1, h2.trans h3⟩
    · have HB := Lib.hid hbig
      by_cases hfew : n < 0 ∨ (r.length : Int) < n
      · have HF := Lib.hid hfew
        clear hfew
        go_wp2_with (first | (go_at_call 77; refine (take_no br bs r e n _ HR1.out HF.out).mono ?_; rintro x w' ⟨rfl, h1, h3⟩) | (go_at_call 47; refine (Clone_nil _).mono ?_; rintro e w' ⟨rfl, rfl⟩))
        go_ret
        rw [textOut_err (l := l) (x := 3) (by unfold rdText; rw [HD.out]; simp only; rw [if_neg (show ¬ (16384 : Int) < _ by have := HB.out; omega), if_pos HF.out])]
        exact ⟨w.heap.size, none, 0, rfl, OwnB.nil _ _ _, Nat.le_refl _, (h2.trans h3).size, h1, h2.trans h3⟩
      · obtain ⟨m, rfl⟩ : ∃ m : Nat, n = m := ⟨n.toNat, by omega⟩
        have hm : m ≤ r.length := by omega
        have HF := Lib.hid hfew
        clear hfew
        go_wp2_with fail
        refine (take_ok br bs r e m _ HR1.out hm).mono ?_
        rintro x w2 ⟨a, cap, rfl, hs, hr, hk, hn⟩
        have HR2 := Lib.hid hr
        have HS := Lib.hid hs
        clear hr hs hn
        have hlen : (r.take m).length = m := by rw [List.length_take]; omega
        have HL := Lib.hid hlen
        clear hlen
        go_wp2_with fail
        have hcl := Clone_any bs a cap (r.take m) w2 HS.out.src (by rw [HL.out]; omega)
        rw [HL.out] at hcl
        refine hcl.mono ?_
        rintro x w3 ⟨b3, a3, cap3, rfl, ho, hb3, k3, hb4⟩
        have HO := Lib.hid ho
        clear ho hcl
        go_wp2
        go_ret
        have e1 : textOut l e = (r.take m, r.drop m, e) := textOut_ok (by unfold rdText; rw [HD.out]; simp only; rw [if_neg (show ¬ (16384 : Int) < _ by have := HB.out; omega), if_neg HF.out]; simp)
        rw [e1]
        exact ⟨b3, a3, cap3, by rw [HL.out]; rfl, HO.out, Nat.le_trans (h2.trans hk).size hb3, hb4, HR2.out.kept k3 (fun h => h) (fun _ h => h), (h2.trans hk).trans k3.ofNone⟩
end Go.Proofs.YtbheofibdogabaaGreat.Pk
end
section
/- A Reader of the call's own: each method, as one step. -/
namespace Go.Proofs.YtbheofibdogabaaGreat.Pk
open Go Go.RowKit Mem
def OwnR (w wr : World) (br : Nat) (l : List Nat) (e : Int) : Prop := ∃ bs, RAt wr br bs l e ∧ w.heap.size ≤ br ∧ w.heap.size ≤ bs ∧ Kept None w wr
def intOut (l : List Nat) (e : Int) : Int × List Nat × Int := match rdInt l with | some (n, r) => (n, r, e) | none => (0, [], keep e 3)
def markOut (l : List Nat) (e : Int) : Bool × List Nat × Int := match rdMark l with | some (n, r) => (n, r, e) | none => (false, [], keep e 3)
def fltOut (l : List Nat) (e : Int) : Nat × List Nat × Int := match rdFlt l with | some (n, r) => (n, r, e) | none => (0, [], keep e 3)
theorem OwnR.keeps {w wr : World} {br : Nat} {l : List Nat} {e : Int} (h : OwnR w wr br l e) : Kept None w wr ∧ B8 l ∧ (e ≠ 0 → l = []) := by obtain ⟨_, h1, _, _, h2⟩ := h; exact ⟨h2, h1.len⟩
theorem OwnR.kept {w wr w' : World} {br : Nat} {l : List Nat} {e : Int} (h : OwnR w wr br l e) (hk : Kept None wr w') : OwnR w w' br l e := by
  obtain ⟨bs, h1, h2, h3, h4⟩ := h
  exact ⟨bs, h1.kept hk (fun h => h) (fun _ h => h), h2, h3, h4.trans hk⟩
theorem OwnR.step {w wr w' : World} {br bs : Nat} {l : List Nat} {e : Int} (h1 : RAt w' br bs l e) (h2 : w.heap.size ≤ br) (h3 : w.heap.size ≤ bs) (h4 : Kept None w wr) (hk : Kept (Only br) wr w') : OwnR w w' br l e :=
  ⟨bs, h1, h2, h3, h4.trans' hk (fun x hx => .inr (by cases hx; exact h2))⟩
theorem NewReader_own (w wr : World) (hk : Kept None w wr) (b : Nat) (a : Option Addr) (cap : Nat) (l : List Nat) (h : Src wr b a cap l) (hl : l.length ≤ 35184372088832) (h8 : B8 l) :
    Calls Tryz.prog 31 #[.slice a l.length cap] wr fun x w' => ∃ br, x = .returned (.pointer (some ⟨br, 0, none⟩)) ∧ OwnR w w' br l 0 ∧ Kept None wr w' :=
  (NewReader_any b a cap l wr h hl h8).mono fun _ _ ⟨br, bs, hx, hr, h1, h2, hk2⟩ => ⟨br, hx, ⟨bs, hr, Nat.le_trans hk.size h1, Nat.le_trans hk.size h2, hk.trans hk2⟩, hk2⟩
theorem RInt_own (w wr : World) (br : Nat) (l : List Nat) (e : Int) (h : OwnR w wr br l e) (hl : l.length ≤ 35184372088832) :
    Calls Tryz.prog 53 #[.pointer (some ⟨br, 0, none⟩)] wr fun x w' => x = .returned (.int .i64 (intOut l e).1) ∧ OwnR w w' br (intOut l e).2.1 (intOut l e).2.2 := by
  obtain ⟨bs, h1, h2, h3, h4⟩ := h
  refine (RInt_any br bs l e wr h1 hl).mono fun x w' hp => ?_
  unfold IntPost at hp
  unfold intOut
  cases hd : rdInt l with
  | none => rw [hd] at hp; exact ⟨hp.1, OwnR.step hp.2.1 h2 h3 h4 hp.2.2⟩
  | some p => rw [hd] at hp; exact ⟨hp.1, OwnR.step hp.2.1 h2 h3 h4 hp.2.2⟩
theorem RFloat_own (w wr : World) (br : Nat) (l : List Nat) (e : Int) (h : OwnR w wr br l e) :
    Calls Tryz.prog 78 #[.pointer (some ⟨br, 0, none⟩)] wr fun x w' => x = .returned (.float .f64 (fltOut l e).1) ∧ OwnR w w' br (fltOut l e).2.1 (fltOut l e).2.2 := by
  obtain ⟨bs, h1, h2, h3, h4⟩ := h
  refine (RFloat_any br bs l e wr h1).mono fun x w' hp => ?_
  unfold FltPost at hp
  unfold fltOut
  cases hd : rdFlt l with
  | none => rw [hd] at hp; exact ⟨hp.1, OwnR.step hp.2.1 h2 h3 h4 hp.2.2⟩
  | some p => rw [hd] at hp; exact ⟨hp.1, OwnR.step hp.2.1 h2 h3 h4 hp.2.2⟩
/-- what Text answers, of a Reader of the call's own -/
def TextOwn (w wr : World) (br : Nat) (l : List Nat) (e : Int) (x : Ending) (w' : World) : Prop :=
  ∃ b a cap, x = .returned (.slice a (textOut l e).1.length cap) ∧ OwnB 5 w' b a cap (textOut l e).1 ∧ wr.heap.size ≤ b ∧ b ≤ w'.heap.size ∧ OwnR w w' br (textOut l e).2.1 (textOut l e).2.2 ∧ Kept (Only br) wr w'
theorem RText_own (w wr : World) (br : Nat) (l : List Nat) (e : Int) (h : OwnR w wr br l e) (hl : l.length ≤ 35184372088832) :
    Calls Tryz.prog 54 #[.pointer (some ⟨br, 0, none⟩)] wr (TextOwn w wr br l e) := by
  obtain ⟨bs, h1, h2, h3, h4⟩ := h
  exact (RText_any br bs l e wr h1 hl).mono fun x w' ⟨b, a, cap, hx, ho, hb, hb2, hr, hk⟩ => ⟨b, a, cap, hx, ho, hb, hb2, OwnR.step hr h2 h3 h4 hk, hk⟩
end Go.Proofs.YtbheofibdogabaaGreat.Pk
end
