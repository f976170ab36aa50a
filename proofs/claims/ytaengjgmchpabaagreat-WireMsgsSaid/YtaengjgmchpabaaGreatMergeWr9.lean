import Derived.Test.YtaengjgmchpabaaGreatMergeWr8
import Derived.Deep.RegionLaw
import Derived.Test.YtaengjgmchpabaaGreatMergeWr4
import Derived.Test.YtaengjgmchpabaaGreatMergeWr7
import Derived.Test.YtaengjgmchpabaaGreatMergeWr6
section
/- The reference's Reader: Text. -/
namespace Go.Proofs.YtaengjgmchpabaaGreat.Ss
open Go Go.RowKit Vl Kv Mem Nm
attribute [local go_sem] run_bits run_frombits run_store_float

def RTextTold (w : World) (br b : Nat) (a : Option Addr) (cap : Nat) (F l : List Nat) (e : Int) (x : Ending) (w' : World) : Prop :=
  ∃ b2 a2 cap2, x = .returned (.slice a2 (Pk.textOut l e).1.length cap2) ∧ OwnB 5 w' b2 a2 cap2 (Pk.textOut l e).1 ∧ w.heap.size ≤ b2 ∧ RR w' br b a cap F (Pk.textOut l e).2.1 (Pk.textOut l e).2.2 ∧ Kept (Only br) w w'
theorem RTextTold.none_ {w w' : World} {br b : Nat} {a : Option Addr} {cap : Nat} {F l : List Nat} {e x : Int} (ho : Pk.textOut l e = ([], [], x)) (hr : RR w' br b a cap F [] x) (hk : Kept (Only br) w w') : RTextTold w br b a cap F l e (.returned (.slice none 0 0)) w' := by
  unfold RTextTold
  rw [ho]
  exact ⟨w.heap.size, none, 0, rfl, OwnB.nil _ _ _, Nat.le_refl _, hr, hk⟩
/-- None, where no error was kept -/
theorem refNone_RR {w : World} {br b : Nat} {a : Option Addr} {cap : Nat} {F : List Nat} {at_ : Nat} (hB : RBox w br a cap F.length at_ 0) (ha : at_ ≤ F.length) (hs : Src w b a cap F) (h8 : B8 F) (hne : F ≠ [] → b ≠ br) (x : Int) (hx : x ≠ 0) :
    Calls Tryz.prog 28 #[.pointer (some ⟨br, 0, none⟩), .int .i64 x] w fun y w' => y = .returned (.tuple #[]) ∧ RR w' br b a cap F [] x ∧ Kept (Only br) w w' := by
  refine (refNone_any hB x).mono ?_
  rintro y w' ⟨rfl, h2, hk⟩
  rw [if_pos rfl] at h2
  exact ⟨rfl, RR.fell h2 ha hs h8 hne hk hx, hk⟩
set_option maxHeartbeats 6400000 in
set_option maxRecDepth 100000 in
theorem refText_any {w : World} {br b : Nat} {a : Option Addr} {cap : Nat} {F l : List Nat} {e : Int} (h : RR w br b a cap F l e) (hF : F.length ≤ 100000) :
    Calls Tryz.prog 60 #[.pointer (some ⟨br, 0, none⟩)] w (RTextTold w br b a cap F l e) := by
  obtain ⟨i0, hi, hz0, hz1, hz2⟩ := info_parts Pk.infoU8
  have HI := Lib.hid (refInt_any h hF)
  have HL8 : Hid (B8 l) := by
    obtain ⟨at_, _, _, _, h8, _, h0, h1⟩ := h
    by_cases he : e = 0
    · rw [← h0 he]; exact h8.drop _
    · rw [h1 he]; exact B8.nil
  have HFL : Hid (l ≠ [] → e = 0 ∧ F ≠ []) := fun hl => by
    obtain ⟨at_, _, _, _, _, _, h0, h1⟩ := h
    by_cases he : e = 0
    · refine ⟨he, fun hF => hl ?_⟩
      rw [← h0 he, hF, List.drop_nil]
    · exact absurd (h1 he) hl
  go_enter Tryz.func60, Tryz.ntmps60
  go_wp2_with fail
  refine Calls.mono HI.out ?_
  rintro x w1 ⟨rfl, hr1, hk1⟩
  clear h HI
  have HK1 := Lib.hid hk1
  clear hk1
  cases hd : Pk.rdInt l with
  | none =>
    have h1 : Pk.intOut l e = (0, [], Pk.keep e 3) := by unfold Pk.intOut; rw [hd]
    have h2 := Lib.hid (Pk.textOut_err (l := l) (e := e) (x := 3) (by unfold Pk.rdText; rw [hd]))
    rw [h1] at hr1 ⊢
    have HR1 := Lib.hid hr1
    have hne : Pk.keep e 3 ≠ 0 := by unfold Pk.keep; split <;> omega
    have e1 : (Pk.keep e 3 != 0) = true := by simpa using hne
    obtain ⟨at_, _, hB, _⟩ := hr1
    obtain ⟨c0, c1, c2, _⟩ := cells3 hB
    simp only at c0 c1 c2
    clear hB h1 hd
    go_wp2_with fail
    go_ret
    exact RTextTold.none_ h2.out HR1.out HK1.out
  | some p =>
    obtain ⟨n, r⟩ := p
    have h1 : Pk.intOut l e = (n, r, e) := by unfold Pk.intOut; rw [hd]
    rw [h1] at hr1 ⊢
    simp only at hr1 ⊢
    have hln : l ≠ [] := fun e => by rw [e] at hd; cases hd
    obtain ⟨he, hFn⟩ := HFL.out hln
    have HFN := Lib.hid hFn
    clear hln hFn HFL
    subst he
    obtain ⟨at_, ha, hB, hs, h8, hne, h0, _⟩ := hr1
    obtain rfl := (h0 rfl).symm
    obtain ⟨c0, c1, c2, f0, f1, f2⟩ := cells3 hB
    have HB := Lib.hid hB
    have HS := Lib.hid hs
    have H8 := Lib.hid h8
    have HNE := Lib.hid hne
    have HD := Lib.hid hd
    unfold RBox at hB
    clear hB hs h8 hne h0 h1 hd
    have HN : Hid (∀ x, x ≠ 0 → ∀ wr, wr.heap = w1.heap → Kept (Only br) w1 wr → Calls Tryz.prog 28 #[.pointer (some ⟨br, 0, none⟩), .int .i64 x] wr fun y w' => y = .returned (.tuple #[]) ∧ RR w' br b a cap F [] x ∧ Kept (Only br) w w') := fun x hx wr hw hk => by
      have hb2 : RBox wr br a cap F.length at_ 0 := by unfold RBox; rw [hw]; exact HB.out
      refine (refNone_RR hb2 ha (HS.out.kept hk (fun hF hb => HNE.out hF hb)) H8.out HNE.out x hx).mono ?_
      rintro y w' ⟨h1, h2, h3⟩
      exact ⟨h1, h2, (HK1.out.trans hk).trans h3⟩
    by_cases n0 : n < 0
    · have ho := Lib.hid (Pk.textOut_err (l := l) (e := 0) (x := 3) (by unfold Pk.rdText; rw [HD.out]; simp only; rw [if_neg (by omega), if_pos (.inl n0)]))
      go_wp2_with (first | (go_at_call 28; refine Calls.mono (HN.out 3 (by decide) _ rfl (Kept.refl _ _)) ?_; rintro x w' ⟨rfl, hr, hk⟩))
      go_ret
      exact RTextTold.none_ ho.out hr hk
    · by_cases n1 : 16384 < n
      · have ho := Lib.hid (Pk.textOut_err (l := l) (e := 0) (x := 2) (by unfold Pk.rdText; rw [HD.out]; simp only; rw [if_pos n1]))
        go_wp2_with (first | (go_at_call 28; refine Calls.mono (HN.out 2 (by decide) _ rfl (Kept.refl _ _)) ?_; rintro x w' ⟨rfl, hr, hk⟩))
        go_ret
        exact RTextTold.none_ ho.out hr hk
      · obtain ⟨m, rfl⟩ : ∃ m : Nat, n = m := ⟨n.toNat, by omega⟩
        have hm : m ≤ 16384 := by omega
        clear n0 n1
        by_cases n2 : F.length - at_ < m
        · have ho := Lib.hid (Pk.textOut_err (l := l) (e := 0) (x := 3) (by unfold Pk.rdText; rw [HD.out]; simp only; rw [if_neg (by omega), if_pos (.inr (by rw [List.length_drop]; omega))]))
          have m1 : decide ((F.length : Int) - (at_ : Int) < (m : Int)) = true := decide_eq_true (by omega)
          go_wp2_with fail
          go_quiet (fail)
          go_wp2_with (first | (go_at_call 28; refine Calls.mono (HN.out 3 (by decide) _ rfl ((Kept.refl (Only br) w1).drewN _)) ?_; rintro x w' ⟨rfl, hr, hk⟩))
          go_ret
          exact RTextTold.none_ ho.out hr hk
        · have ho := Lib.hid (Pk.textOut_ok (l := l) (e := 0) (t := (F.drop at_).take m) (r := (F.drop at_).drop m) (by unfold Pk.rdText; rw [HD.out]; simp only; rw [if_neg (by omega), if_neg (by rw [List.length_drop]; omega)]; simp))
          have m1 : decide ((F.length : Int) - (at_ : Int) < (m : Int)) = false := decide_eq_false (by omega)
          have hF0 : 0 < F.length := List.length_pos_iff.2 HFN.out
          obtain ⟨off, rfl, _⟩ := HS.out.at_ hF0
          have hcap : F.length ≤ cap := by
            rcases HS.out with h | h
            · exact h.1
            · exact absurd h.1 HFN.out
          obtain ⟨o2, hA, hA2⟩ := Pk.rest_at b off cap at_
          have hT : ((F.drop at_).take m).length = m := by rw [List.length_take, List.length_drop]; omega
          have HSR : Hid (Src w1 b (some ⟨b, o2, none⟩) (cap - at_) ((F.drop at_).take m)) := by
            rcases Nat.eq_zero_or_pos m with m0 | m0
            · exact .inr ⟨List.eq_nil_of_length_eq_zero (by rw [hT, m0]), by simp⟩
            · have ho2 : o2 = off + at_ := by
                rcases hA2 with h | h
                · exact h
                · omega
              rw [ho2]
              exact src_part HS.out (by omega) m0
          have HT := Lib.hid hT
          clear hT hA2
          obtain ⟨M, hM⟩ : ∃ M, M = at_ + m := ⟨_, rfl⟩
          have e1 : (at_ : Int) + (m : Int) = (M : Int) := by omega
          have e2 : IntKind.i64.wrap (M : Int) = (M : Int) := by simp [IntKind.wrap, IntKind.bits, IntKind.signed]; omega
          have e3 : (0 : Int) ≤ (M : Int) := by omega
          have e4 : (M : Int) ≤ (cap : Int) := by omega
          have e5 : (at_ : Int) ≤ (M : Int) := by omega
          have e7 : M - at_ = m := by omega
          have e8 : at_ ≤ M := by omega
          have e9 : M ≤ cap := by omega
          have e10 : M ≤ F.length := by omega
          have HM := Lib.hid hM
          clear hM
          have HTE : Hid ((F.drop at_).drop m = F.drop M) := by show _ = _; rw [List.drop_drop, HM.out]
          obtain ⟨T, hTT⟩ : ∃ T, T = (F.drop at_).take m := ⟨_, rfl⟩
          rw [← hTT] at HSR HT ho
          clear hTT
          go_wp2_with fail
          go_quiet (fail)
          go_wp2_with fail
          go_region_law ((refine step_append_bytes rfl (.tmp 34) (.tmp 49) 25 rfl 5 i0 Tryz.underlying25 hi hz0 hz1 hz2 w1.heap.size none 0 [] 0 (by simp [Act.eval, Act.put]) (OwnB.nil _ _ _) rfl b (some ⟨b, o2, none⟩) (cap - at_) T m (by simp [Act.eval, Act.put]) ((HSR.out.kept (S := Mem.None) (show Kept Mem.None w1 _ from (Kept.refl _ w1).heap_end rfl rfl rfl rfl) (fun _ h => h))) HT.out (by omega) ?_; intro b2 a2 cap2 w8 h2 h3 h4 h5; have K8 : Hid (Kept Mem.None w1 w8) := (show Kept Mem.None w1 w8 from (h3.mono (T := Mem.None) (fun x hx => absurd rfl hx.1)).heap2 (v := w1) rfl rfl rfl rfl); have O8 := Lib.hid h2; have N8 : Hid (w1.heap.size ≤ b2) := (by show w1.heap.size ≤ b2; rcases h4 with ⟨h4, _⟩ | h4; exact Nat.le_of_eq h4.symm; exact h4); clear h2 h3 h4 h5; obtain ⟨d0, d1, d2, g0, g1, g2⟩ := cells3 (K8.out.heap HB.out (fun h => h))))
          all_goals
            go_wp2_with fail
            go_ret
            have hbr := lt_of_heap HB.out
            obtain ⟨r1, r2⟩ := RR.next (w := w1) (wr := w8) (K8.out.heap HB.out (fun h => h)) K8.out.ofNone HS.out H8.out HNE.out e10
            unfold RTextTold
            rw [ho.out]
            exact ⟨b2, a2, cap2, rfl, O8.out.kept (S := Only br) ((Kept.refl (Only br) w8).setAt (b := br) (.inl (show Only br br from rfl)) 1 _) (fun _ hb => by have := N8.out; have hb : b2 = br := hb; omega), Nat.le_trans HK1.out.size N8.out, by rw [HTE.out]; exact r1, HK1.out.trans r2⟩
end Go.Proofs.YtaengjgmchpabaaGreat.Ss
end
section
/- Cut out of SessRest so that every seat fills it. -/
namespace Go.Proofs.YtaengjgmchpabaaGreat.Ss
open Go Go.RowKit Vl Kv Mem
/-- what is left: no longer, bytes -/
def Rest (l r : List Nat) : Prop := r.length ≤ l.length ∧ B8 r
theorem Rest.trans {a b c : List Nat} (h : Rest a b) (k : Rest b c) : Rest a c := ⟨Nat.le_trans k.1 h.1, k.2⟩
theorem Rest.self {a : List Nat} (h : B8 a) : Rest a a := ⟨Nat.le_refl _, h⟩
theorem Rest.none {a : List Nat} : Rest a [] := ⟨by simp, B8.nil⟩
theorem Rest.ne {a b : List Nat} (h : Rest a b) (hb : b ≠ []) : a ≠ [] := fun e => by
  subst e
  have := h.1
  exact hb (List.eq_nil_of_length_eq_zero (by simpa using this))
theorem intOut_rest {l : List Nat} (h : B8 l) (e : Int) : Rest l (Pk.intOut l e).2.1 := by
  unfold Pk.intOut
  cases hd : Pk.rdInt l with
  | none => exact Rest.none
  | some p =>
    obtain ⟨n, r⟩ := p
    obtain ⟨h1, _⟩ := Pk.rdInt_sound h hd
    refine ⟨?_, fun x hx => h x (by rw [h1]; exact List.mem_append_right _ hx)⟩
    rw [h1, List.length_append]
    show r.length ≤ _
    omega
theorem fltOut_rest {l : List Nat} (h : B8 l) (e : Int) : Rest l (Pk.fltOut l e).2.1 := by
  unfold Pk.fltOut Pk.rdFlt
  split
  · rename_i n r hd
    split at hd
    · cases hd
    · split at hd
      · injection hd with hd
        injection hd with _ hd
        subst hd
        exact ⟨by show (l.drop 8).length ≤ _; rw [List.length_drop]; omega, h.drop _⟩
      · cases hd
  · exact Rest.none
theorem textOut_rest {l : List Nat} (h : B8 l) (e : Int) : Rest l (Pk.textOut l e).2.1 := by
  unfold Pk.textOut Pk.rdText
  cases hd : Pk.rdInt l with
  | none => exact Rest.none
  | some p =>
    obtain ⟨n, r⟩ := p
    obtain ⟨h1, _⟩ := Pk.rdInt_sound h hd
    have hr : Rest l r := ⟨by rw [h1, List.length_append]; omega, fun x hx => h x (by rw [h1]; exact List.mem_append_right _ hx)⟩
    simp only
    split
    · rename_i t r2 hd2
      split at hd2
      · cases hd2
      · split at hd2
        · cases hd2
        · injection hd2 with hd2
          injection hd2 with _ hd2
          subst hd2
          exact hr.trans ⟨by rw [List.length_drop]; omega, hr.2.drop _⟩
    · exact Rest.none
theorem rdV_rest {l : List Nat} (h : B8 l) (e : Int) : Rest l (rdV l e).2.1 := by
  have h1 := intOut_rest h e
  unfold rdV
  split
  · exact h1.trans (fltOut_rest h1.2 _)
  · split
    · exact h1.trans (textOut_rest h1.2 _)
    · exact h1
theorem rdN_rest {α : Type} {f : List Nat → Int → α × List Nat × Int} (hf : ∀ {l : List Nat}, B8 l → ∀ e, Rest l (f l e).2.1) {l : List Nat} (h : B8 l) (e : Int) (n : Nat) : Rest l (rdN f l e n).2.1 := by
  induction n with
  | zero => exact Rest.self h
  | succ n ih => exact ih.trans (hf ih.2 _)
/-- a float that is read is one -/
theorem fltOut_lt {l : List Nat} (h : B8 l) (e : Int) : (Pk.fltOut l e).1 < 18446744073709551616 := by
  unfold Pk.fltOut Pk.rdFlt
  split
  · rename_i n r hd
    split at hd
    · cases hd
    · split at hd
      · injection hd with hd
        injection hd with hd _
        subst hd
        exact (Pk.high8_num8 (l := l.take 8) (by rw [List.length_take]; omega) (h.take 8)).2
      · cases hd
  · show (0 : Nat) < 18446744073709551616; decide
theorem rdV_lt {l : List Nat} (h : B8 l) (e : Int) : (rdV l e).1.num < 18446744073709551616 := by
  have h1 := intOut_rest h e
  unfold rdV
  split
  · exact fltOut_lt h1.2 _
  · split
    · show (0 : Nat) < 18446744073709551616; decide
    · show (0 : Nat) < 18446744073709551616; decide
theorem rdN_all2 {α : Type} {f : List Nat → Int → α × List Nat × Int} {P : α → Prop} (hf : ∀ {l : List Nat}, B8 l → ∀ e, Rest l (f l e).2.1) (hp : ∀ {l : List Nat}, B8 l → ∀ e, P (f l e).1) {l : List Nat} (h : B8 l) (e : Int) (n : Nat) : ∀ a ∈ (rdN f l e n).1, P a := by
  induction n with
  | zero => intro a ha; cases ha
  | succ n ih =>
    intro a ha
    rcases List.mem_append.1 ha with ha | ha
    · exact ih a ha
    · rw [List.mem_singleton] at ha
      subst ha
      exact hp (rdN_rest hf h e n).2 _
end Go.Proofs.YtaengjgmchpabaaGreat.Ss
end
section
/- A Reader beside other blocks. Cut out of SessRd so that every seat fills it. -/
namespace Go.Proofs.YtaengjgmchpabaaGreat.Ss
open Go Go.RowKit Vl Kv Mem Nm
theorem RAt.seto {w : World} {br bs : Nat} {l : List Nat} {e : Int} (h : Pk.RAt w br bs l e) {b : Nat} (h1 : b ≠ br) (h2 : l ≠ [] → b ≠ bs) (i : Nat) (v : Value) : Pk.RAt (w.setCell ⟨b, i, none⟩ v) br bs l e :=
  h.kept ((Kept.refl (Only b) w).setAt (.inl rfl) i v) (fun e => h1 e.symm) (fun hl e => h2 hl e.symm)
theorem RAt.allo {w : World} {br bs : Nat} {l : List Nat} {e : Int} (h : Pk.RAt w br bs l e) (o : Obj) : Pk.RAt (w.alloc o) br bs l e :=
  h.kept (S := None) ((Kept.refl _ _).alloc _) (fun h => h) (fun _ h => h)
theorem RAt.lt1 {w : World} {br bs : Nat} {l : List Nat} {e : Int} (h : Pk.RAt w br bs l e) : br < w.heap.size := by
  obtain ⟨a, cap, hh, _⟩ := h; exact lt_of_heap hh
theorem RAt.lt2 {w : World} {br bs : Nat} {l : List Nat} {e : Int} (h : Pk.RAt w br bs l e) (hl : l ≠ []) : bs < w.heap.size := by
  obtain ⟨a, cap, _, hs, _⟩ := h; exact hs.lt hl
/-- the blocks that two worlds have: all but one are as they were -/
theorem keptO {br : Nat} {w w' : World} (h : Kept (Only br) w w') {n : Nat} {o : Obj} (hn : w.heap[n]? = some o) (hne : n ≠ br) : w'.heap[n]? = some o := h.heap hn (fun e => hne e)
end Go.Proofs.YtaengjgmchpabaaGreat.Ss
end
section
/- The reference's ReadValue. -/
namespace Go.Proofs.YtaengjgmchpabaaGreat.Ss
open Go Go.RowKit Vl Kv Mem Nm
attribute [local go_sem] run_bits run_frombits run_store_float

theorem RR.kept {S : Nat → Prop} {w w' : World} {br b : Nat} {a : Option Addr} {cap : Nat} {F l : List Nat} {e : Int} (h : RR w br b a cap F l e) (hk : Kept S w w') (h1 : ¬ S br) (h2 : F ≠ [] → ¬ S b) : RR w' br b a cap F l e := by
  obtain ⟨at_, ha, hB, hs, h8, hne, h0, h3⟩ := h
  exact ⟨at_, ha, hk.heap hB h1, hs.kept hk h2, h8, hne, h0, h3⟩
theorem RR.lt1 {w : World} {br b : Nat} {a : Option Addr} {cap : Nat} {F l : List Nat} {e : Int} (h : RR w br b a cap F l e) : br < w.heap.size := by
  obtain ⟨at_, ha, hB, _⟩ := h; exact lt_of_heap hB
theorem RR.lt2 {w : World} {br b : Nat} {a : Option Addr} {cap : Nat} {F l : List Nat} {e : Int} (h : RR w br b a cap F l e) (hF : F ≠ []) : b < w.heap.size := by
  obtain ⟨at_, ha, hB, hs, _⟩ := h; exact hs.lt hF
theorem RR.b8 {w : World} {br b : Nat} {a : Option Addr} {cap : Nat} {F l : List Nat} {e : Int} (h : RR w br b a cap F l e) : B8 l := by
  obtain ⟨at_, _, _, _, h8, _, h0, h1⟩ := h
  by_cases he : e = 0
  · rw [← h0 he]; exact h8.drop _
  · rw [h1 he]; exact B8.nil
theorem RR.bad {w : World} {br b : Nat} {a : Option Addr} {cap : Nat} {F l : List Nat} {e : Int} (h : RR w br b a cap F l e) (he : e ≠ 0) : l = [] := by
  obtain ⟨at_, _, _, _, _, _, _, h1⟩ := h; exact h1 he
/-- None, whatever was kept -/
theorem refNone_any2 {w : World} {br b : Nat} {a : Option Addr} {cap : Nat} {F l : List Nat} {e : Int} (h : RR w br b a cap F l e) (x : Int) (hx : x ≠ 0) :
    Calls Tryz.prog 28 #[.pointer (some ⟨br, 0, none⟩), .int .i64 x] w fun y w' => y = .returned (.tuple #[]) ∧ RR w' br b a cap F [] (Pk.keep e x) ∧ Kept (Only br) w w' := by
  obtain ⟨at_, ha, hB, hs, h8, hne, h0, h3⟩ := h
  refine (refNone_any hB x).mono ?_
  rintro y w' ⟨rfl, h2, hk⟩
  have hkk : (if e = 0 then x else e) = Pk.keep e x := by unfold Pk.keep; rfl
  rw [hkk] at h2
  exact ⟨rfl, RR.fell h2 ha hs h8 hne hk (by unfold Pk.keep; split <;> omega), hk⟩
/-- a value that is read as the reference reads it -/
def rdVR (l : List Nat) (e : Int) : V × List Nat × Int :=
  if (Pk.intOut l e).1 = 0 then (⟨(Pk.intOut l e).1, 0, ⟨#[]⟩⟩, (Pk.intOut l e).2)
  else if (Pk.intOut l e).1 = 1 ∨ (Pk.intOut l e).1 = 2 then rdV l e
  else (⟨(Pk.intOut l e).1, 0, ⟨#[]⟩⟩, [], Pk.keep (Pk.intOut l e).2.2 3)
def VObj (k : Int) (x : Nat) (s : ByteArray) : Obj := .cells #[.int .i64 k, .float .f64 x, .string s] 64
set_option maxHeartbeats 3200000 in
set_option maxRecDepth 100000 in
theorem refReadValue_any {wr : World} {br b : Nat} {a : Option Addr} {cap : Nat} {F l : List Nat} {e : Int} (h : RR wr br b a cap F l e) (hF : F.length ≤ 100000) :
    Calls Tryz.prog 89 #[.pointer (some ⟨br, 0, none⟩)] wr fun x w' => x = .returned (rdVR l e).1.val ∧ RR w' br b a cap F (rdVR l e).2.1 (rdVR l e).2.2 ∧ Kept (Only br) wr w' := by
  have hb1 := RR.lt1 h
  have HB2 := Lib.hid (fun hF => RR.lt2 h hF)
  have HE : Hid (∀ w2 w3 l2 e2, RR w2 br b a cap F l2 e2 → Kept (fun k => wr.heap.size ≤ k) w2 w3 → RR w3 br b a cap F l2 e2) := fun w2 w3 l2 e2 h2 hk => h2.kept hk (fun h => by omega) (fun hF h => by have := HB2.out hF; omega)
  have H0 := Lib.hid (h.kept (S := Mem.None) ((Kept.refl _ _).alloc (.cells #[.int .i64 0, .float .f64 0, .string ⟨#[]⟩] 64)) (fun h => h) (fun _ h => h))
  have HZ0 := Lib.hid (alloc_here (w := wr) (.cells #[.int .i64 0, .float .f64 0, .string ⟨#[]⟩] 64) rfl)
  have HVR := Lib.hid (show rdVR l e = if (Pk.intOut l e).1 = 0 then (⟨(Pk.intOut l e).1, 0, ⟨#[]⟩⟩, (Pk.intOut l e).2) else if (Pk.intOut l e).1 = 1 ∨ (Pk.intOut l e).1 = 2 then rdV l e else (⟨(Pk.intOut l e).1, 0, ⟨#[]⟩⟩, [], Pk.keep (Pk.intOut l e).2.2 3) from rfl)
  have HV := Lib.hid (show rdV l e = (if (Pk.intOut l e).1 = 1 then (⟨(Pk.intOut l e).1, (Pk.fltOut (Pk.intOut l e).2.1 (Pk.intOut l e).2.2).1, ⟨#[]⟩⟩, (Pk.fltOut (Pk.intOut l e).2.1 (Pk.intOut l e).2.2).2)
    else if (Pk.intOut l e).1 = 2 then (⟨(Pk.intOut l e).1, 0, lb (Pk.textOut (Pk.intOut l e).2.1 (Pk.intOut l e).2.2).1⟩, (Pk.textOut (Pk.intOut l e).2.1 (Pk.intOut l e).2.2).2)
    else (⟨(Pk.intOut l e).1, 0, ⟨#[]⟩⟩, (Pk.intOut l e).2)) from rfl)
  clear h
  go_enter Tryz.func89, Tryz.ntmps89
  go_wp2_with fail
  refine (refInt_any H0.out hF).mono ?_
  rintro x w1 ⟨rfl, h1, k1⟩
  generalize Pk.intOut l e = o at *
  obtain ⟨kd, r1, e1⟩ := o
  dsimp only at h1 HV HVR
  have hs1 : wr.heap.size < w1.heap.size := by have := k1.size; simp at this; omega
  have HZ1 := Lib.hid (keptO k1 HZ0.out (by omega))
  have HK1 : Hid (Kept (Only br) wr w1) := ((Kept.refl (Only br) wr).alloc _).trans k1
  have HN := Lib.hid (alloc_here (w := w1) (.cells #[.int .i64 kd, .float .f64 0, .string ⟨#[]⟩] 64) rfl)
  have HZ2 := Lib.hid (old_alloc (.cells #[.int .i64 kd, .float .f64 0, .string ⟨#[]⟩] 64) HZ1.out)
  have HK2 := Lib.hid (HK1.out.alloc (.cells #[.int .i64 kd, .float .f64 0, .string ⟨#[]⟩] 64))
  have H1 := Lib.hid h1
  have H2 := Lib.hid (h1.kept (S := Mem.None) ((Kept.refl _ _).alloc (.cells #[.int .i64 kd, .float .f64 0, .string ⟨#[]⟩] 64)) (fun h => h) (fun _ h => h))
  have hne : w1.heap.size ≠ wr.heap.size := by omega
  have hne2 : wr.heap.size ≠ w1.heap.size := by omega
  clear h1 k1 HZ0 H0
  by_cases e0k : kd = 0
  · have b0 : (kd == 0) = true := by rw [e0k]; rfl
    have HR := Lib.hid (HVR.out.trans (if_pos e0k))
    clear HVR HV e0k
    obtain ⟨z0, z1, z2, g0, g1, g2⟩ := cells3 HZ2.out
    obtain ⟨y0, y1, y2, i0, i1, i2⟩ := cells3 HZ1.out
    go_wp2_with fail
    (try simp only [Exit.inBlock, Exit.then])
    refine bodyPost_ret (v := (V.mk kd 0 ⟨#[]⟩).val) ?_ rfl ⟨by rw [HR.out], ?_, ?_⟩
    · rw [results_cell_one rfl]
      go_simp
    · rw [HR.out]
      exact HE.out w1 _ _ _ H1.out (by repeat' (with_reducible first | exact Kept.refl _ _ | refine Kept.alloc ?_ _ | refine Kept.setAt ?_ (.inl (by show wr.heap.size ≤ _; omega)) _ _))
    · exact (by repeat' (with_reducible first | exact HK1.out | refine Kept.alloc ?_ _ | refine Kept.setAt ?_ (.inr (by omega)) _ _))
  · have b0 : (kd == 0) = false := int_nbeq e0k
    by_cases e1k : kd = 1
    · have b1 : (kd == 1) = true := by rw [e1k]; rfl
      have HR := Lib.hid ((HVR.out.trans ((if_neg e0k).trans (if_pos (.inl e1k)))).trans (HV.out.trans (if_pos e1k)))
      clear HVR HV e0k e1k
      obtain ⟨q0, q1, q2, _, _, _⟩ := cells3 HN.out
      go_wp2_with fail
      refine (refFlt_any H2.out hF).mono ?_
      rintro x w2 ⟨rfl, h2, k2⟩
      generalize Pk.fltOut r1 e1 = o2 at *
      obtain ⟨x2, r2, e2⟩ := o2
      dsimp only at h2 HR
      have HZ3 := Lib.hid (keptO k2 HZ2.out (by omega))
      have HN3 := Lib.hid (keptO k2 HN.out (by omega))
      have HK3 := Lib.hid (HK2.out.trans k2)
      have H3 := Lib.hid h2
      have hs2 : w1.heap.size < w2.heap.size := lt_of_heap HN3.out
      obtain ⟨n0, n1, n2, f0, f1, f2⟩ := cells3 HN3.out
      obtain ⟨z0, z1, z2, g0, g1, g2⟩ := cells3 HZ3.out
      clear h2 k2
      go_wp2_with fail
      (try simp only [Exit.inBlock, Exit.then])
      refine bodyPost_ret (v := (V.mk kd x2 ⟨#[]⟩).val) ?_ rfl ⟨by rw [HR.out], ?_, ?_⟩
      · rw [results_cell_one rfl]
        go_simp
      · rw [HR.out]
        exact HE.out w2 _ _ _ H3.out (by repeat' (with_reducible first | exact Kept.refl _ _ | refine Kept.alloc ?_ _ | refine Kept.setAt ?_ (.inl (by show wr.heap.size ≤ _; omega)) _ _))
      · exact (by repeat' (with_reducible first | exact HK3.out | refine Kept.alloc ?_ _ | refine Kept.setAt ?_ (.inr (by omega)) _ _))
    · have b1 : (kd == 1) = false := int_nbeq e1k
      by_cases e2k : kd = 2
      · have b2 : (kd == 2) = true := by rw [e2k]; rfl
        have HR := Lib.hid ((HVR.out.trans ((if_neg e0k).trans (if_pos (.inr e2k)))).trans (HV.out.trans ((if_neg e1k).trans (if_pos e2k))))
        clear HVR HV e0k e1k e2k
        obtain ⟨q0, q1, q2, _, _, _⟩ := cells3 HN.out
        go_wp2_with fail
        refine (refText_any H2.out hF).mono ?_
        rintro x w2 ⟨bt, at_, ct, rfl, ho, _, h2, k2⟩
        generalize Pk.textOut r1 e1 = o2 at *
        obtain ⟨x2, r2, e2⟩ := o2
        dsimp only at h2 HR ho
        have kc := run_lb w2 bt at_ ct _ x2 rfl ho
        have HZ3 := Lib.hid (keptO k2 HZ2.out (by omega))
        have HN3 := Lib.hid (keptO k2 HN.out (by omega))
        have HK3 := Lib.hid (HK2.out.trans k2)
        have H3 := Lib.hid h2
        have hs2 : w1.heap.size < w2.heap.size := lt_of_heap HN3.out
        obtain ⟨n0, n1, n2, f0, f1, f2⟩ := cells3 HN3.out
        obtain ⟨z0, z1, z2, g0, g1, g2⟩ := cells3 HZ3.out
        clear h2 k2 ho
        go_wp2_with fail
        (try simp only [Exit.inBlock, Exit.then])
        refine bodyPost_ret (v := (V.mk kd 0 (lb x2)).val) ?_ rfl ⟨by rw [HR.out], ?_, ?_⟩
        · rw [results_cell_one rfl]
          go_simp
        · rw [HR.out]
          exact HE.out w2 _ _ _ H3.out (by repeat' (with_reducible first | exact Kept.refl _ _ | refine Kept.alloc ?_ _ | refine Kept.setAt ?_ (.inl (by show wr.heap.size ≤ _; omega)) _ _))
        · exact (by repeat' (with_reducible first | exact HK3.out | refine Kept.alloc ?_ _ | refine Kept.setAt ?_ (.inr (by omega)) _ _))
      · have b2 : (kd == 2) = false := int_nbeq e2k
        have HR := Lib.hid (HVR.out.trans ((if_neg e0k).trans (if_neg (by rintro (h | h) <;> contradiction))))
        clear HVR HV e0k e1k e2k
        obtain ⟨q0, q1, q2, _, _, _⟩ := cells3 HN.out
        go_wp2_with fail
        refine (refNone_any2 H2.out 3 (by decide)).mono ?_
        rintro x w2 ⟨rfl, h2, k2⟩
        have HZ3 := Lib.hid (keptO k2 HZ2.out (by omega))
        have HN3 := Lib.hid (keptO k2 HN.out (by omega))
        have HK3 := Lib.hid (HK2.out.trans k2)
        have H3 := Lib.hid h2
        have hs2 : w1.heap.size < w2.heap.size := lt_of_heap HN3.out
        obtain ⟨n0, n1, n2, f0, f1, f2⟩ := cells3 HN3.out
        obtain ⟨z0, z1, z2, g0, g1, g2⟩ := cells3 HZ3.out
        clear h2 k2
        go_wp2_with fail
        (try simp only [Exit.inBlock, Exit.then])
        refine bodyPost_ret (v := (V.mk kd 0 ⟨#[]⟩).val) ?_ rfl ⟨by rw [HR.out], ?_, ?_⟩
        · rw [results_cell_one rfl]
          go_simp
        · rw [HR.out]
          exact HE.out w2 _ _ _ H3.out (by repeat' (with_reducible first | exact Kept.refl _ _ | refine Kept.alloc ?_ _ | refine Kept.setAt ?_ (.inl (by show wr.heap.size ≤ _; omega)) _ _))
        · exact (by repeat' (with_reducible first | exact HK3.out | refine Kept.alloc ?_ _ | refine Kept.setAt ?_ (.inr (by omega)) _ _))
end Go.Proofs.YtaengjgmchpabaaGreat.Ss
end
section
/- A Writer that was told of a text that is too long. Cut out of Long so that every seat fills it. -/
namespace Go.Proofs.YtaengjgmchpabaaGreat.Pk
open Go Go.RowKit Mem
/-- it is so at bw, in the blocks of S -/
def WL (w : World) (bw : Nat) (S : Nat → Prop) : Prop := S bw ∧ (∀ k, S k → k < w.heap.size) ∧ WLong w bw
theorem WL.kept {w w' : World} {bw : Nat} {S T : Nat → Prop} (h : WL w bw S) (hk : Kept T w w') (hd : ∀ k, S k → ¬ T k) : WL w' bw S :=
  ⟨h.1, fun k hs => Nat.lt_of_lt_of_le (h.2.1 k hs) hk.size, by obtain ⟨T, h3⟩ := h.2.2; exact ⟨T, hk.heap h3 (hd _ h.1)⟩⟩
set_option maxHeartbeats 1000000 in
theorem put_long (bw : Nat) (a2 : Option Addr) (n cap2 : Nat) (w : World) (h : WLong w bw) :
    Calls Tryz.prog 70 #[.pointer (some ⟨bw, 0, Option.none⟩), .slice a2 n cap2] w fun x w' => x = .returned (.tuple #[]) ∧ w = w' := by
  obtain ⟨T, h⟩ := h
  have c2 := cell_heap h 2
  simp at c2
  clear h
  go_enter Tryz.func70, Tryz.ntmps70
  go_wp2
  refine bodyPost_ret (results_none rfl _ _ _) rfl ?_
  exact ⟨rfl, rfl⟩
theorem puts_long (bw : Nat) (w : World) (h : WLong w bw) (m : List Nat) : PutsNew bw w m fun w' => Kept Mem.None w w' ∧ WLong w' bw := by
  intro w1 b2 a2 cap2 n hk _ _ _
  exact (put_long bw a2 n cap2 w1 (h.imp fun T h => hk.heap h (fun h => h))).mono fun x w' ⟨hx, hw⟩ => ⟨hx, by rw [← hw]; exact hk, by rw [← hw]; exact h.imp fun T h => hk.heap h (fun h => h)⟩
/-- what is known behind a call: it stays so -/
def PutL (bw : Nat) (S : Nat → Prop) (w : World) (x : Ending) (w' : World) : Prop := x = .returned (.tuple #[]) ∧ WL w' bw S ∧ Kept S w w'
theorem PutL.of {bw : Nat} {S : Nat → Prop} {w : World} {x : Ending} {w' : World} (h : WL w bw S) (hx : x = .returned (.tuple #[])) (hk : Kept Mem.None w w') (hl : WLong w' bw) : PutL bw S w x w' :=
  ⟨hx, ⟨h.1, fun k hs => Nat.lt_of_lt_of_le (h.2.1 k hs) hk.size, hl⟩, hk.ofNone⟩
theorem PutL.later {bw : Nat} {S : Nat → Prop} {w w1 : World} {x : Ending} {w' : World} (h : PutL bw S w1 x w') (hk : Kept Mem.None w w1) : PutL bw S w x w' := ⟨h.1, h.2.1, hk.ofNone.trans h.2.2⟩
theorem WInt_long (bw : Nat) (S : Nat → Prop) (n : Int) (w : World) (h : WL w bw S) (h1 : -9223372036854775808 ≤ n) (h2 : n ≤ 9223372036854775807) :
    Calls Tryz.prog 35 #[.pointer (some ⟨bw, 0, Option.none⟩), .int .i64 n] w (PutL bw S w) :=
  (WInt_gen bw n w h1 h2 _ (puts_long bw w h.2.2 _)).mono fun _ _ ⟨hx, hk, hl⟩ => PutL.of h hx hk hl
theorem WFloat_long (bw : Nat) (S : Nat → Prop) (y : Nat) (w : World) (h : WL w bw S) :
    Calls Tryz.prog 102 #[.pointer (some ⟨bw, 0, Option.none⟩), .float .f64 y] w (PutL bw S w) :=
  (WFloat_gen bw y w _ (puts_long bw w h.2.2 _)).mono fun _ _ ⟨hx, hk, hl⟩ => PutL.of h hx hk hl
set_option maxHeartbeats 1000000 in
theorem WText_long (bw : Nat) (S : Nat → Prop) (w : World) (h : WL w bw S) (a2 : Option Addr) (cap2 n : Nat) (hn : n ≤ 16384) :
    Calls Tryz.prog 39 #[.pointer (some ⟨bw, 0, Option.none⟩), .slice a2 n cap2] w (PutL bw S w) := by
  have HA := Lib.hid h
  clear h
  go_enter Tryz.func39, Tryz.ntmps39
  go_wp2_with fail
  refine (WInt_long bw S n w HA.out (by omega) (by omega)).mono ?_
  rintro x w1 ⟨rfl, h1, h2⟩
  have H1 := Lib.hid h1
  have H2 := Lib.hid h2
  clear h1 h2
  go_wp2_with fail
  refine (put_long bw a2 n cap2 w1 H1.out.2.2).mono ?_
  rintro x w2 ⟨rfl, rfl⟩
  go_wp2
  go_end0
  exact ⟨rfl, H1.out, H2.out⟩
/-- a text that is too long, told to whatever Writer -/
theorem WText_over {T : TypeId} (bw : Nat) (S : Nat → Prop) (w : World) (v0 v1 v2 : Value) (hS : S bw) (hlt : ∀ k, S k → k < w.heap.size) (h : w.heap[bw]? = some (.cells #[v0, v1, v2] T (0, 0))) (a2 : Option Addr) (cap2 n : Nat) (hn : 16384 < n) (hn2 : n ≤ 35184372088832) :
    Calls Tryz.prog 39 #[.pointer (some ⟨bw, 0, Option.none⟩), .slice a2 n cap2] w (PutL bw S w) := by
  have c0 := cell_heap h 0
  have c1 := cell_heap h 1
  have c2 := cell_heap h 2
  have f0 := frozen_heap h 0
  have f1 := frozen_heap h 1
  have f2 := frozen_heap h 2
  simp at c0 c1 c2
  have HH := Lib.hid h
  have HL := Lib.hid hlt
  clear h hlt
  go_enter Tryz.func39, Tryz.ntmps39
  go_wp2
  refine bodyPost_ret (results_none rfl _ _ _) rfl ?_
  have k : Kept S w (((w.setCell ⟨bw, 0, Option.none⟩ (.pointer Option.none)).setCell ⟨bw, 1, Option.none⟩ (.int .i64 0)).setCell ⟨bw, 2, Option.none⟩ (.bool true)) :=
    (((Kept.refl _ _).setAt (.inl hS) _ _).setAt (.inl hS) _ _).setAt (.inl hS) _ _
  refine ⟨rfl, ⟨hS, fun k' hs => Nat.lt_of_lt_of_le (HL.out k' hs) k.size, ?_⟩, k⟩
  refine ⟨T, ?_⟩
  rw [heap_set (heap_set (heap_set HH.out 0 _) 1 _) 2]
  rfl
set_option maxHeartbeats 1000000 in
theorem Bytes_long (bw : Nat) (w : World) (h : WLong w bw) :
    Calls Tryz.prog 34 #[.pointer (some ⟨bw, 0, Option.none⟩)] w fun x w' => x = .returned (.tuple #[.slice Option.none 0 0, .int .i64 2]) ∧ w = w' := by
  obtain ⟨T, h⟩ := h
  have c2 := cell_heap h 2
  simp at c2
  clear h
  go_enter Tryz.func34, Tryz.ntmps34
  go_wp2
  go_ret2
  exact ⟨rfl, rfl⟩
/-- what a Writer holds: bytes; or that a text was too long -/
def St (w : World) (bw : Nat) (S : Nat → Prop) (o : Option (List Nat)) : Prop := match o with
  | some l => WAt w bw S l
  | Option.none => WL w bw S
theorem St.kept {w w' : World} {bw : Nat} {S T : Nat → Prop} {o : Option (List Nat)} (h : St w bw S o) (hk : Kept T w w') (hd : ∀ k, S k → ¬ T k) : St w' bw S o := by
  cases o with
  | none => exact WL.kept h hk hd
  | some l => exact WAt.kept h hk hd
theorem St.lt {w : World} {bw : Nat} {S : Nat → Prop} {o : Option (List Nat)} (h : St w bw S o) : ∀ k, S k → k < w.heap.size := by
  cases o with
  | none => exact h.2.1
  | some l => exact h.2.1
end Go.Proofs.YtaengjgmchpabaaGreat.Pk
end
