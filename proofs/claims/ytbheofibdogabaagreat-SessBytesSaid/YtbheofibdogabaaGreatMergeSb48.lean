import Derived.Test.YtbheofibdogabaaGreatRefRd1
import Derived.Test.YtbheofibdogabaaGreatMergeSb10
import Derived.Deep.RegionLaw
import Derived.Test.YtbheofibdogabaaGreatMergeSb7
section
/- The reference's Reader: Number of eight bytes, Float. -/
namespace Go.Proofs.YtbheofibdogabaaGreat.Ss
open Go Go.RowKit Vl Kv Mem Nm
attribute [local go_sem] run_bits run_frombits run_store_float

set_option maxHeartbeats 1000000 in
set_option maxRecDepth 100000 in
theorem Number8_any (b : Nat) (a : Option Addr) (cap : Nat) (l : List Nat) (n : Nat) (w : World) (h : Src w b a cap l) (h8 : B8 l) (hl : l.length = n) (hn : n ≤ 8) :
    Calls Tryz.prog 79 #[.slice a n cap] w fun e w' => e = .returned (.int .u64 (Pk.num8 l)) ∧ w = w' := by
  subst hl
  have HS := Lib.hid h
  have H8 := Lib.hid h8
  clear h h8
  go_enter Tryz.func79, Tryz.ntmps79
  go_wp2
  go_loop [3, 4] (fun z i => ∃ k Z : Nat, k ≤ l.length ∧ i = .int .i64 k ∧ z = .int .u64 Z ∧ Hid (Z = Pk.num8 (l.take k))) (fun _ i => l.length - (intOf i).toNat)
  case atStart => exact ⟨0, 0, by omega, rfl, rfl, rfl⟩
  case round =>
    obtain ⟨k, Z, hk, rfl, rfl, hz⟩ := hrel
    by_cases hlt : k < l.length
    · obtain ⟨off, rfl, hc⟩ := HS.out.at_ (by omega)
      have hcell := hc k hlt
      have hy := H8.out.get k
      have hsn := Lib.hid (Pk.num8_snoc l k hlt)
      have hZ : Z ≤ 72057594037927935 := by
        rw [hz.out]
        exact Pk.num8_small H8.out (by omega) (by omega)
      clear hc
      generalize l.getD k 0 = y at *
      have HN := Lib.hid (Pk.num8_step hZ hy)
      go_wp2
      go_round
      case rel => exact ⟨k + 1, Z * 256 + y, by omega, by go_num, by rw [HN.out], by show _ = _; rw [hsn.out, hz.out]⟩
      case measure => simp [intOf]; omega
    · obtain rfl : k = l.length := by omega
      go_wp2
      go_ret
      have h1 := hz.out
      rw [List.take_length] at h1
      exact ⟨Nm.ret_int (by rw [h1]), rfl⟩
/-- a part of bytes -/
theorem src_part {w : World} {b off cap : Nat} {F : List Nat} (h : Src w b (some ⟨b, off, none⟩) cap F) {i n : Nat} (hi : i + n ≤ F.length) (h0 : 0 < n) : Src w b (some ⟨b, off + i, none⟩) (cap - i) ((F.drop i).take n) := by
  rcases h with h | h
  · obtain ⟨h1, h2, h3⟩ := h
    refine .inl ⟨by rw [List.length_take, List.length_drop]; omega, by omega, .inr ⟨off + i, rfl, fun j hj => ?_⟩⟩
    rw [List.length_take, List.length_drop] at hj
    rcases h3 with ⟨h3, _⟩ | ⟨o, ho, hc⟩
    · cases h3
    · injection ho with ho
      injection ho with _ ho
      subst ho
      have := hc (i + j) (by omega)
      rw [show off + i + j = off + (i + j) by omega, this]
      congr 2
      simp [List.getD_eq_getElem?_getD, List.getElem?_drop, show j < n by omega]
  · have := h.1
    subst this
    simp at hi
    omega
def RFltTold (w : World) (br b : Nat) (a : Option Addr) (cap : Nat) (F l : List Nat) (e : Int) (x : Ending) (w' : World) : Prop :=
  x = .returned (.float .f64 (Pk.fltOut l e).1) ∧ RR w' br b a cap F (Pk.fltOut l e).2.1 (Pk.fltOut l e).2.2 ∧ Kept (Only br) w w'
theorem fltOut_none {l : List Nat} {e : Int} (h : Pk.rdFlt l = none) : Pk.fltOut l e = (0, [], Pk.keep e 3) := by unfold Pk.fltOut; rw [h]
theorem fltOut_some {l r : List Nat} {z : Nat} {e : Int} (h : Pk.rdFlt l = some (z, r)) : Pk.fltOut l e = (z, r, e) := by unfold Pk.fltOut; rw [h]
theorem RR.next {w wr : World} {br b : Nat} {a : Option Addr} {cap : Nat} {F : List Nat} {at_ m : Nat} (hb : RBox wr br a cap F.length at_ 0) (hk : Kept (Only br) w wr) (hs : Src w b a cap F) (h8 : B8 F) (hne : F ≠ [] → b ≠ br) (hm : m ≤ F.length) :
    RR (wr.setCell ⟨br, 1, none⟩ (.int .i64 (m : Nat))) br b a cap F (F.drop m) 0 ∧ Kept (Only br) w (wr.setCell ⟨br, 1, none⟩ (.int .i64 (m : Nat))) := by
  have hk2 : Kept (Only br) w (wr.setCell ⟨br, 1, none⟩ (.int .i64 (m : Nat))) := hk.setAt (.inl rfl) 1 _
  exact ⟨⟨m, hm, Pk.heap_set (w := wr) hb 1 _, hs.kept hk2 (fun hF hb => hne hF hb), h8, hne, fun _ => rfl, fun h => absurd rfl h⟩, hk2⟩
set_option maxHeartbeats 3200000 in
set_option maxRecDepth 100000 in
theorem refFlt_any {w : World} {br b : Nat} {a : Option Addr} {cap : Nat} {F l : List Nat} {e : Int} (h : RR w br b a cap F l e) (hF : F.length ≤ 100000) :
    Calls Tryz.prog 57 #[.pointer (some ⟨br, 0, none⟩)] w (RFltTold w br b a cap F l e) := by
  obtain ⟨at_, ha, hB, hs, h8, hne, h0, h1⟩ := h
  by_cases he : e = 0
  · subst he
    obtain rfl := (h0 rfl).symm
    have HB := Lib.hid hB
    have HS := Lib.hid hs
    have H8 := Lib.hid h8
    have HNE := Lib.hid hne
    obtain ⟨c0, c1, c2, f0, f1, f2⟩ := cells3 hB
    unfold RBox at hB
    clear hB hs h8 hne h0 h1
    have HN : Hid (∀ wr, RBox wr br a cap F.length at_ 0 → Kept (Only br) w wr → Pk.rdFlt (F.drop at_) = none → Calls Tryz.prog 56 #[.pointer (some ⟨br, 0, none⟩), .int .i64 3] wr fun x w' => x = .returned (.tuple #[]) ∧ RFltTold w br b a cap F (F.drop at_) 0 (.returned (.float .f64 0)) w') := fun wr hb hk hd => by
      refine (refNone_any hb 3).mono ?_
      rintro x w' ⟨rfl, hb2, hk2⟩
      refine ⟨rfl, ?_⟩
      have hb3 : RBox w' br a cap F.length at_ 3 := hb2
      unfold RFltTold
      rw [fltOut_none hd]
      exact ⟨rfl, RR.fell hb3 ha HS.out H8.out HNE.out (hk.trans hk2) (by decide), hk.trans hk2⟩
    by_cases hl : F.length - at_ < 8
    · have hd : Pk.rdFlt (F.drop at_) = none := by unfold Pk.rdFlt; rw [if_pos (by rw [List.length_drop]; exact hl)]
      have m1 : decide ((F.length : Int) - (at_ : Int) < 8) = true := decide_eq_true (by omega)
      go_enter Tryz.func57, Tryz.ntmps57
      go_wp2_with fail
      go_quiet (fail)
      go_wp2_with (first | (go_at_call 56; refine Calls.mono (HN.out _ (by exact HB.out) (by exact (Kept.refl (Only br) w).drewN _) hd) ?_; rintro x w' ⟨rfl, ht⟩))
      go_ret
      exact ht
    · have m1 : decide ((F.length : Int) - (at_ : Int) < 8) = false := decide_eq_false (by omega)
      obtain ⟨off, rfl, _⟩ := HS.out.at_ (by omega)
      have hcap : F.length ≤ cap := by
        rcases HS.out with h | h
        · exact h.1
        · have := h.1; subst this; simp at hl
      have HNUM : Hid (∀ p q, Calls Tryz.prog 79 #[.slice (some ⟨b, off + at_, none⟩) 8 (cap - at_)] (w.drewN (p + q)) fun e w' => e = .returned (.int .u64 (Pk.num8 ((F.drop at_).take 8))) ∧ ∃ n, w' = w.drewN (p + n)) := fun p q => by
        refine (Number8_any b _ _ ((F.drop at_).take 8) 8 (w.drewN (p + q)) ?_ ((H8.out.drop _).take _) (by rw [List.length_take, List.length_drop]; omega) (by omega)).mono fun e w' ⟨h1, h2⟩ => ⟨h1, q, h2.symm⟩
        have := src_part HS.out (i := at_) (n := 8) (by omega) (by omega)
        exact this.kept (S := Mem.None) ((Kept.refl _ w).drewN _) (fun _ h => h)
      obtain ⟨m, hm⟩ : ∃ m, m = at_ + 8 := ⟨_, rfl⟩
      have e1 : (at_ : Int) + 8 = (m : Int) := by omega
      have e2 : IntKind.i64.wrap (m : Int) = (m : Int) := by simp [IntKind.wrap, IntKind.bits, IntKind.signed]; omega
      have e3 : (0 : Int) ≤ (m : Int) := by omega
      have e4 : (m : Int) ≤ (cap : Int) := by omega
      have e5 : (at_ : Int) ≤ (m : Int) := by omega
      have e6 : ¬ cap = at_ := by omega
      have e7 : m - at_ = 8 := by omega
      have e8 : at_ ≤ m := by omega
      have e9 : m ≤ cap := by omega
      have Hm := Lib.hid hm
      clear hm
      have hl8 : ¬ (F.drop at_).length < 8 := by rw [List.length_drop]; exact hl
      have HX : Hid (canon (Pk.num8 ((F.drop at_).take 8)) = Pk.num8 ((F.drop at_).take 8) → Pk.rdFlt (F.drop at_) = some (Pk.num8 ((F.drop at_).take 8), F.drop (at_ + 8))) := fun h => by unfold Pk.rdFlt; rw [if_neg hl8, if_pos h, List.drop_drop]
      have HXN : Hid (canon (Pk.num8 ((F.drop at_).take 8)) ≠ Pk.num8 ((F.drop at_).take 8) → Pk.rdFlt (F.drop at_) = none) := fun h => by unfold Pk.rdFlt; rw [if_neg hl8, if_neg h]
      clear hl8
      generalize Pk.num8 ((F.drop at_).take 8) = X at *
      go_enter Tryz.func57, Tryz.ntmps57
      go_wp2_with fail
      go_quiet (fail)
      go_wp2_with fail
      go_quiet ((first | (go_at_call 79; exact HNUM.out _ _)))
      cases hn : isNaN X
      · have h2 : (FloatKind.f64.format.order X X != some .eq) = false := hn
        have HO := Lib.hid (fltOut_some (e := 0) (HX.out (by unfold canon; rw [hn]; rfl)))
        clear hn
        go_wp2_with fail
        go_ret
        unfold RFltTold
        rw [HO.out]
        obtain ⟨r1, r2⟩ := RR.next (wr := w.drewN _) HB.out ((Kept.refl (Only br) w).drewN _) HS.out H8.out HNE.out (m := m) (by rw [Hm.out]; omega)
        exact ⟨rfl, by rw [← Hm.out]; exact r1, r2⟩
      · have h2 : (FloatKind.f64.format.order X X != some .eq) = true := hn
        by_cases hx : X = 9221120237041090561
        · have HO := Lib.hid (fltOut_some (e := 0) (HX.out (by unfold canon; rw [hn]; exact hx.symm)))
          have h3 : ((X : Int) != 9221120237041090561) = false := by rw [hx]; rfl
          clear hn hx
          go_wp2_with fail
          go_ret
          unfold RFltTold
          rw [HO.out]
          obtain ⟨r1, r2⟩ := RR.next (wr := w.drewN _) HB.out ((Kept.refl (Only br) w).drewN _) HS.out H8.out HNE.out (m := m) (by rw [Hm.out]; omega)
          exact ⟨rfl, by rw [← Hm.out]; exact r1, r2⟩
        · have hd := HXN.out (by unfold canon; rw [hn]; exact fun h => hx h.symm)
          have h3 : ((X : Int) != 9221120237041090561) = true := by rw [bne_iff_ne]; omega
          clear hn hx
          go_wp2_with (first | (go_at_call 56; refine Calls.mono (HN.out _ (by exact HB.out) (by exact ((Kept.refl (Only br) w).drewN _).heap_end rfl rfl rfl rfl) hd) ?_; rintro x w' ⟨rfl, ht⟩))
          go_ret
          exact ht
  · obtain rfl := h1 he
    have HB := Lib.hid hB
    obtain ⟨c0, c1, c2, f0, f1, f2⟩ := cells3 hB
    have e1 : (e != 0) = true := by simpa using he
    have hO := Lib.hid (show Pk.fltOut [] e = (0, [], e) by unfold Pk.fltOut Pk.rdFlt Pk.keep; simp [he])
    have HSS := Lib.hid hs
    have H8 := Lib.hid h8
    have HNE := Lib.hid hne
    have HE := Lib.hid he
    unfold RBox at hB
    clear hB h0 h1 he hs h8 hne
    go_enter Tryz.func57, Tryz.ntmps57
    go_wp2
    go_ret
    unfold RFltTold
    rw [hO.out]
    exact ⟨rfl, ⟨at_, ha, HB.out, HSS.out, H8.out, HNE.out, fun h => absurd h HE.out, fun _ => rfl⟩, Kept.refl _ _⟩
end Go.Proofs.YtbheofibdogabaaGreat.Ss
end
section
/- The reference's Reader: Text. -/
namespace Go.Proofs.YtbheofibdogabaaGreat.Ss
open Go Go.RowKit Vl Kv Mem Nm
attribute [local go_sem] run_bits run_frombits run_store_float

def RTextTold (w : World) (br b : Nat) (a : Option Addr) (cap : Nat) (F l : List Nat) (e : Int) (x : Ending) (w' : World) : Prop :=
  ∃ b2 a2 cap2, x = .returned (.slice a2 (Pk.textOut l e).1.length cap2) ∧ OwnB 5 w' b2 a2 cap2 (Pk.textOut l e).1 ∧ w.heap.size ≤ b2 ∧ RR w' br b a cap F (Pk.textOut l e).2.1 (Pk.textOut l e).2.2 ∧ Kept (Only br) w w'
theorem RTextTold.none_ {w w' : World} {br b : Nat} {a : Option Addr} {cap : Nat} {F l : List Nat} {e x : Int} (ho : Pk.textOut l e = ([], [], x)) (hr : RR w' br b a cap F [] x) (hk : Kept (Only br) w w') : RTextTold w br b a cap F l e (.returned (.slice none 0 0)) w' := by
  unfold RTextTold
  rw [ho]
  exact ⟨w.heap.size, none, 0, rfl, OwnB.nil _ _ _, Nat.le_refl _, hr, hk⟩
/-- None, where no error was kept -/
theorem refNone_RR {w : World} {br b : Nat} {a : Option Addr} {cap : Nat} {F : List Nat} {at_ : Nat} (hB : RBox w br a cap F.length at_ 0) (ha : at_ ≤ F.length) (hs : Src w b a cap F) (h8 : B8 F) (hne : F ≠ [] → b ≠ br) (x : Int) (hx : x ≠ 0) :
    Calls Tryz.prog 56 #[.pointer (some ⟨br, 0, none⟩), .int .i64 x] w fun y w' => y = .returned (.tuple #[]) ∧ RR w' br b a cap F [] x ∧ Kept (Only br) w w' := by
  refine (refNone_any hB x).mono ?_
  rintro y w' ⟨rfl, h2, hk⟩
  rw [if_pos rfl] at h2
  exact ⟨rfl, RR.fell h2 ha hs h8 hne hk hx, hk⟩
set_option maxHeartbeats 6400000 in
set_option maxRecDepth 100000 in
theorem refText_any {w : World} {br b : Nat} {a : Option Addr} {cap : Nat} {F l : List Nat} {e : Int} (h : RR w br b a cap F l e) (hF : F.length ≤ 100000) :
    Calls Tryz.prog 34 #[.pointer (some ⟨br, 0, none⟩)] w (RTextTold w br b a cap F l e) := by
  obtain ⟨i0, hi, hz0, hz1, hz2⟩ := info_parts Pk.infoU8
  have HI := Lib.hid (refInt_any h hF)
  have HL8 : Hid (B8 l) := by
    obtain ⟨at_, _, _, _, h8, _, h0, h1⟩ := h
    by_cases he : e = 0
    · rw [← h0 he]; exact h8.drop _
    · rw [h1 he]; exact B8.nil
  have HFL : Hid (l ≠ [] → e = 0 ∧ F ≠ []) := fun hl => by
    obtain ⟨at_, _, _, _, _, _, h0, h1⟩ := h
    by_cases he : e = 0
    · refine ⟨he, fun hF => hl ?_⟩
      rw [← h0 he, hF, List.drop_nil]
    · exact absurd (h1 he) hl
  go_enter Tryz.func34, Tryz.ntmps34
  go_wp2_with fail
  refine Calls.mono HI.out ?_
  rintro x w1 ⟨rfl, hr1, hk1⟩
  clear h HI
  have HK1 := Lib.hid hk1
  clear hk1
  cases hd : Pk.rdInt l with
  | none =>
    have h1 : Pk.intOut l e = (0, [], Pk.keep e 3) := by unfold Pk.intOut; rw [hd]
    have h2 := Lib.hid (Pk.textOut_err (l := l) (e := e) (x := 3) (by unfold Pk.rdText; rw [hd]))
    rw [h1] at hr1 ⊢
    have HR1 := Lib.hid hr1
    have hne : Pk.keep e 3 ≠ 0 := by unfold Pk.keep; split <;> omega
    have e1 : (Pk.keep e 3 != 0) = true := by simpa using hne
    obtain ⟨at_, _, hB, _⟩ := hr1
    obtain ⟨c0, c1, c2, _⟩ := cells3 hB
    simp only at c0 c1 c2
    clear hB h1 hd
    go_wp2_with fail
    go_ret
    exact RTextTold.none_ h2.out HR1.out HK1.out
  | some p =>
    obtain ⟨n, r⟩ := p
    have h1 : Pk.intOut l e = (n, r, e) := by unfold Pk.intOut; rw [hd]
    rw [h1] at hr1 ⊢
    simp only at hr1 ⊢
    have hln : l ≠ [] := fun e => by rw [e] at hd; cases hd
    obtain ⟨he, hFn⟩ := HFL.out hln
    have HFN := Lib.hid hFn
    clear hln hFn HFL
    subst he
    obtain ⟨at_, ha, hB, hs, h8, hne, h0, _⟩ := hr1
    obtain rfl := (h0 rfl).symm
    obtain ⟨c0, c1, c2, f0, f1, f2⟩ := cells3 hB
    have HB := Lib.hid hB
    have HS := Lib.hid hs
    have H8 := Lib.hid h8
    have HNE := Lib.hid hne
    have HD := Lib.hid hd
    unfold RBox at hB
    clear hB hs h8 hne h0 h1 hd
    have HN : Hid (∀ x, x ≠ 0 → ∀ wr, wr.heap = w1.heap → Kept (Only br) w1 wr → Calls Tryz.prog 56 #[.pointer (some ⟨br, 0, none⟩), .int .i64 x] wr fun y w' => y = .returned (.tuple #[]) ∧ RR w' br b a cap F [] x ∧ Kept (Only br) w w') := fun x hx wr hw hk => by
      have hb2 : RBox wr br a cap F.length at_ 0 := by unfold RBox; rw [hw]; exact HB.out
      refine (refNone_RR hb2 ha (HS.out.kept hk (fun hF hb => HNE.out hF hb)) H8.out HNE.out x hx).mono ?_
      rintro y w' ⟨h1, h2, h3⟩
      exact ⟨h1, h2, (HK1.out.trans hk).trans h3⟩
    by_cases n0 : n < 0
    · have ho := Lib.hid (Pk.textOut_err (l := l) (e := 0) (x := 3) (by unfold Pk.rdText; rw [HD.out]; simp only; rw [if_neg (by omega), if_pos (.inl n0)]))
      go_wp2_with (first | (go_at_call 56; refine Calls.mono (HN.out 3 (by decide) _ rfl (Kept.refl _ _)) ?_; rintro x w' ⟨rfl, hr, hk⟩))
      go_ret
      exact RTextTold.none_ ho.out hr hk
    · by_cases n1 : 16384 < n
      · have ho := Lib.hid (Pk.textOut_err (l := l) (e := 0) (x := 2) (by unfold Pk.rdText; rw [HD.out]; simp only; rw [if_pos n1]))
        go_wp2_with (first | (go_at_call 56; refine Calls.mono (HN.out 2 (by decide) _ rfl (Kept.refl _ _)) ?_; rintro x w' ⟨rfl, hr, hk⟩))
        go_ret
        exact RTextTold.none_ ho.out hr hk
      · obtain ⟨m, rfl⟩ : ∃ m : Nat, n = m := ⟨n.toNat, by omega⟩
        have hm : m ≤ 16384 := by omega
        clear n0 n1
        by_cases n2 : F.length - at_ < m
        · have ho := Lib.hid (Pk.textOut_err (l := l) (e := 0) (x := 3) (by unfold Pk.rdText; rw [HD.out]; simp only; rw [if_neg (by omega), if_pos (.inr (by rw [List.length_drop]; omega))]))
          have m1 : decide ((F.length : Int) - (at_ : Int) < (m : Int)) = true := decide_eq_true (by omega)
          go_wp2_with fail
          go_quiet (fail)
          go_wp2_with (first | (go_at_call 56; refine Calls.mono (HN.out 3 (by decide) _ rfl ((Kept.refl (Only br) w1).drewN _)) ?_; rintro x w' ⟨rfl, hr, hk⟩))
          go_ret
          exact RTextTold.none_ ho.out hr hk
        · have ho := Lib.hid (Pk.textOut_ok (l := l) (e := 0) (t := (F.drop at_).take m) (r := (F.drop at_).drop m) (by unfold Pk.rdText; rw [HD.out]; simp only; rw [if_neg (by omega), if_neg (by rw [List.length_drop]; omega)]; simp))
          have m1 : decide ((F.length : Int) - (at_ : Int) < (m : Int)) = false := decide_eq_false (by omega)
          have hF0 : 0 < F.length := List.length_pos_iff.2 HFN.out
          obtain ⟨off, rfl, _⟩ := HS.out.at_ hF0
          have hcap : F.length ≤ cap := by
            rcases HS.out with h | h
            · exact h.1
            · exact absurd h.1 HFN.out
          obtain ⟨o2, hA, hA2⟩ := Pk.rest_at b off cap at_
          have hT : ((F.drop at_).take m).length = m := by rw [List.length_take, List.length_drop]; omega
          have HSR : Hid (Src w1 b (some ⟨b, o2, none⟩) (cap - at_) ((F.drop at_).take m)) := by
            rcases Nat.eq_zero_or_pos m with m0 | m0
            · exact .inr ⟨List.eq_nil_of_length_eq_zero (by rw [hT, m0]), by simp⟩
            · have ho2 : o2 = off + at_ := by
                rcases hA2 with h | h
                · exact h
                · omega
              rw [ho2]
              exact src_part HS.out (by omega) m0
          have HT := Lib.hid hT
          clear hT hA2
          obtain ⟨M, hM⟩ : ∃ M, M = at_ + m := ⟨_, rfl⟩
          have e1 : (at_ : Int) + (m : Int) = (M : Int) := by omega
          have e2 : IntKind.i64.wrap (M : Int) = (M : Int) := by simp [IntKind.wrap, IntKind.bits, IntKind.signed]; omega
          have e3 : (0 : Int) ≤ (M : Int) := by omega
          have e4 : (M : Int) ≤ (cap : Int) := by omega
          have e5 : (at_ : Int) ≤ (M : Int) := by omega
          have e7 : M - at_ = m := by omega
          have e8 : at_ ≤ M := by omega
          have e9 : M ≤ cap := by omega
          have e10 : M ≤ F.length := by omega
          have HM := Lib.hid hM
          clear hM
          have HTE : Hid ((F.drop at_).drop m = F.drop M) := by show _ = _; rw [List.drop_drop, HM.out]
          obtain ⟨T, hTT⟩ : ∃ T, T = (F.drop at_).take m := ⟨_, rfl⟩
          rw [← hTT] at HSR HT ho
          clear hTT
          go_wp2_with fail
          go_quiet (fail)
          go_wp2_with fail
          go_region_law ((refine step_append_bytes rfl (.tmp 34) (.tmp 49) 26 rfl 5 i0 Tryz.underlying26 hi hz0 hz1 hz2 w1.heap.size none 0 [] 0 (by simp [Act.eval, Act.put]) (OwnB.nil _ _ _) rfl b (some ⟨b, o2, none⟩) (cap - at_) T m (by simp [Act.eval, Act.put]) ((HSR.out.kept (S := Mem.None) (show Kept Mem.None w1 _ from (Kept.refl _ w1).heap_end rfl rfl rfl rfl) (fun _ h => h))) HT.out (by omega) ?_; intro b2 a2 cap2 w8 h2 h3 h4 h5; have K8 : Hid (Kept Mem.None w1 w8) := (show Kept Mem.None w1 w8 from (h3.mono (T := Mem.None) (fun x hx => absurd rfl hx.1)).heap2 (v := w1) rfl rfl rfl rfl); have O8 := Lib.hid h2; have N8 : Hid (w1.heap.size ≤ b2) := (by show w1.heap.size ≤ b2; rcases h4 with ⟨h4, _⟩ | h4; exact Nat.le_of_eq h4.symm; exact h4); clear h2 h3 h4 h5; obtain ⟨d0, d1, d2, g0, g1, g2⟩ := cells3 (K8.out.heap HB.out (fun h => h))))
          all_goals
            go_wp2_with fail
            go_ret
            have hbr := lt_of_heap HB.out
            obtain ⟨r1, r2⟩ := RR.next (w := w1) (wr := w8) (K8.out.heap HB.out (fun h => h)) K8.out.ofNone HS.out H8.out HNE.out e10
            unfold RTextTold
            rw [ho.out]
            exact ⟨b2, a2, cap2, rfl, O8.out.kept (S := Only br) ((Kept.refl (Only br) w8).setAt (b := br) (.inl (show Only br br from rfl)) 1 _) (fun _ hb => by have := N8.out; have hb : b2 = br := hb; omega), Nat.le_trans HK1.out.size N8.out, by rw [HTE.out]; exact r1, HK1.out.trans r2⟩
end Go.Proofs.YtbheofibdogabaaGreat.Ss
end
