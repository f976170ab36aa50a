import Derived.Test.YtbheofibdogabaaGreatMergeSb48
import Derived.Test.YtbheofibdogabaaGreatMergeSb13
section
/- The reference's ReadValue. -/
namespace Go.Proofs.YtbheofibdogabaaGreat.Ss
open Go Go.RowKit Vl Kv Mem Nm
attribute [local go_sem] run_bits run_frombits run_store_float

theorem RR.kept {S : Nat → Prop} {w w' : World} {br b : Nat} {a : Option Addr} {cap : Nat} {F l : List Nat} {e : Int} (h : RR w br b a cap F l e) (hk : Kept S w w') (h1 : ¬ S br) (h2 : F ≠ [] → ¬ S b) : RR w' br b a cap F l e := by
  obtain ⟨at_, ha, hB, hs, h8, hne, h0, h3⟩ := h
  exact ⟨at_, ha, hk.heap hB h1, hs.kept hk h2, h8, hne, h0, h3⟩
theorem RR.lt1 {w : World} {br b : Nat} {a : Option Addr} {cap : Nat} {F l : List Nat} {e : Int} (h : RR w br b a cap F l e) : br < w.heap.size := by
  obtain ⟨at_, ha, hB, _⟩ := h; exact lt_of_heap hB
theorem RR.lt2 {w : World} {br b : Nat} {a : Option Addr} {cap : Nat} {F l : List Nat} {e : Int} (h : RR w br b a cap F l e) (hF : F ≠ []) : b < w.heap.size := by
  obtain ⟨at_, ha, hB, hs, _⟩ := h; exact hs.lt hF
theorem RR.b8 {w : World} {br b : Nat} {a : Option Addr} {cap : Nat} {F l : List Nat} {e : Int} (h : RR w br b a cap F l e) : B8 l := by
  obtain ⟨at_, _, _, _, h8, _, h0, h1⟩ := h
  by_cases he : e = 0
  · rw [← h0 he]; exact h8.drop _
  · rw [h1 he]; exact B8.nil
theorem RR.bad {w : World} {br b : Nat} {a : Option Addr} {cap : Nat} {F l : List Nat} {e : Int} (h : RR w br b a cap F l e) (he : e ≠ 0) : l = [] := by
  obtain ⟨at_, _, _, _, _, _, _, h1⟩ := h; exact h1 he
/-- None, whatever was kept -/
theorem refNone_any2 {w : World} {br b : Nat} {a : Option Addr} {cap : Nat} {F l : List Nat} {e : Int} (h : RR w br b a cap F l e) (x : Int) (hx : x ≠ 0) :
    Calls Tryz.prog 56 #[.pointer (some ⟨br, 0, none⟩), .int .i64 x] w fun y w' => y = .returned (.tuple #[]) ∧ RR w' br b a cap F [] (Pk.keep e x) ∧ Kept (Only br) w w' := by
  obtain ⟨at_, ha, hB, hs, h8, hne, h0, h3⟩ := h
  refine (refNone_any hB x).mono ?_
  rintro y w' ⟨rfl, h2, hk⟩
  have hkk : (if e = 0 then x else e) = Pk.keep e x := by unfold Pk.keep; rfl
  rw [hkk] at h2
  exact ⟨rfl, RR.fell h2 ha hs h8 hne hk (by unfold Pk.keep; split <;> omega), hk⟩
/-- a value that is read as the reference reads it -/
def rdVR (l : List Nat) (e : Int) : V × List Nat × Int :=
  if (Pk.intOut l e).1 = 0 then (⟨(Pk.intOut l e).1, 0, ⟨#[]⟩⟩, (Pk.intOut l e).2)
  else if (Pk.intOut l e).1 = 1 ∨ (Pk.intOut l e).1 = 2 then rdV l e
  else (⟨(Pk.intOut l e).1, 0, ⟨#[]⟩⟩, [], Pk.keep (Pk.intOut l e).2.2 3)
def VObj (k : Int) (x : Nat) (s : ByteArray) : Obj := .cells #[.int .i64 k, .float .f64 x, .string s] 50
set_option maxHeartbeats 3200000 in
set_option maxRecDepth 100000 in
theorem refReadValue_any {wr : World} {br b : Nat} {a : Option Addr} {cap : Nat} {F l : List Nat} {e : Int} (h : RR wr br b a cap F l e) (hF : F.length ≤ 100000) :
    Calls Tryz.prog 35 #[.pointer (some ⟨br, 0, none⟩)] wr fun x w' => x = .returned (rdVR l e).1.val ∧ RR w' br b a cap F (rdVR l e).2.1 (rdVR l e).2.2 ∧ Kept (Only br) wr w' := by
  have hb1 := RR.lt1 h
  have HB2 := Lib.hid (fun hF => RR.lt2 h hF)
  have HE : Hid (∀ w2 w3 l2 e2, RR w2 br b a cap F l2 e2 → Kept (fun k => wr.heap.size ≤ k) w2 w3 → RR w3 br b a cap F l2 e2) := fun w2 w3 l2 e2 h2 hk => h2.kept hk (fun h => by omega) (fun hF h => by have := HB2.out hF; omega)
  have H0 := Lib.hid (h.kept (S := Mem.None) ((Kept.refl _ _).alloc (.cells #[.int .i64 0, .float .f64 0, .string ⟨#[]⟩] 50)) (fun h => h) (fun _ h => h))
  have HZ0 := Lib.hid (alloc_here (w := wr) (.cells #[.int .i64 0, .float .f64 0, .string ⟨#[]⟩] 50) rfl)
  have HVR := Lib.hid (show rdVR l e = if (Pk.intOut l e).1 = 0 then (⟨(Pk.intOut l e).1, 0, ⟨#[]⟩⟩, (Pk.intOut l e).2) else if (Pk.intOut l e).1 = 1 ∨ (Pk.intOut l e).1 = 2 then rdV l e else (⟨(Pk.intOut l e).1, 0, ⟨#[]⟩⟩, [], Pk.keep (Pk.intOut l e).2.2 3) from rfl)
  have HV := Lib.hid (show rdV l e = (if (Pk.intOut l e).1 = 1 then (⟨(Pk.intOut l e).1, (Pk.fltOut (Pk.intOut l e).2.1 (Pk.intOut l e).2.2).1, ⟨#[]⟩⟩, (Pk.fltOut (Pk.intOut l e).2.1 (Pk.intOut l e).2.2).2)
    else if (Pk.intOut l e).1 = 2 then (⟨(Pk.intOut l e).1, 0, lb (Pk.textOut (Pk.intOut l e).2.1 (Pk.intOut l e).2.2).1⟩, (Pk.textOut (Pk.intOut l e).2.1 (Pk.intOut l e).2.2).2)
    else (⟨(Pk.intOut l e).1, 0, ⟨#[]⟩⟩, (Pk.intOut l e).2)) from rfl)
  clear h
  go_enter Tryz.func35, Tryz.ntmps35
  go_wp2_with fail
  refine (refInt_any H0.out hF).mono ?_
  rintro x w1 ⟨rfl, h1, k1⟩
  generalize Pk.intOut l e = o at *
  obtain ⟨kd, r1, e1⟩ := o
  dsimp only at h1 HV HVR
  have hs1 : wr.heap.size < w1.heap.size := by have := k1.size; simp at this; omega
  have HZ1 := Lib.hid (keptO k1 HZ0.out (by omega))
  have HK1 : Hid (Kept (Only br) wr w1) := ((Kept.refl (Only br) wr).alloc _).trans k1
  have HN := Lib.hid (alloc_here (w := w1) (.cells #[.int .i64 kd, .float .f64 0, .string ⟨#[]⟩] 50) rfl)
  have HZ2 := Lib.hid (old_alloc (.cells #[.int .i64 kd, .float .f64 0, .string ⟨#[]⟩] 50) HZ1.out)
  have HK2 := Lib.hid (HK1.out.alloc (.cells #[.int .i64 kd, .float .f64 0, .string ⟨#[]⟩] 50))
  have H1 := Lib.hid h1
  have H2 := Lib.hid (h1.kept (S := Mem.None) ((Kept.refl _ _).alloc (.cells #[.int .i64 kd, .float .f64 0, .string ⟨#[]⟩] 50)) (fun h => h) (fun _ h => h))
  have hne : w1.heap.size ≠ wr.heap.size := by omega
  have hne2 : wr.heap.size ≠ w1.heap.size := by omega
  clear h1 k1 HZ0 H0
  by_cases e0k : kd = 0
  · have b0 : (kd == 0) = true := by rw [e0k]; rfl
    have HR := Lib.hid (HVR.out.trans (if_pos e0k))
    clear HVR HV e0k
    obtain ⟨z0, z1, z2, g0, g1, g2⟩ := cells3 HZ2.out
    obtain ⟨y0, y1, y2, i0, i1, i2⟩ := cells3 HZ1.out
    go_wp2_with fail
    (try simp only [Exit.inBlock, Exit.then])
    refine bodyPost_ret (v := (V.mk kd 0 ⟨#[]⟩).val) ?_ rfl ⟨by rw [HR.out], ?_, ?_⟩
    · rw [results_cell_one rfl]
      go_simp
    · rw [HR.out]
      exact HE.out w1 _ _ _ H1.out (by repeat' (with_reducible first | exact Kept.refl _ _ | refine Kept.alloc ?_ _ | refine Kept.setAt ?_ (.inl (by show wr.heap.size ≤ _; omega)) _ _))
    · exact (by repeat' (with_reducible first | exact HK1.out | refine Kept.alloc ?_ _ | refine Kept.setAt ?_ (.inr (by omega)) _ _))
  · have b0 : (kd == 0) = false := int_nbeq e0k
    by_cases e1k : kd = 1
    · have b1 : (kd == 1) = true := by rw [e1k]; rfl
      have HR := Lib.hid ((HVR.out.trans ((if_neg e0k).trans (if_pos (.inl e1k)))).trans (HV.out.trans (if_pos e1k)))
      clear HVR HV e0k e1k
      obtain ⟨q0, q1, q2, _, _, _⟩ := cells3 HN.out
      go_wp2_with fail
      refine (refFlt_any H2.out hF).mono ?_
      rintro x w2 ⟨rfl, h2, k2⟩
      generalize Pk.fltOut r1 e1 = o2 at *
      obtain ⟨x2, r2, e2⟩ := o2
      dsimp only at h2 HR
      have HZ3 := Lib.hid (keptO k2 HZ2.out (by omega))
      have HN3 := Lib.hid (keptO k2 HN.out (by omega))
      have HK3 := Lib.hid (HK2.out.trans k2)
      have H3 := Lib.hid h2
      have hs2 : w1.heap.size < w2.heap.size := lt_of_heap HN3.out
      obtain ⟨n0, n1, n2, f0, f1, f2⟩ := cells3 HN3.out
      obtain ⟨z0, z1, z2, g0, g1, g2⟩ := cells3 HZ3.out
      clear h2 k2
      go_wp2_with fail
      (try simp only [Exit.inBlock, Exit.then])
      refine bodyPost_ret (v := (V.mk kd x2 ⟨#[]⟩).val) ?_ rfl ⟨by rw [HR.out], ?_, ?_⟩
      · rw [results_cell_one rfl]
        go_simp
      · rw [HR.out]
        exact HE.out w2 _ _ _ H3.out (by repeat' (with_reducible first | exact Kept.refl _ _ | refine Kept.alloc ?_ _ | refine Kept.setAt ?_ (.inl (by show wr.heap.size ≤ _; omega)) _ _))
      · exact (by repeat' (with_reducible first | exact HK3.out | refine Kept.alloc ?_ _ | refine Kept.setAt ?_ (.inr (by omega)) _ _))
    · have b1 : (kd == 1) = false := int_nbeq e1k
      by_cases e2k : kd = 2
      · have b2 : (kd == 2) = true := by rw [e2k]; rfl
        have HR := Lib.hid ((HVR.out.trans ((if_neg e0k).trans (if_pos (.inr e2k)))).trans (HV.out.trans ((if_neg e1k).trans (if_pos e2k))))
        clear HVR HV e0k e1k e2k
        obtain ⟨q0, q1, q2, _, _, _⟩ := cells3 HN.out
        go_wp2_with fail
        refine (refText_any H2.out hF).mono ?_
        rintro x w2 ⟨bt, at_, ct, rfl, ho, _, h2, k2⟩
        generalize Pk.textOut r1 e1 = o2 at *
        obtain ⟨x2, r2, e2⟩ := o2
        dsimp only at h2 HR ho
        have kc := run_lb w2 bt at_ ct _ x2 rfl ho
        have HZ3 := Lib.hid (keptO k2 HZ2.out (by omega))
        have HN3 := Lib.hid (keptO k2 HN.out (by omega))
        have HK3 := Lib.hid (HK2.out.trans k2)
        have H3 := Lib.hid h2
        have hs2 : w1.heap.size < w2.heap.size := lt_of_heap HN3.out
        obtain ⟨n0, n1, n2, f0, f1, f2⟩ := cells3 HN3.out
        obtain ⟨z0, z1, z2, g0, g1, g2⟩ := cells3 HZ3.out
        clear h2 k2 ho
        go_wp2_with fail
        (try simp only [Exit.inBlock, Exit.then])
        refine bodyPost_ret (v := (V.mk kd 0 (lb x2)).val) ?_ rfl ⟨by rw [HR.out], ?_, ?_⟩
        · rw [results_cell_one rfl]
          go_simp
        · rw [HR.out]
          exact HE.out w2 _ _ _ H3.out (by repeat' (with_reducible first | exact Kept.refl _ _ | refine Kept.alloc ?_ _ | refine Kept.setAt ?_ (.inl (by show wr.heap.size ≤ _; omega)) _ _))
        · exact (by repeat' (with_reducible first | exact HK3.out | refine Kept.alloc ?_ _ | refine Kept.setAt ?_ (.inr (by omega)) _ _))
      · have b2 : (kd == 2) = false := int_nbeq e2k
        have HR := Lib.hid (HVR.out.trans ((if_neg e0k).trans (if_neg (by rintro (h | h) <;> contradiction))))
        clear HVR HV e0k e1k e2k
        obtain ⟨q0, q1, q2, _, _, _⟩ := cells3 HN.out
        go_wp2_with fail
        refine (refNone_any2 H2.out 3 (by decide)).mono ?_
        rintro x w2 ⟨rfl, h2, k2⟩
        have HZ3 := Lib.hid (keptO k2 HZ2.out (by omega))
        have HN3 := Lib.hid (keptO k2 HN.out (by omega))
        have HK3 := Lib.hid (HK2.out.trans k2)
        have H3 := Lib.hid h2
        have hs2 : w1.heap.size < w2.heap.size := lt_of_heap HN3.out
        obtain ⟨n0, n1, n2, f0, f1, f2⟩ := cells3 HN3.out
        obtain ⟨z0, z1, z2, g0, g1, g2⟩ := cells3 HZ3.out
        clear h2 k2
        go_wp2_with fail
        (try simp only [Exit.inBlock, Exit.then])
        refine bodyPost_ret (v := (V.mk kd 0 ⟨#[]⟩).val) ?_ rfl ⟨by rw [HR.out], ?_, ?_⟩
        · rw [results_cell_one rfl]
          go_simp
        · rw [HR.out]
          exact HE.out w2 _ _ _ H3.out (by repeat' (with_reducible first | exact Kept.refl _ _ | refine Kept.alloc ?_ _ | refine Kept.setAt ?_ (.inl (by show wr.heap.size ≤ _; omega)) _ _))
        · exact (by repeat' (with_reducible first | exact HK3.out | refine Kept.alloc ?_ _ | refine Kept.setAt ?_ (.inr (by omega)) _ _))
end Go.Proofs.YtbheofibdogabaaGreat.Ss
end
section
/- Plain mathematics: what the reference's Decode reads without an error is just the bytes of it. No walk. -/
namespace Go.Proofs.YtbheofibdogabaaGreat.Ss
open Go Go.RowKit Vl Kv Mem

theorem keep_zero {e x : Int} (hx : x ≠ 0) : Pk.keep e x ≠ 0 := by unfold Pk.keep; split <;> assumption
theorem intOut_zero {l r : List Nat} {e n : Int} (h8 : B8 l) (h : Pk.intOut l e = (n, r, 0)) : e = 0 ∧ l = Pk.intB n ++ r ∧ -9223372036854775808 ≤ n ∧ n ≤ 9223372036854775807 := by
  unfold Pk.intOut at h
  cases hd : Pk.rdInt l with
  | none => rw [hd] at h; injection h with _ h; injection h with _ h; exact absurd h (keep_zero (by decide))
  | some p =>
    obtain ⟨k, t⟩ := p
    rw [hd] at h
    injection h with h1 h
    injection h with h2 h3
    subst h1 h2 h3
    exact ⟨rfl, Pk.rdInt_sound h8 hd⟩
theorem fltOut_zero {l r : List Nat} {e : Int} {x : Nat} (h8 : B8 l) (h : Pk.fltOut l e = (x, r, 0)) : e = 0 ∧ l = Pk.fltB x ++ r := by
  unfold Pk.fltOut at h
  cases hd : Pk.rdFlt l with
  | none => rw [hd] at h; injection h with _ h; injection h with _ h; exact absurd h (keep_zero (by decide))
  | some p =>
    obtain ⟨k, t⟩ := p
    rw [hd] at h
    injection h with h1 h
    injection h with h2 h3
    subst h1 h2 h3
    refine ⟨rfl, ?_⟩
    unfold Pk.rdFlt at hd
    split at hd
    · cases hd
    · rename_i hl
      split at hd
      · rename_i hc
        injection hd with hd
        injection hd with h1 h2
        subst h1 h2
        unfold Pk.fltB
        rw [hc, (Pk.high8_num8 (by rw [List.length_take]; omega) (h8.take 8)).1, List.take_append_drop]
      · cases hd
theorem textOut_zero {l r t : List Nat} {e : Int} (h8 : B8 l) (h : Pk.textOut l e = (t, r, 0)) : e = 0 ∧ l = Pk.textB t ++ r := by
  unfold Pk.textOut Pk.rdText at h
  cases hd : Pk.rdInt l with
  | none => rw [hd] at h; injection h with _ h; injection h with _ h; exact absurd h (keep_zero (by decide))
  | some p =>
    obtain ⟨n, q⟩ := p
    rw [hd] at h
    simp only at h
    obtain ⟨h1, _⟩ := Pk.rdInt_sound h8 hd
    by_cases hb : 16384 < n
    · rw [if_pos hb] at h; injection h with _ h; injection h with _ h; exact absurd h (keep_zero (by decide))
    · rw [if_neg hb] at h
      by_cases hf : n < 0 ∨ (q.length : Int) < n
      · rw [if_pos hf] at h; injection h with _ h; injection h with _ h; exact absurd h (keep_zero (by decide))
      · rw [if_neg hf] at h
        injection h with ht h
        injection h with hr he
        subst ht hr he
        refine ⟨rfl, ?_⟩
        unfold Pk.textB
        have hlen : ((q.take n.toNat).length : Int) = n := by rw [List.length_take]; omega
        rw [hlen, List.append_assoc, List.take_append_drop]
        exact h1
theorem B8.right {a b l : List Nat} (h : B8 l) (e : l = a ++ b) : B8 b := fun x hx => h x (by rw [e]; exact List.mem_append_right _ hx)
theorem B8.left {a b l : List Nat} (h : B8 l) (e : l = a ++ b) : B8 a := fun x hx => h x (by rw [e]; exact List.mem_append_left _ hx)
/-- a value, read without an error -/
theorem rdVR_zero {l r : List Nat} {e : Int} {v : V} (h8 : B8 l) (h : rdVR l e = (v, r, 0)) : e = 0 ∧ l = valB v ++ r := by
  have hin : ∃ k q e1, Pk.intOut l e = (k, q, e1) := ⟨_, _, _, rfl⟩
  obtain ⟨k, q, e1, hi⟩ := hin
  have fin : ∀ (v2 : V) (q2 : List Nat), e1 = 0 → v2.kind = k → q = (if k = 1 then Pk.fltB v2.num else if k = 2 then Pk.textB (bl v2.text) else []) ++ q2 → e = 0 ∧ l = valB v2 ++ q2 := fun v2 q2 h1 hk hq => by
    subst h1
    obtain ⟨he, hl, _⟩ := intOut_zero h8 hi
    refine ⟨he, ?_⟩
    unfold valB
    rw [hl, hk, List.append_assoc]
    congr 1
  have q8 : e1 = 0 → B8 q := fun h1 => by
    subst h1
    exact B8.right h8 (intOut_zero h8 hi).2.1
  unfold rdVR rdV at h
  rw [hi] at h
  simp only at h
  by_cases k0 : k = 0
  · rw [if_pos k0] at h
    injection h with hv h
    injection h with hr he
    subst hv hr
    exact fin _ _ he rfl (by rw [if_neg (by omega), if_neg (by omega), List.nil_append])
  · rw [if_neg k0] at h
    by_cases k1 : k = 1
    · rw [if_pos (.inl k1), if_pos k1] at h
      have hx : ∃ x r2 e2, Pk.fltOut q e1 = (x, r2, e2) := ⟨_, _, _, rfl⟩
      obtain ⟨x, r2, e2, hx⟩ := hx
      rw [hx] at h
      simp only at h
      injection h with hv h
      injection h with hr he
      subst hv hr he
      have hq8 : B8 q := by
        by_cases he : e1 = 0
        · exact q8 he
        · have : Pk.intOut l e = (k, q, e1) := hi
          have hk0 : k = 0 := by
            unfold Pk.intOut at this
            cases hd : Pk.rdInt l with
            | none => rw [hd] at this; injection this with h1 _; exact h1.symm
            | some p =>
              obtain ⟨a, b⟩ := p
              have hs := Pk.rdInt_sound h8 hd
              rw [hd] at this
              injection this with _ h2
              injection h2 with h2 _
              exact absurd k1 (fun _ => by
                subst h2
                have hb8 : B8 b := B8.right h8 hs.1
                exact absurd ((fltOut_zero hb8 hx).1) he)
          exact absurd hk0 k0
      obtain ⟨h1, h2⟩ := fltOut_zero hq8 hx
      exact fin _ _ h1 rfl (by rw [if_pos k1]; exact h2)
    · by_cases k2 : k = 2
      · rw [if_pos (.inr k2), if_neg k1, if_pos k2] at h
        have hx : ∃ x r2 e2, Pk.textOut q e1 = (x, r2, e2) := ⟨_, _, _, rfl⟩
        obtain ⟨x, r2, e2, hx⟩ := hx
        rw [hx] at h
        simp only at h
        injection h with hv h
        injection h with hr he
        subst hv hr he
        have hq8 : B8 q := by
          have hi2 := hi
          unfold Pk.intOut at hi2
          cases hd : Pk.rdInt l with
          | none => rw [hd] at hi2; injection hi2 with h1 _; exact absurd h1.symm k0
          | some p =>
            obtain ⟨a, b⟩ := p
            have hs := Pk.rdInt_sound h8 hd
            rw [hd] at hi2
            injection hi2 with _ h2
            injection h2 with h2 _
            subst h2
            exact B8.right h8 hs.1
        obtain ⟨h1, h2⟩ := textOut_zero hq8 hx
        have ht8 : B8 x := by
          have : B8 (Pk.textB x) := B8.left hq8 h2
          exact fun y hy => this y (List.mem_append_right _ hy)
        exact fin _ _ h1 rfl (by rw [if_neg k1, if_pos k2]; simp only; rw [bl_lb ht8]; exact h2)
      · rw [if_neg (by rintro (h | h) <;> contradiction)] at h
        injection h with _ h
        injection h with _ h
        exact absurd h (keep_zero (by decide))
/-- a pair, a session, as the reference reads them -/
def rdPrR (l : List Nat) (e : Int) : Pr × List Nat × Int :=
  (⟨lb (Pk.textOut l e).1, (rdVR (Pk.textOut l e).2.1 (Pk.textOut l e).2.2).1⟩, (rdVR (Pk.textOut l e).2.1 (Pk.textOut l e).2.2).2)
def rdSeR (l : List Nat) (e : Int) : Se × List Nat × Int :=
  (⟨(rd3 l e).1.1, (rd3 l e).1.2.1, (rd3 l e).1.2.2, (rdVR (rd3 l e).2.1 (rd3 l e).2.2).1⟩, (rdVR (rd3 l e).2.1 (rd3 l e).2.2).2)
theorem rdVR_enc {v : V} (h : v.check = 0) (hn : v.num < 18446744073709551616) (r : List Nat) (e : Int) : rdVR (valB v ++ r) e = (v, r, e) := by
  have h1 := rdV_enc h hn r e
  obtain ⟨h0, h00, _⟩ := check_zero h
  have hk : (Pk.intOut (valB v ++ r) e).1 = v.kind := by
    unfold valB
    rw [List.append_assoc, intOut_enc (by omega) (by omega)]
  unfold rdVR
  by_cases k0 : v.kind = 0
  · rw [if_pos (by rw [hk]; exact k0), ← h1]
    unfold rdV
    rw [if_neg (by rw [hk]; omega), if_neg (by rw [hk]; omega)]
  · rw [if_neg (by rw [hk]; exact k0), if_pos (by rw [hk]; omega)]
    exact h1
theorem rdPrR_enc {p : Pr} (h : p.right = true) (hn : p.val.num < 18446744073709551616) (r : List Nat) (e : Int) : rdPrR (prB p ++ r) e = (p, r, e) := by
  obtain ⟨_, h1, _, h2⟩ := Pr.right_iff.1 h
  unfold rdPrR prB
  rw [List.append_assoc, textOut_enc (by rw [bl_length]; omega)]
  dsimp only
  rw [rdVR_enc h2 hn, lb_bl]
theorem rdSeR_enc {s : Se} (h : s.right = true) (hn : s.val.num < 18446744073709551616) (r : List Nat) (e : Int) : rdSeR (seB s ++ r) e = (s, r, e) := by
  obtain ⟨⟨h1, h2, h3, h4⟩, h5, h6, h7⟩ := Se.right_iff.1 h
  have e3 : rd3 (seB s ++ r) e = ((s.client, s.seq, s.code), valB s.val ++ r, e) := by
    unfold rd3 seB
    simp only [List.append_assoc]
    rw [intOut_enc (by omega) (by omega), intOut_enc (by omega) (by omega), intOut_enc (by omega) (by omega)]
  unfold rdSeR
  rw [e3]
  dsimp only
  rw [rdVR_enc h7 hn]
theorem rdPrR_zero {l r : List Nat} {e : Int} {p : Pr} (h8 : B8 l) (h : rdPrR l e = (p, r, 0)) : e = 0 ∧ l = prB p ++ r := by
  have hx : ∃ x r2 e2, Pk.textOut l e = (x, r2, e2) := ⟨_, _, _, rfl⟩
  obtain ⟨x, r2, e2, hx⟩ := hx
  have hr8 := (textOut_rest h8 e).2
  unfold rdPrR at h
  rw [hx] at h hr8
  simp only at h hr8
  have hy : ∃ v r3 e3, rdVR r2 e2 = (v, r3, e3) := ⟨_, _, _, rfl⟩
  obtain ⟨v, r3, e3, hy⟩ := hy
  rw [hy] at h
  injection h with hp h
  injection h with hr he
  subst hp hr he
  obtain ⟨h1, h2⟩ := rdVR_zero hr8 hy
  subst h1
  obtain ⟨h3, h4⟩ := textOut_zero h8 hx
  have ht8 : B8 x := by
    have : B8 (Pk.textB x) := B8.left h8 h4
    exact fun y hy => this y (List.mem_append_right _ hy)
  refine ⟨h3, ?_⟩
  unfold prB
  simp only
  rw [bl_lb ht8, h4, h2, List.append_assoc]
theorem rdSeR_zero {l r : List Nat} {e : Int} {s : Se} (h8 : B8 l) (h : rdSeR l e = (s, r, 0)) : e = 0 ∧ l = seB s ++ r := by
  have k1 := intOut_rest h8 e
  have k2 := intOut_rest k1.2 (Pk.intOut l e).2.2
  have k3 := intOut_rest k2.2 (Pk.intOut (Pk.intOut l e).2.1 (Pk.intOut l e).2.2).2.2
  have ha : ∃ x r2 e2, Pk.intOut l e = (x, r2, e2) := ⟨_, _, _, rfl⟩
  obtain ⟨a, ra, ea, ha⟩ := ha
  rw [ha] at k1 k2 k3
  simp only at k1 k2 k3
  have hb : ∃ x r2 e2, Pk.intOut ra ea = (x, r2, e2) := ⟨_, _, _, rfl⟩
  obtain ⟨b, rb, eb, hb⟩ := hb
  rw [hb] at k2 k3
  simp only at k2 k3
  have hc : ∃ x r2 e2, Pk.intOut rb eb = (x, r2, e2) := ⟨_, _, _, rfl⟩
  obtain ⟨c, rc, ec, hc⟩ := hc
  rw [hc] at k3
  simp only at k3
  have hd : ∃ v r3 e3, rdVR rc ec = (v, r3, e3) := ⟨_, _, _, rfl⟩
  obtain ⟨v, r3, e3, hd⟩ := hd
  unfold rdSeR rd3 at h
  simp only [ha, hb, hc, hd] at h
  injection h with hp h
  injection h with hr he
  subst hp hr he
  obtain ⟨h1, h2⟩ := rdVR_zero k3.2 hd
  subst h1
  obtain ⟨h3, h4, _⟩ := intOut_zero k2.2 hc
  subst h3
  obtain ⟨h5, h6, _⟩ := intOut_zero k1.2 hb
  subst h5
  obtain ⟨h7, h9, _⟩ := intOut_zero h8 ha
  refine ⟨h7, ?_⟩
  unfold seB
  simp only [List.append_assoc]
  rw [h9, h6, h4, h2]
theorem rdN_zero {α : Type} {f : List Nat → Int → α × List Nat × Int} {g : α → List Nat} (hf : ∀ {l r e x}, B8 l → f l e = (x, r, 0) → e = 0 ∧ l = g x ++ r) (hr : ∀ {l : List Nat}, B8 l → ∀ e, Rest l (f l e).2.1) {l : List Nat} {e : Int} (h8 : B8 l) (n : Nat) :
    ∀ {L r}, rdN f l e n = (L, r, 0) → e = 0 ∧ l = L.flatMap g ++ r := by
  induction n with
  | zero =>
    intro L r h
    injection h with h1 h
    injection h with h2 h3
    subst h1 h2 h3
    exact ⟨rfl, rfl⟩
  | succ n ih =>
    intro L r h
    have hx : ∃ L2 r2 e2, rdN f l e n = (L2, r2, e2) := ⟨_, _, _, rfl⟩
    obtain ⟨L2, r2, e2, hx⟩ := hx
    have h82 := (rdN_rest hr h8 e n).2
    unfold rdN at h
    rw [hx] at h h82
    simp only at h h82
    have hy : ∃ x r3 e3, f r2 e2 = (x, r3, e3) := ⟨_, _, _, rfl⟩
    obtain ⟨x, r3, e3, hy⟩ := hy
    rw [hy] at h
    injection h with h1 h
    injection h with h2 h3
    subst h1 h2 h3
    obtain ⟨h4, h5⟩ := hf h82 hy
    subst h4
    obtain ⟨h6, h7⟩ := ih hx
    refine ⟨h6, ?_⟩
    rw [h7, h5, List.flatMap_append]
    simp
theorem rdVR_rest {l : List Nat} (h : B8 l) (e : Int) : Rest l (rdVR l e).2.1 := by
  have h1 := intOut_rest h e
  unfold rdVR
  split
  · exact h1
  · split
    · exact rdV_rest h e
    · exact Rest.none
theorem rdPrR_rest {l : List Nat} (h : B8 l) (e : Int) : Rest l (rdPrR l e).2.1 := by
  have h1 := textOut_rest h e
  exact h1.trans (rdVR_rest h1.2 _)
theorem rdSeR_rest {l : List Nat} (h : B8 l) (e : Int) : Rest l (rdSeR l e).2.1 := by
  have h1 := intOut_rest h e
  have h2 := h1.trans (intOut_rest h1.2 (Pk.intOut l e).2.2)
  have h3 := h2.trans (intOut_rest h2.2 (Pk.intOut (Pk.intOut l e).2.1 (Pk.intOut l e).2.2).2.2)
  exact h3.trans (rdVR_rest h3.2 _)
theorem rdVR_lt {l : List Nat} (h : B8 l) (e : Int) : (rdVR l e).1.num < 18446744073709551616 := by
  unfold rdVR
  split
  · show (0 : Nat) < 18446744073709551616; decide
  · split
    · exact rdV_lt h e
    · show (0 : Nat) < 18446744073709551616; decide
/-- all is read, and right: the machine of these bytes -/
theorem decM_of {F l1 l2 l3 : List Nat} {n n2 e1 e2 e3 : Int} {P : List Pr} {S : List Se} (h8 : B8 F) (h1 : Pk.intOut F 0 = (n, l1, e1)) (hn : 0 ≤ n) (hp : rdN rdPrR l1 e1 n.toNat = (P, l2, e2)) (h2 : Pk.intOut l2 e2 = (n2, l3, e3)) (hn2 : 0 ≤ n2)
    (hs : rdN rdSeR l3 e3 n2.toNat = (S, [], 0)) (hr : RightM ⟨P, S⟩) : decM F = (⟨P, S⟩, 0) := by
  have b1 : B8 l1 := by have := (intOut_rest h8 0).2; rw [h1] at this; exact this
  have b2 : B8 l2 := by have := (rdN_rest (f := rdPrR) (fun h e => rdPrR_rest h e) b1 e1 n.toNat).2; rw [hp] at this; exact this
  have b3 : B8 l3 := by have := (intOut_rest b2 e2).2; rw [h2] at this; exact this
  obtain ⟨z3, f3⟩ := rdN_zero (f := rdSeR) (g := seB) (fun h8 h => rdSeR_zero h8 h) (fun h e => rdSeR_rest h e) b3 _ hs
  subst z3
  obtain ⟨z2, f2, _⟩ := intOut_zero b2 h2
  subst z2
  obtain ⟨z1, f1⟩ := rdN_zero (f := rdPrR) (g := prB) (fun h8 h => rdPrR_zero h8 h) (fun h e => rdPrR_rest h e) b1 _ hp
  subst z1
  obtain ⟨_, f0, _⟩ := intOut_zero h8 h1
  have lp : (P.length : Int) = n := by have := rdN_length rdPrR l1 0 n.toNat; rw [hp] at this; simp only at this; omega
  have ls : (S.length : Int) = n2 := by have := rdN_length rdSeR l3 0 n2.toNat; rw [hs] at this; simp only at this; omega
  have hF : F = encM ⟨P, S⟩ := by
    unfold encM
    simp only
    rw [lp, ls, f0, f1, f2, f3, List.append_nil]
  have hfit : FitM ⟨P, S⟩ := by
    refine ⟨?_, ?_⟩
    · have := rdN_all2 (f := rdPrR) (P := fun p : Pr => p.val.num < 18446744073709551616) (fun h e => rdPrR_rest h e) (fun h e => rdVR_lt (textOut_rest h e).2 _) b1 0 n.toNat
      rw [hp] at this
      exact this
    · have := rdN_all2 (f := rdSeR) (P := fun s : Se => s.val.num < 18446744073709551616) (fun h e => rdSeR_rest h e) (fun {l} h e => by
        have k1 := intOut_rest h e
        have k2 := k1.trans (intOut_rest k1.2 (Pk.intOut l e).2.2)
        have k3 := k2.trans (intOut_rest k2.2 (Pk.intOut (Pk.intOut l e).2.1 (Pk.intOut l e).2.2).2.2)
        exact rdVR_lt k3.2 _) b3 0 n2.toNat
      rw [hs] at this
      exact this
  rw [hF]
  exact decM_enc hr hfit
/-- what is read of the bytes of a right machine -/
theorem decM_reads {F : List Nat} (h8 : B8 F) (h : decM F ≠ (Ma.zero, 6)) : ∃ (m : Ma) (l1 l2 l3 : List Nat), RightM m ∧ Pk.intOut F 0 = ((m.pairs.length : Int), l1, 0) ∧ rdN rdPrR l1 0 m.pairs.length = (m.pairs, l2, 0) ∧ Pk.intOut l2 0 = ((m.sess.length : Int), l3, 0) ∧ rdN rdSeR l3 0 m.sess.length = (m.sess, [], 0) := by
  rcases decM_cases F with ⟨h1, _⟩ | ⟨_, hr, he⟩
  · exact absurd h1 h
  · have hf := readM_fit h8
    obtain ⟨m, hm⟩ : ∃ m, m = readM F := ⟨_, rfl⟩
    rw [← hm] at hr he hf
    have np := hr.np
    have ns := hr.ns
    refine ⟨m, m.pairs.flatMap prB ++ (Pk.intB m.sess.length ++ m.sess.flatMap seB), Pk.intB m.sess.length ++ m.sess.flatMap seB, m.sess.flatMap seB, hr, ?_, ?_, ?_, ?_⟩
    · rw [← he]
      unfold encM
      exact intOut_enc (by omega) (by omega) _ _
    · exact rdN_all (fun p hp r e => rdPrR_enc (hr.pr p hp) (hf.pairs p hp) r e) _ 0
    · exact intOut_enc (by omega) (by omega) _ _
    · have := rdN_all (f := rdSeR) (g := seB) (L := m.sess) (fun s hs r e => rdSeR_enc (hr.se s hs) (hf.sess s hs) r e) [] 0
      rw [List.append_nil] at this
      exact this
end Go.Proofs.YtbheofibdogabaaGreat.Ss
end
