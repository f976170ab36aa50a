/- DiskLasts' walk. -/
import Derived.Test.YtaogpchjkbcjoaaActs
namespace Go.Proofs.Ytaogpchjkbcjoaa.Dk
open Go Go.RowKit Mem Kp
/-- what is synced, and all, beside the disk -/
def LX (bs : Nat) (S : List Nat) (ba : Nat) (A : List Nat) : Nat → Prop := fun k => (S ≠ [] ∧ k = bs) ∨ (A ≠ [] ∧ k = ba)
structure Lz (w wr : World) (d bs : Nat) (as_ : Option Addr) (cs : Nat) (S : List Nat) (ba : Nat) (aa : Option Addr) (ca : Nat) (A : List Nat) (st : St) : Prop where
  disk : Own w wr (LX bs S ba A) d st
  room : st.room = 65536
  file : st.file = A
  off : st.off = false
  safe : S = A.take st.safe
  sS : Src wr bs as_ cs S
  sA : Src wr ba aa ca A
theorem Lz.lens {w wr : World} {d bs : Nat} {as_ : Option Addr} {cs : Nat} {S : List Nat} {ba : Nat} {aa : Option Addr} {ca : Nat} {A : List Nat} {st : St} (h : Lz w wr d bs as_ cs S ba aa ca A st) : A.length ≤ 65536 ∧ S.length ≤ A.length ∧ S.length = st.safe ∧ B8 A := by
  have ok := h.disk.ok
  have h1 := ok.room; have h2 := ok.fits; have h3 := ok.safe; have h4 := ok.b8
  rw [h.file] at h2 h3 h4
  refine ⟨by omega, ?_, ?_, h4⟩ <;> rw [h.safe, List.length_take] <;> omega
theorem tmod9 (D : Int) : ∃ p : Nat, p < 9 ∧ (IntKind.u64.wrap D).tmod 9 = (p : Int) := by
  have h0 : 0 ≤ IntKind.u64.wrap D := by simp [IntKind.wrap, IntKind.bits, IntKind.signed]; omega
  have h1 := Int.tmod_lt_of_pos (IntKind.u64.wrap D) (b := 9) (by omega)
  have h2 := Int.tmod_nonneg 9 h0
  exact ⟨((IntKind.u64.wrap D).tmod 9).toNat, by omega, by omega⟩
theorem trip_on {s : St} (h : s.off = false) (n k : Int) : s.trip n k = ⟨s.room, s.file, s.safe, s.off, n.toNat, k⟩ := by unfold St.trip; rw [if_neg (by rw [h]; decide)]
theorem crash_on {s : St} (h : s.off = false) (k : Int) : s.crash k = s.gone k := by unfold St.crash; rw [if_neg (by rw [h]; decide)]
/-- what is known when the power has gone: the file is a beginning of all, and has what is synced -/
structure Tear (S A : List Nat) (m : Nat) (st : St) : Prop where
  file : st.file = A.take m
  lo : S.length ≤ m
  hi : m ≤ A.length
  safe : st.safe = m
  off : st.off = true
  room : st.room = 65536
theorem tear_gone {S A : List Nat} {st : St} (ok : st.Ok) (hf : st.file = A) (hs : S.length = st.safe) (hr : st.room = 65536) (k : Int) : Tear S A (st.left k) (st.gone k) := by
  have hl := St.left_le ok.safe k
  exact ⟨by show st.file.take _ = _; rw [hf], by omega, by rw [← hf]; exact hl.2, rfl, rfl, hr⟩
theorem Lz.tear {w wr : World} {d bs : Nat} {as_ : Option Addr} {cs : Nat} {S : List Nat} {ba : Nat} {aa : Option Addr} {ca : Nat} {A : List Nat} {st : St} (h : Lz w wr d bs as_ cs S ba aa ca A st) (k : Int) : Tear S A (st.left k) (st.gone k) :=
  tear_gone h.disk.ok h.file h.lens.2.2.1 h.room k
theorem Lz.tear_app {w wr : World} {d bs : Nat} {as_ : Option Addr} {cs : Nat} {S : List Nat} {ba : Nat} {aa : Option Addr} {ca : Nat} {A : List Nat} {st : St} (h : Lz w wr d bs as_ cs S ba aa ca A st) (t : List Nat) (h8 : B8 t) (hf : A.length + t.length ≤ 65536) (k : Int) : Tear S (A ++ t) ((st.with_ (st.file ++ t) st.safe).left k) ((st.with_ (st.file ++ t) st.safe).gone k) := by
  have hl := h.lens
  have h1 : st.safe ≤ (st.file ++ t).length := by have := h.disk.ok.safe; rw [List.length_append]; omega
  refine tear_gone (h.disk.ok.with_ h.off (by rw [List.length_append, h.file, h.room]; exact hf) h1 (h.disk.ok.b8.append h8)) (by show st.file ++ t = _; rw [h.file]) hl.2.2.1 h.room k
/-- behind a start: what is read is synced, and is all -/
theorem Lz.back {w wr w' : World} {X : Nat → Prop} {d : Nat} {S A : List Nat} {m : Nat} {st : St} (hT : Tear S A m st) (h : Own w wr X d st.start) (hk : Kept None wr w') {b : Nat} {a : Option Addr} {c : Nat} (ho : OwnB 5 w' b a c (A.take m)) (hb : wr.heap.size ≤ b) : Lz w w' d b a c (A.take m) b a c (A.take m) st.start := by
  have hl : (A.take m).length = m := by rw [List.length_take]; have := hT.hi; omega
  refine ⟨h.on hk (fun _ h => h.elim) _ (fun k hk2 => ?_), hT.room, hT.file, rfl, ?_, ho.src, ho.src⟩
  · have e : k = b := by rcases hk2 with h | h <;> exact h.2
    have hne : A.take m ≠ [] := by rcases hk2 with h | h <;> exact h.1
    rw [e]
    exact ⟨.inr hb, ho.src.lt hne⟩
  · show A.take m = (A.take m).take st.safe
    rw [hT.safe]
    exact (List.take_of_length_le (l := A.take m) (by omega)).symm
theorem Lz.same {w wr w' : World} {d bs : Nat} {as_ : Option Addr} {cs : Nat} {S : List Nat} {ba : Nat} {aa : Option Addr} {ca : Nat} {A : List Nat} {st : St} (h : Lz w wr d bs as_ cs S ba aa ca A st) (hk : Kept None wr w') : Lz w w' d bs as_ cs S ba aa ca A st :=
  ⟨h.disk.same hk, h.room, h.file, h.off, h.safe, h.sS.kept hk (fun _ h => h), h.sA.kept hk (fun _ h => h)⟩
theorem read_tear {w wr : World} {X : Nat → Prop} {d : Nat} {S A : List Nat} {m : Nat} {st : St} (hT : Tear S A m st) (h : Own w wr X d st.start) :
    Calls Try.prog 16 #[.pointer (some ⟨d, 0, none⟩)] wr fun x w' => ∃ b a c, x = .returned (.tuple #[.slice a m c, .int .i64 0]) ∧ Lz w w' d b a c (A.take m) b a c (A.take m) st.start ∧ Kept None wr w' := by
  have hl : (A.take m).length = m := by rw [List.length_take]; have := hT.hi; omega
  have e : st.start.file = A.take m := hT.file
  refine (Read_own w wr _ d _ h rfl).mono fun x w' ⟨b, a, c, hx, ho, hb, _, hk⟩ => ?_
  rw [e] at ho hx
  rw [hl] at hx
  exact ⟨b, a, c, hx, Lz.back hT h hk ho hb, hk⟩
theorem src_cap {w : World} {b : Nat} {a : Option Addr} {c : Nat} {l : List Nat} {m : Nat} (h : Src w b a c l) (hm : m ≤ l.length) : m ≤ c ∧ Src w b a c (l.take m) := by
  rcases h with h | h
  · exact ⟨by have := h.1; omega, .inl (fits_left h hm)⟩
  · rw [h.1] at hm ⊢
    simp at hm
    exact ⟨by omega, .inr ⟨by simp, h.2⟩⟩
set_option maxHeartbeats 16000000 in
set_option maxRecDepth 100000 in
theorem DiskLasts_any (a : Option Addr) (cap : Nat) (L : List Ac) (w : World) (h : Acts w a L) :
    Calls Try.prog 4 #[.slice a L.length cap] w fun e w' => e = .returned (.bool true) ∧ Kept None w w' := by
  obtain ⟨i0, hi, hz0, hz1, hz2⟩ := info_parts infoU8
  have HL := Lib.hid h
  have hLl := h.2.1
  have HH := Lib.hid (heavy_any a cap L w h)
  clear h
  cases hh : heavyB L with
  | true =>
    rw [hh] at HH
    clear hh
    go_enter Try.func4, Try.ntmps4
    go_wp2_with fail
    refine HH.out.mono ?_
    rintro x w' ⟨rfl, rfl⟩
    go_wp2
    go_ret
    exact ⟨rfl, Kept.refl _ _⟩
  | false =>
    obtain ⟨hl1, hl2⟩ := heavy_no hh
    have HL2 := Lib.hid hl2
    rw [hh] at HH
    clear hh hl2
    go_enter Try.func4, Try.ntmps4
    go_wp2_with fail
    refine HH.out.mono ?_
    rintro x w' ⟨rfl, rfl⟩
    go_wp2_with fail
    refine (New_own w w (Kept.refl _ _) 65536 (by decide) None none_lt).mono ?_
    rintro x w1 ⟨d, rfl, h1, _⟩
    have H1 : Hid (Lz w w1 d 0 none 0 [] 0 none 0 [] (St.new 65536)) := ⟨h1.drop (fun k hk => by rcases hk with h | h <;> exact absurd rfl h.1), rfl, rfl, rfl, rfl, .inl ⟨Nat.le_refl _, by decide, .inl ⟨rfl, rfl, rfl⟩⟩, .inl ⟨Nat.le_refl _, by decide, .inl ⟨rfl, rfl, rfl⟩⟩⟩
    clear h1
    go_wp2
    go_loopw [5, 6, 7] (fun u v i wr => ∃ (k bs cs sn ba ca an : Nat) (as_ aa : Option Addr) (S A : List Nat) (st : St), k ≤ L.length ∧ k ≤ 300 ∧ i = .int .i64 k ∧ u = .slice as_ sn cs ∧ v = .slice aa an ca ∧ Hid (S.length = sn ∧ A.length = an ∧ Lz w wr d bs as_ cs S ba aa ca A st)) (fun _ _ i _ => 300 - (intOf i).toNat)
    case atStart => exact ⟨0, 0, 0, 0, 0, 0, 0, none, none, [], [], _, by omega, by omega, rfl, rfl, rfl, rfl, rfl, H1.out⟩
    case round =>
      obtain ⟨k, bs, cs, sn, ba, ca, an, as_, aa, S, A, st, hk, hk3, rfl, rfl, rfl, hw⟩ := hrel
      by_cases hlt : k < L.length ∧ k < 300
      · obtain ⟨hlt, hlt3⟩ := hlt
        obtain ⟨b, off, rfl, hc⟩ := HL.out.2.2 (by omega)
        obtain ⟨c0, c1, c2, c3⟩ := (hc k hlt).kept hw.out.2.2.disk.kept
        have hok := HL.out.get hlt
        have htl := HL2.out k hlt3 hlt
        clear hc
        generalize L.getD k Ac.none = x at *
        obtain ⟨D, N, K, tb, ta, tc, t⟩ := x
        obtain ⟨hD, hN, hK, hT, h8⟩ := hok
        simp only at c0 c1 c2 c3 hD hN hK hT h8 htl
        have HT := Lib.hid hT
        have H8 := Lib.hid h8
        have hD1 := hD.1; have hD2 := hD.2; have hN1 := hN.1; have hN2 := hN.2; have hK1 := hK.1; have hK2 := hK.2
        clear hD hN hK hT h8
        go_wp2_with fail
        obtain ⟨P, hP⟩ : ∃ P, P = wr.heap.size := ⟨_, rfl⟩
        obtain ⟨w2, hw2⟩ : ∃ W, W = wr.alloc (.cells #[.int .i64 D, .int .i64 N, .int .i64 K, .slice ta t.length tc] 35) := ⟨_, rfl⟩
        have k12 : Kept None wr w2 := by rw [hw2]; exact (Kept.refl _ _).alloc _
        have hbx : w2.heap[P]? = some (.cells #[.int .i64 D, .int .i64 N, .int .i64 K, .slice ta t.length tc] 35 (0, 0)) := by rw [hw2, hP]; exact heap_alloc_new wr _
        have HBX := Lib.hid hbx
        have HO2 : Hid (Own w w2 (fun k => LX bs S ba A k ∨ k = P) d st) := hw.out.2.2.disk.add k12 P (by omega) (lt_of_heap hbx)
        have HS2 : Hid (Src w2 bs as_ cs S) := hw.out.2.2.sS.kept k12 (fun _ h => h)
        have HA2 : Hid (Src w2 ba aa ca A) := hw.out.2.2.sA.kept k12 (fun _ h => h)
        have HZ := Lib.hid hw.out.2.2
        have HSN := Lib.hid hw.out.1
        have HAN := Lib.hid hw.out.2.1
        have e0 := cell_heap hbx 0
        have e1 := cell_heap hbx 1
        have e2 := cell_heap hbx 2
        have e3 := cell_heap hbx 3
        simp only [List.getElem?_toArray, List.getElem?_cons_zero, List.getElem?_cons_succ] at e0 e1 e2 e3
        rw [← hw2]
        have hoff := hw.out.2.2.off
        clear k12 hbx hw2 hw c0 c1 c2 c3
        refine (Off_own w w2 _ d st HO2.out).mono ?_
        rintro x w3 ⟨rfl, rfl⟩
        rw [hoff]
        have HOFF := Lib.hid hoff
        clear hoff
        rw [hP] at e0 e1 e2 e3
        have HPE := Lib.hid hP
        clear hP
        have hX : ∃ X : Nat → Prop, X = fun k => LX bs S ba A k ∨ k = P := ⟨_, rfl⟩
        obtain ⟨X, hX⟩ := hX
        rw [← hX] at HO2
        have HXA : Hid (A ≠ [] → X ba) := fun h => by rw [hX]; exact .inl (.inr ⟨h, rfl⟩)
        have HXS : Hid (S ≠ [] → X bs) := fun h => by rw [hX]; exact .inl (.inl ⟨h, rfl⟩)
        have HXP : Hid (X P) := by rw [hX]; exact .inr rfl
        have HAN' := HAN
        have HTB : Hid (t ≠ [] → tb < w.heap.size) := fun h => HT.out.lt h
        have HTT := HT
        clear hX HT
        have hkind : (IntKind.u64.wrap D).tmod 9 = 3 ∨ (IntKind.u64.wrap D).tmod 9 = 4 ∨ (IntKind.u64.wrap D).tmod 9 = 5 ∨ (IntKind.u64.wrap D).tmod 9 = 6 ∨ (IntKind.u64.wrap D).tmod 9 = 7 ∨ (IntKind.u64.wrap D).tmod 9 = 8 ∨ ∃ p : Nat, (IntKind.u64.wrap D).tmod 9 = (p : Int) ∧ ((p : Int) == 3) = false ∧ ((p : Int) == 4) = false ∧ ((p : Int) == 5) = false ∧ ((p : Int) == 6) = false ∧ ((p : Int) == 7) = false ∧ ((p : Int) == 8) = false := by
          obtain ⟨p, hp, hpe⟩ := tmod9 D
          by_cases hp3 : p < 3
          · exact .inr (.inr (.inr (.inr (.inr (.inr ⟨p, hpe, beq_eq_false_iff_ne.2 (by omega), beq_eq_false_iff_ne.2 (by omega), beq_eq_false_iff_ne.2 (by omega), beq_eq_false_iff_ne.2 (by omega), beq_eq_false_iff_ne.2 (by omega), beq_eq_false_iff_ne.2 (by omega)⟩)))))
          · omega
        rcases hkind with hq | hq | hq | hq | hq | hq | ⟨p, hq, q3, q4, q5, q6, q7, q8⟩
        · by_cases harm : st.armed = 1
          · obtain ⟨m, hm⟩ : ∃ m, m = st.left st.keep := ⟨_, rfl⟩
            have HT : Hid (Tear S A m (st.gone st.keep)) := by rw [hm]; exact HZ.out.tear st.keep
            have hsy := Sync_own w w2 _ d st HO2.out
            rw [St.sync_last HOFF.out harm] at hsy
            clear hm harm
            generalize st.gone st.keep = st3 at *
            go_wp2_with fail
            refine hsy.mono ?_
            clear hsy
            rintro x w3 ⟨rfl, h3, hk3⟩
            have HO3 := Lib.hid h3
            have HSA3 : Hid (Src w3 ba aa ca A) := HA2.out.kept hk3 (fun h e => e (HXA.out h))
            clear h3 hk3
            have hlo : sn ≤ m := by rw [← HSN.out]; exact HT.out.lo
            have hhi : m ≤ an := by rw [← HAN'.out]; exact HT.out.hi
            have f1 : decide ((m : Int) < (sn : Int)) = false := decide_eq_false (by omega)
            have f1' : decide (m < sn) = false := decide_eq_false (by omega)
            have f2 : decide ((an : Int) < (m : Int)) = false := decide_eq_false (by omega)
            have f2' : decide (an < m) = false := decide_eq_false (by omega)
            go_wp2_with fail
            refine (Off_own w w3 _ d _ HO3.out).mono ?_
            rintro x w4 ⟨rfl, rfl⟩
            rw [HT.out.off]
            go_wp2_with fail
            refine (Start_own w w3 _ d _ HO3.out).mono ?_
            rintro x w5 ⟨rfl, h5, hk5⟩
            have HO5 := Lib.hid h5
            have HSA5 : Hid (Src w5 ba aa ca A) := HSA3.out.kept hk5 (fun h e => e (HXA.out h))
            clear h5 hk5
            go_wp2_with fail
            refine (read_tear HT.out HO5.out).mono ?_
            rintro x w6 ⟨b6, a6, c6, rfl, h6, hk6⟩
            have HZ6 := Lib.hid h6
            obtain ⟨hmc, hst⟩ := src_cap (HSA5.out.kept hk6 (fun _ h => h)) (m := m) (by rw [HAN'.out]; exact hhi)
            have HSA6 := Lib.hid hst
            have hlen : ((A : List Nat).take m).length = m := by rw [List.length_take, HAN'.out]; omega
            clear h6 hk6 hst
            have hmlen := HAN'.out
            have hcmp := KBytes_any b6 a6 c6 ((A : List Nat).take m) ba aa ca ((A : List Nat).take m) w6 HZ6.out.sA HSA6.out (by rw [hlen]; have := HZ.out.lens.1; have := HAN.out; omega) (by rw [hlen]; have := HZ.out.lens.1; have := HAN.out; omega)
            rw [hlen] at hcmp
            clear hmlen
            go_wp2_with fail
            refine hcmp.mono ?_
            clear hcmp
            rintro x w7 ⟨rfl, n7, rfl⟩
            rw [same_refl]
            obtain ⟨w7, hW⟩ : ∃ W, W = w6.drewN n7 := ⟨_, rfl⟩
            rw [← hW]
            have HZ7 := Lib.hid (HZ6.out.same (w' := w7) (by rw [hW]; exact (Kept.refl _ _).drewN n7))
            have HLEN := Lib.hid hlen
            clear hW hlen
            go_wp2
            go_roundw
            case rel => exact ⟨k + 1, b6, c6, m, b6, c6, m, a6, a6, _, _, _, by omega, by omega, by go_num, rfl, rfl, HLEN.out, HLEN.out, HZ7.out⟩
            case measure => simp [intOf]; omega
          · have hsy := Sync_own w w2 _ d st HO2.out
            rw [St.sync_ok HOFF.out harm] at hsy
            clear harm
            go_wp2_with fail
            refine hsy.mono ?_
            clear hsy
            rintro x w3 ⟨rfl, h3, hk3⟩
            have HZ3 : Hid (Lz w w3 d ba aa ca A ba aa ca A (st.with_ st.file st.file.length).less) := by
              have hsa := HA2.out.kept hk3 (fun h e => e (HXA.out h))
              exact ⟨h3.drop (fun y hy => by rcases hy with hy | hy <;> (rw [hy.2]; exact HXA.out hy.1)), HZ.out.room, HZ.out.file, HOFF.out, by show A = A.take st.file.length; rw [HZ.out.file, List.take_length], hsa, hsa⟩
            clear h3 hk3
            go_wp2_with fail
            refine (Off_own w w3 _ d _ HZ3.out.disk).mono ?_
            rintro x w4 ⟨rfl, rfl⟩
            rw [HZ3.out.off]
            go_wp2
            go_roundw
            case rel => exact ⟨k + 1, ba, ca, an, ba, ca, an, aa, aa, A, A, _, by omega, by omega, by go_num, rfl, rfl, HAN.out, HAN.out, HZ3.out⟩
            case measure => simp [intOf]; omega
        · by_cases harm : st.armed = 1
          · obtain ⟨m, hm⟩ : ∃ m, m = st.left st.keep := ⟨_, rfl⟩
            have HT : Hid (Tear S A m (st.gone st.keep)) := by rw [hm]; exact HZ.out.tear st.keep
            have hsy := Sync_own w w2 _ d st HO2.out
            rw [St.sync_last HOFF.out harm] at hsy
            clear hm harm
            generalize st.gone st.keep = st3 at *
            go_wp2_with fail
            refine hsy.mono ?_
            clear hsy
            rintro x w3 ⟨rfl, h3, hk3⟩
            have HO3 := Lib.hid h3
            have HSA3 : Hid (Src w3 ba aa ca A) := HA2.out.kept hk3 (fun h e => e (HXA.out h))
            clear h3 hk3
            have hlo : sn ≤ m := by rw [← HSN.out]; exact HT.out.lo
            have hhi : m ≤ an := by rw [← HAN'.out]; exact HT.out.hi
            have f1 : decide ((m : Int) < (sn : Int)) = false := decide_eq_false (by omega)
            have f1' : decide (m < sn) = false := decide_eq_false (by omega)
            have f2 : decide ((an : Int) < (m : Int)) = false := decide_eq_false (by omega)
            have f2' : decide (an < m) = false := decide_eq_false (by omega)
            go_wp2_with fail
            refine (Off_own w w3 _ d _ HO3.out).mono ?_
            rintro x w4 ⟨rfl, rfl⟩
            rw [HT.out.off]
            go_wp2_with fail
            refine (Start_own w w3 _ d _ HO3.out).mono ?_
            rintro x w5 ⟨rfl, h5, hk5⟩
            have HO5 := Lib.hid h5
            have HSA5 : Hid (Src w5 ba aa ca A) := HSA3.out.kept hk5 (fun h e => e (HXA.out h))
            clear h5 hk5
            go_wp2_with fail
            refine (read_tear HT.out HO5.out).mono ?_
            rintro x w6 ⟨b6, a6, c6, rfl, h6, hk6⟩
            have HZ6 := Lib.hid h6
            obtain ⟨hmc, hst⟩ := src_cap (HSA5.out.kept hk6 (fun _ h => h)) (m := m) (by rw [HAN'.out]; exact hhi)
            have HSA6 := Lib.hid hst
            have hlen : ((A : List Nat).take m).length = m := by rw [List.length_take, HAN'.out]; omega
            clear h6 hk6 hst
            have hmlen := HAN'.out
            have hcmp := KBytes_any b6 a6 c6 ((A : List Nat).take m) ba aa ca ((A : List Nat).take m) w6 HZ6.out.sA HSA6.out (by rw [hlen]; have := HZ.out.lens.1; have := HAN.out; omega) (by rw [hlen]; have := HZ.out.lens.1; have := HAN.out; omega)
            rw [hlen] at hcmp
            clear hmlen
            go_wp2_with fail
            refine hcmp.mono ?_
            clear hcmp
            rintro x w7 ⟨rfl, n7, rfl⟩
            rw [same_refl]
            obtain ⟨w7, hW⟩ : ∃ W, W = w6.drewN n7 := ⟨_, rfl⟩
            rw [← hW]
            have HZ7 := Lib.hid (HZ6.out.same (w' := w7) (by rw [hW]; exact (Kept.refl _ _).drewN n7))
            have HLEN := Lib.hid hlen
            clear hW hlen
            go_wp2
            go_roundw
            case rel => exact ⟨k + 1, b6, c6, m, b6, c6, m, a6, a6, _, _, _, by omega, by omega, by go_num, rfl, rfl, HLEN.out, HLEN.out, HZ7.out⟩
            case measure => simp [intOf]; omega
          · have hsy := Sync_own w w2 _ d st HO2.out
            rw [St.sync_ok HOFF.out harm] at hsy
            clear harm
            go_wp2_with fail
            refine hsy.mono ?_
            clear hsy
            rintro x w3 ⟨rfl, h3, hk3⟩
            have HZ3 : Hid (Lz w w3 d ba aa ca A ba aa ca A (st.with_ st.file st.file.length).less) := by
              have hsa := HA2.out.kept hk3 (fun h e => e (HXA.out h))
              exact ⟨h3.drop (fun y hy => by rcases hy with hy | hy <;> (rw [hy.2]; exact HXA.out hy.1)), HZ.out.room, HZ.out.file, HOFF.out, by show A = A.take st.file.length; rw [HZ.out.file, List.take_length], hsa, hsa⟩
            clear h3 hk3
            go_wp2_with fail
            refine (Off_own w w3 _ d _ HZ3.out.disk).mono ?_
            rintro x w4 ⟨rfl, rfl⟩
            rw [HZ3.out.off]
            go_wp2
            go_roundw
            case rel => exact ⟨k + 1, ba, ca, an, ba, ca, an, aa, aa, A, A, _, by omega, by omega, by go_num, rfl, rfl, HAN.out, HAN.out, HZ3.out⟩
            case measure => simp [intOf]; omega
        · have hr : t.length ≤ st.room := by rw [HZ.out.room]; omega
          by_cases harm : st.armed = 1
          · obtain ⟨m, hm⟩ : ∃ m, m = st.left st.keep := ⟨_, rfl⟩
            have HT : Hid (Tear S A m (st.gone st.keep)) := by rw [hm]; exact HZ.out.tear st.keep
            have hsy := Replace_own w w2 _ d st HO2.out tb ta tc t (HTT.out.kept HO2.out.kept (fun _ h => h)) (fun h => .inl (HTB.out h)) H8.out (by omega)
            rw [St.replace_last HOFF.out hr harm] at hsy
            clear hm harm hr
            generalize st.gone st.keep = st3 at *
            go_wp2_with fail
            refine hsy.mono ?_
            clear hsy
            rintro x w3 ⟨rfl, h3, hk3⟩
            have HO3 := Lib.hid h3
            have HSA3 : Hid (Src w3 ba aa ca A) := HA2.out.kept hk3 (fun h e => e (HXA.out h))
            clear h3 hk3
            have hlo : sn ≤ m := by rw [← HSN.out]; exact HT.out.lo
            have hhi : m ≤ an := by rw [← HAN'.out]; exact HT.out.hi
            have f1 : decide ((m : Int) < (sn : Int)) = false := decide_eq_false (by omega)
            have f1' : decide (m < sn) = false := decide_eq_false (by omega)
            have f2 : decide ((an : Int) < (m : Int)) = false := decide_eq_false (by omega)
            have f2' : decide (an < m) = false := decide_eq_false (by omega)
            go_wp2_with fail
            refine (Off_own w w3 _ d _ HO3.out).mono ?_
            rintro x w4 ⟨rfl, rfl⟩
            rw [HT.out.off]
            go_wp2_with fail
            refine (Start_own w w3 _ d _ HO3.out).mono ?_
            rintro x w5 ⟨rfl, h5, hk5⟩
            have HO5 := Lib.hid h5
            have HSA5 : Hid (Src w5 ba aa ca A) := HSA3.out.kept hk5 (fun h e => e (HXA.out h))
            clear h5 hk5
            go_wp2_with fail
            refine (read_tear HT.out HO5.out).mono ?_
            rintro x w6 ⟨b6, a6, c6, rfl, h6, hk6⟩
            have HZ6 := Lib.hid h6
            obtain ⟨hmc, hst⟩ := src_cap (HSA5.out.kept hk6 (fun _ h => h)) (m := m) (by rw [HAN'.out]; exact hhi)
            have HSA6 := Lib.hid hst
            have hlen : ((A : List Nat).take m).length = m := by rw [List.length_take, HAN'.out]; omega
            clear h6 hk6 hst
            have hmlen := HAN'.out
            have hcmp := KBytes_any b6 a6 c6 ((A : List Nat).take m) ba aa ca ((A : List Nat).take m) w6 HZ6.out.sA HSA6.out (by rw [hlen]; have := HZ.out.lens.1; have := HAN.out; omega) (by rw [hlen]; have := HZ.out.lens.1; have := HAN.out; omega)
            rw [hlen] at hcmp
            clear hmlen
            go_wp2_with fail
            refine hcmp.mono ?_
            clear hcmp
            rintro x w7 ⟨rfl, n7, rfl⟩
            rw [same_refl]
            obtain ⟨w7, hW⟩ : ∃ W, W = w6.drewN n7 := ⟨_, rfl⟩
            rw [← hW]
            have HZ7 := Lib.hid (HZ6.out.same (w' := w7) (by rw [hW]; exact (Kept.refl _ _).drewN n7))
            have HLEN := Lib.hid hlen
            clear hW hlen
            go_wp2
            go_roundw
            case rel => exact ⟨k + 1, b6, c6, m, b6, c6, m, a6, a6, _, _, _, by omega, by omega, by go_num, rfl, rfl, HLEN.out, HLEN.out, HZ7.out⟩
            case measure => simp [intOf]; omega
          · have hsy := Replace_own w w2 _ d st HO2.out tb ta tc t (HTT.out.kept HO2.out.kept (fun _ h => h)) (fun h => .inl (HTB.out h)) H8.out (by omega)
            rw [St.replace_ok HOFF.out hr harm] at hsy
            clear harm hr
            go_wp2_with fail
            refine hsy.mono ?_
            clear hsy
            rintro x w3 ⟨rfl, h3, hk3⟩
            have hbx3 : w3.heap[P]? = some (.cells #[.int .i64 D, .int .i64 N, .int .i64 K, .slice ta t.length tc] 35 (0, 0)) := hk3.heap HBX.out (fun e => e HXP.out)
            have g3 := cell_heap hbx3 3
            simp only [List.getElem?_toArray, List.getElem?_cons_zero, List.getElem?_cons_succ] at g3
            rw [HPE.out] at g3
            have hst := HTT.out.kept h3.kept (fun _ h => h)
            have ho : Own w w3 (LX tb t tb t) d (st.with_ t t.length).less := h3.old (fun y hy => .inr (by rcases hy with hy | hy <;> (rw [hy.2]; exact HTB.out hy.1)))
            have hz3 : Lz w w3 d tb ta tc t tb ta tc t (st.with_ t t.length).less := ⟨ho, HZ.out.room, rfl, HOFF.out, by show t = t.take t.length; rw [List.take_length], hst, hst⟩
            have HZ0 := Lib.hid hz3
            clear h3 hk3 hbx3 hst ho hz3
            go_wp2
            go_quiet (fail)
            obtain ⟨w4, hW⟩ : ∃ W, W = w3.drewN nq := ⟨_, rfl⟩
            rw [← hW]
            have HZ3 := Lib.hid (HZ0.out.same (w' := w4) (by rw [hW]; exact (Kept.refl _ _).drewN nq))
            clear hW g3
            go_wp2_with fail
            refine (Off_own w w4 _ d _ HZ3.out.disk).mono ?_
            rintro x w4 ⟨rfl, rfl⟩
            rw [HZ3.out.off]
            go_wp2
            go_roundw
            case rel => exact ⟨k + 1, tb, tc, t.length, tb, tc, t.length, ta, ta, t, t, _, by omega, by omega, by go_num, rfl, rfl, rfl, rfl, HZ3.out⟩
            case measure => simp [intOf]; omega
        · have hsy := Trip_own w w2 _ d st HO2.out N K hN1 hN2 hK1 hK2
          rw [trip_on HOFF.out] at hsy
          go_wp2_with fail
          refine hsy.mono ?_
          clear hsy
          rintro x w3 ⟨rfl, h3, hk3⟩
          have HZ3 : Hid (Lz w w3 d bs as_ cs S ba aa ca A ⟨st.room, st.file, st.safe, st.off, N.toNat, K⟩) := ⟨h3.drop (fun y hy => by rcases hy with hy | hy; (rw [hy.2]; exact HXS.out hy.1); (rw [hy.2]; exact HXA.out hy.1)), HZ.out.room, HZ.out.file, HOFF.out, HZ.out.safe, HS2.out.kept hk3 (fun h e => e (HXS.out h)), HA2.out.kept hk3 (fun h e => e (HXA.out h))⟩
          clear h3 hk3
          go_wp2_with fail
          refine (Off_own w w3 _ d _ HZ3.out.disk).mono ?_
          rintro x w4 ⟨rfl, rfl⟩
          rw [HZ3.out.off]
          go_wp2
          go_roundw
          case rel => exact ⟨k + 1, bs, cs, sn, ba, ca, an, as_, aa, S, A, _, by omega, by omega, by go_num, rfl, rfl, HSN.out, HAN.out, HZ3.out⟩
          case measure => simp [intOf]; omega
        · obtain ⟨m, hm⟩ : ∃ m, m = st.left K := ⟨_, rfl⟩
          have HT : Hid (Tear S A m (st.gone K)) := by rw [hm]; exact HZ.out.tear K
          have hsy := Crash_own w w2 _ d st HO2.out K hK1 hK2
          rw [crash_on HOFF.out] at hsy
          clear hm
          generalize st.gone K = st3 at *
          go_wp2_with fail
          refine hsy.mono ?_
          clear hsy
          rintro x w3 ⟨rfl, h3, hk3⟩
          have HO3 := Lib.hid h3
          have HSA3 : Hid (Src w3 ba aa ca A) := HA2.out.kept hk3 (fun h e => e (HXA.out h))
          clear h3 hk3
          have hlo : sn ≤ m := by rw [← HSN.out]; exact HT.out.lo
          have hhi : m ≤ an := by rw [← HAN'.out]; exact HT.out.hi
          have f1 : decide ((m : Int) < (sn : Int)) = false := decide_eq_false (by omega)
          have f1' : decide (m < sn) = false := decide_eq_false (by omega)
          have f2 : decide ((an : Int) < (m : Int)) = false := decide_eq_false (by omega)
          have f2' : decide (an < m) = false := decide_eq_false (by omega)
          go_wp2_with fail
          refine (Off_own w w3 _ d _ HO3.out).mono ?_
          rintro x w4 ⟨rfl, rfl⟩
          rw [HT.out.off]
          go_wp2_with fail
          refine (Start_own w w3 _ d _ HO3.out).mono ?_
          rintro x w5 ⟨rfl, h5, hk5⟩
          have HO5 := Lib.hid h5
          have HSA5 : Hid (Src w5 ba aa ca A) := HSA3.out.kept hk5 (fun h e => e (HXA.out h))
          clear h5 hk5
          go_wp2_with fail
          refine (read_tear HT.out HO5.out).mono ?_
          rintro x w6 ⟨b6, a6, c6, rfl, h6, hk6⟩
          have HZ6 := Lib.hid h6
          obtain ⟨hmc, hst⟩ := src_cap (HSA5.out.kept hk6 (fun _ h => h)) (m := m) (by rw [HAN'.out]; exact hhi)
          have HSA6 := Lib.hid hst
          have hlen : ((A : List Nat).take m).length = m := by rw [List.length_take, HAN'.out]; omega
          clear h6 hk6 hst
          have hmlen := HAN'.out
          have hcmp := KBytes_any b6 a6 c6 ((A : List Nat).take m) ba aa ca ((A : List Nat).take m) w6 HZ6.out.sA HSA6.out (by rw [hlen]; have := HZ.out.lens.1; have := HAN.out; omega) (by rw [hlen]; have := HZ.out.lens.1; have := HAN.out; omega)
          rw [hlen] at hcmp
          clear hmlen
          go_wp2_with fail
          refine hcmp.mono ?_
          clear hcmp
          rintro x w7 ⟨rfl, n7, rfl⟩
          rw [same_refl]
          obtain ⟨w7, hW⟩ : ∃ W, W = w6.drewN n7 := ⟨_, rfl⟩
          rw [← hW]
          have HZ7 := Lib.hid (HZ6.out.same (w' := w7) (by rw [hW]; exact (Kept.refl _ _).drewN n7))
          have HLEN := Lib.hid hlen
          clear hW hlen
          go_wp2
          go_roundw
          case rel => exact ⟨k + 1, b6, c6, m, b6, c6, m, a6, a6, _, _, _, by omega, by omega, by go_num, rfl, rfl, HLEN.out, HLEN.out, HZ7.out⟩
          case measure => simp [intOf]; omega
        · go_wp2_with fail
          refine (Start_own w w2 _ d st HO2.out).mono ?_
          rintro x w3 ⟨rfl, h3, hk3⟩
          have HZ3 : Hid (Lz w w3 d bs as_ cs S ba aa ca A st.start) := ⟨h3.drop (fun y hy => by rcases hy with hy | hy; (rw [hy.2]; exact HXS.out hy.1); (rw [hy.2]; exact HXA.out hy.1)), HZ.out.room, HZ.out.file, rfl, HZ.out.safe, HS2.out.kept hk3 (fun h e => e (HXS.out h)), HA2.out.kept hk3 (fun h e => e (HXA.out h))⟩
          clear h3 hk3
          go_wp2_with fail
          refine (Off_own w w3 _ d _ HZ3.out.disk).mono ?_
          rintro x w4 ⟨rfl, rfl⟩
          rw [HZ3.out.off]
          go_wp2
          go_roundw
          case rel => exact ⟨k + 1, bs, cs, sn, ba, ca, an, as_, aa, S, A, _, by omega, by omega, by go_num, rfl, rfl, HSN.out, HAN.out, HZ3.out⟩
          case measure => simp [intOf]; omega
        · by_cases hfull : A.length + t.length ≤ 65536
          · have hfl : st.file.length + t.length ≤ st.room := by rw [HZ.out.file, HZ.out.room]; exact hfull
            by_cases harm : st.armed = 1
            · obtain ⟨m, hm⟩ : ∃ m, m = (st.with_ (st.file ++ t) st.safe).left st.keep := ⟨_, rfl⟩
              have HT : Hid (Tear S (A ++ t) m ((st.with_ (st.file ++ t) st.safe).gone st.keep)) := by rw [hm]; exact HZ.out.tear_app t H8.out hfull st.keep
              have hsy := Append_own w w2 _ d st HO2.out tb ta tc t (HTT.out.kept HO2.out.kept (fun _ h => h)) (fun h => .inl (HTB.out h)) H8.out (by omega)
              rw [St.append_last HOFF.out hfl harm] at hsy
              clear hm harm hfl
              generalize (st.with_ (st.file ++ t) st.safe).gone st.keep = st3 at *
              go_wp2_with fail
              refine hsy.mono ?_
              clear hsy
              rintro x w3 ⟨rfl, h3, hk3⟩
              have HO3 := Lib.hid h3
              clear h3
              have hbx3 : w3.heap[P]? = some (.cells #[.int .i64 D, .int .i64 N, .int .i64 K, .slice ta t.length tc] 35 (0, 0)) := hk3.heap HBX.out (fun e => e HXP.out)
              have HBX3 := Lib.hid hbx3
              have g3 := cell_heap hbx3 3
              simp only [List.getElem?_toArray, List.getElem?_cons_zero, List.getElem?_cons_succ] at g3
              rw [HPE.out] at g3
              have HSA3 : Hid (Src w3 ba aa ca A) := HA2.out.kept hk3 (fun h e => e (HXA.out h))
              have HSS3 : Hid (Src w3 bs as_ cs S) := HS2.out.kept hk3 (fun h e => e (HXS.out h))
              have htw : ∀ v : World, v.heap = w3.heap → Calls Try.prog 25 #[.slice aa an ca] v (NewB A v) := fun v hv => by
                have := Twin_any ba aa ca A v (HSA3.out.heap hv) (by have := HZ.out.lens.1; omega)
                rw [HAN.out] at this
                exact this
              have HTW := Lib.hid htw
              have hAl : A.length ≤ 65536 := HZ.out.lens.1
              have HT3 : Hid (Src w3 tb ta tc t) := HTT.out.kept HO3.out.kept (fun _ h => h)
              clear hk3 hbx3 htw
              go_wp2
              go_region_law ((first
                | (go_simp; go_at_call 25; refine Calls.mono (HTW.out _ (by exact rfl)) ?_; rintro x w4 ⟨b4, a4, c4, rfl, ho4, hb4, hk4, _⟩; have HO4 := Lib.hid ho4; have hk4' : Kept None w3 w4 := hk4.heap2 rfl rfl rfl rfl; have HK4 := Lib.hid hk4'; have hb4' : w3.heap.size ≤ b4 := hb4; have g4 := cell_heap (hk4'.heap HBX3.out (fun h => h)) 3; simp only [List.getElem?_toArray, List.getElem?_cons_zero, List.getElem?_cons_succ] at g4; rw [HPE.out] at g4; clear ho4 hb4 hk4 hk4')
                | (refine step_append_bytes_g (by first | rfl | simp [Region.wanted, yielded]) (.tmp 60) (.tmp 62) 30 rfl 5 i0 Try.underlying30 hi hz0 hz1 hz2 b4 a4 c4 A A.length (by simp [Act.eval]) (HO4.out.heap rfl) rfl tb ta tc t t.length (by simp [Act.eval]) ((HT3.out.kept HK4.out (fun _ h => h)).heap rfl) rfl (by omega) ?_; intro b5 a5 c5 w5 h2 h3' h4; have HO5 : Hid (OwnB 5 w5 b5 a5 c5 (A ++ t)) := h2; have HK5 : Hid (Kept None w3 w5) := HK4.out.trans' (h3'.heap2 (v := w4) rfl rfl rfl rfl) (fun y hy => .inr (by rw [hy.2]; exact hb4')); have hb5 : w3.heap.size ≤ b5 := (by have h0 := HK4.out.size; have h1 : b5 = b4 ∨ w4.heap.size ≤ b5 := h4.imp (fun h => h.1) (fun h => h); omega); clear h2 h3' h4)))
              all_goals
                obtain ⟨Y, hY⟩ : ∃ Y : Nat → Prop, Y = fun y => X y ∨ (A ++ t ≠ [] ∧ y = b5) := ⟨_, rfl⟩
                have HOY : Hid (Own w w5 Y d st3) := by
                  rw [hY]
                  exact HO3.out.on HK5.out (fun _ h => h.elim) _ (fun y hy => by
                    rcases hy with hy | hy
                    · obtain ⟨_, _, _, hx, _⟩ := HO3.out
                      exact ⟨.inl hy, Nat.lt_of_lt_of_le (hx y hy) HK5.out.size⟩
                    · rw [hy.2]; exact ⟨.inr hb5, HO5.out.src.lt hy.1⟩)
                have HSA5 : Hid (Src w5 b5 a5 c5 (A ++ t)) := HO5.out.src
                have HSS5 : Hid (Src w5 bs as_ cs S) := HSS3.out.kept HK5.out (fun _ h => h)
                have HXY : Hid (A ++ t ≠ [] → Y b5) := fun h => by rw [hY]; exact .inr ⟨h, rfl⟩
                have HXYS : Hid (S ≠ [] → Y bs) := fun h => by rw [hY]; exact .inl (HXS.out h)
                have HANN : Hid ((A ++ t).length = A.length + t.length) := List.length_append
                clear hY
                have hlo : sn ≤ m := by rw [← HSN.out]; exact HT.out.lo
                have hhi : m ≤ (A.length + t.length) := by rw [← HANN.out]; exact HT.out.hi
                have f1 : decide ((m : Int) < (sn : Int)) = false := decide_eq_false (by omega)
                have f1' : decide (m < sn) = false := decide_eq_false (by omega)
                have f2 : decide (((A.length + t.length) : Int) < (m : Int)) = false := decide_eq_false (by omega)
                have f2' : decide ((A.length + t.length) < m) = false := decide_eq_false (by omega)
                go_wp2_with fail
                refine (Off_own w w5 _ d _ HOY.out).mono ?_
                rintro x w4 ⟨rfl, rfl⟩
                rw [HT.out.off]
                go_wp2_with fail
                refine (Start_own w w5 _ d _ HOY.out).mono ?_
                rintro x w8 ⟨rfl, h5, hk5⟩
                have HO8 := Lib.hid h5
                have HSA8 : Hid (Src w8 b5 a5 c5 (A ++ t)) := HSA5.out.kept hk5 (fun h e => e (HXY.out h))
                clear h5 hk5
                go_wp2_with fail
                refine (read_tear HT.out HO8.out).mono ?_
                rintro x w6 ⟨b6, a6, c6, rfl, h6, hk6⟩
                have HZ6 := Lib.hid h6
                obtain ⟨hmc, hst⟩ := src_cap (HSA8.out.kept hk6 (fun _ h => h)) (m := m) (by rw [HANN.out]; exact hhi)
                have HSA6 := Lib.hid hst
                have hlen : ((A ++ t).take m).length = m := by rw [List.length_take, HANN.out]; omega
                clear h6 hk6 hst
                have hmlen := HANN.out
                have hcmp := KBytes_any b6 a6 c6 ((A ++ t).take m) b5 a5 c5 ((A ++ t).take m) w6 HZ6.out.sA HSA6.out (by rw [hlen]; omega) (by rw [hlen]; omega)
                rw [hlen] at hcmp
                clear hmlen
                go_wp2_with fail
                refine hcmp.mono ?_
                clear hcmp
                rintro x w7 ⟨rfl, n7, rfl⟩
                rw [same_refl]
                obtain ⟨w7, hW⟩ : ∃ W, W = w6.drewN n7 := ⟨_, rfl⟩
                rw [← hW]
                have HZ7 := Lib.hid (HZ6.out.same (w' := w7) (by rw [hW]; exact (Kept.refl _ _).drewN n7))
                have HLEN := Lib.hid hlen
                clear hW hlen
                go_wp2
                go_roundw
                case rel => exact ⟨k + 1, b6, c6, m, b6, c6, m, a6, a6, _, _, _, by omega, by omega, by go_num, rfl, rfl, HLEN.out, HLEN.out, HZ7.out⟩
                case measure => simp [intOf]; omega
            · have hsy := Append_own w w2 _ d st HO2.out tb ta tc t (HTT.out.kept HO2.out.kept (fun _ h => h)) (fun h => .inl (HTB.out h)) H8.out (by omega)
              rw [St.append_ok HOFF.out hfl harm] at hsy
              clear harm hfl
              obtain ⟨st3, hst3⟩ : ∃ s, s = (st.with_ (st.file ++ t) st.safe).less := ⟨_, rfl⟩
              rw [← hst3] at hsy
              have HST3 := Lib.hid hst3
              clear hst3
              go_wp2_with fail
              refine hsy.mono ?_
              clear hsy
              rintro x w3 ⟨rfl, h3, hk3⟩
              have HO3 := Lib.hid h3
              clear h3
              have hbx3 : w3.heap[P]? = some (.cells #[.int .i64 D, .int .i64 N, .int .i64 K, .slice ta t.length tc] 35 (0, 0)) := hk3.heap HBX.out (fun e => e HXP.out)
              have HBX3 := Lib.hid hbx3
              have g3 := cell_heap hbx3 3
              simp only [List.getElem?_toArray, List.getElem?_cons_zero, List.getElem?_cons_succ] at g3
              rw [HPE.out] at g3
              have HSA3 : Hid (Src w3 ba aa ca A) := HA2.out.kept hk3 (fun h e => e (HXA.out h))
              have HSS3 : Hid (Src w3 bs as_ cs S) := HS2.out.kept hk3 (fun h e => e (HXS.out h))
              have htw : ∀ v : World, v.heap = w3.heap → Calls Try.prog 25 #[.slice aa an ca] v (NewB A v) := fun v hv => by
                have := Twin_any ba aa ca A v (HSA3.out.heap hv) (by have := HZ.out.lens.1; omega)
                rw [HAN.out] at this
                exact this
              have HTW := Lib.hid htw
              have hAl : A.length ≤ 65536 := HZ.out.lens.1
              have HT3 : Hid (Src w3 tb ta tc t) := HTT.out.kept HO3.out.kept (fun _ h => h)
              clear hk3 hbx3 htw
              go_wp2
              go_region_law ((first
                | (go_simp; go_at_call 25; refine Calls.mono (HTW.out _ (by exact rfl)) ?_; rintro x w4 ⟨b4, a4, c4, rfl, ho4, hb4, hk4, _⟩; have HO4 := Lib.hid ho4; have hk4' : Kept None w3 w4 := hk4.heap2 rfl rfl rfl rfl; have HK4 := Lib.hid hk4'; have hb4' : w3.heap.size ≤ b4 := hb4; have g4 := cell_heap (hk4'.heap HBX3.out (fun h => h)) 3; simp only [List.getElem?_toArray, List.getElem?_cons_zero, List.getElem?_cons_succ] at g4; rw [HPE.out] at g4; clear ho4 hb4 hk4 hk4')
                | (refine step_append_bytes_g (by first | rfl | simp [Region.wanted, yielded]) (.tmp 60) (.tmp 62) 30 rfl 5 i0 Try.underlying30 hi hz0 hz1 hz2 b4 a4 c4 A A.length (by simp [Act.eval]) (HO4.out.heap rfl) rfl tb ta tc t t.length (by simp [Act.eval]) ((HT3.out.kept HK4.out (fun _ h => h)).heap rfl) rfl (by omega) ?_; intro b5 a5 c5 w5 h2 h3' h4; have HO5 : Hid (OwnB 5 w5 b5 a5 c5 (A ++ t)) := h2; have HK5 : Hid (Kept None w3 w5) := HK4.out.trans' (h3'.heap2 (v := w4) rfl rfl rfl rfl) (fun y hy => .inr (by rw [hy.2]; exact hb4')); have hb5 : w3.heap.size ≤ b5 := (by have h0 := HK4.out.size; have h1 : b5 = b4 ∨ w4.heap.size ≤ b5 := h4.imp (fun h => h.1) (fun h => h); omega); clear h2 h3' h4)))
              all_goals
                obtain ⟨Y, hY⟩ : ∃ Y : Nat → Prop, Y = fun y => X y ∨ (A ++ t ≠ [] ∧ y = b5) := ⟨_, rfl⟩
                have HOY : Hid (Own w w5 Y d st3) := by
                  rw [hY]
                  exact HO3.out.on HK5.out (fun _ h => h.elim) _ (fun y hy => by
                    rcases hy with hy | hy
                    · obtain ⟨_, _, _, hx, _⟩ := HO3.out
                      exact ⟨.inl hy, Nat.lt_of_lt_of_le (hx y hy) HK5.out.size⟩
                    · rw [hy.2]; exact ⟨.inr hb5, HO5.out.src.lt hy.1⟩)
                have HSA5 : Hid (Src w5 b5 a5 c5 (A ++ t)) := HO5.out.src
                have HSS5 : Hid (Src w5 bs as_ cs S) := HSS3.out.kept HK5.out (fun _ h => h)
                have HXY : Hid (A ++ t ≠ [] → Y b5) := fun h => by rw [hY]; exact .inr ⟨h, rfl⟩
                have HXYS : Hid (S ≠ [] → Y bs) := fun h => by rw [hY]; exact .inl (HXS.out h)
                have HANN : Hid ((A ++ t).length = A.length + t.length) := List.length_append
                clear hY
                have HZ3 : Hid (Lz w w5 d bs as_ cs S b5 a5 c5 (A ++ t) st3) := by
                  refine ⟨HOY.out.drop (fun y hy => by rcases hy with hy | hy; (rw [hy.2]; exact HXYS.out hy.1); (rw [hy.2]; exact HXY.out hy.1)), by rw [HST3.out]; exact HZ.out.room, ?_, by rw [HST3.out]; exact HOFF.out, ?_, HSS5.out, HSA5.out⟩
                  · rw [HST3.out]; show st.file ++ t = _; rw [HZ.out.file]
                  · rw [HST3.out]
                    show S = (A ++ t).take st.safe
                    have := HZ.out.lens
                    rw [List.take_append_of_le_length (by omega)]
                    exact HZ.out.safe
                go_wp2_with fail
                refine (Off_own w w5 _ d _ HZ3.out.disk).mono ?_
                rintro x w4 ⟨rfl, rfl⟩
                rw [HZ3.out.off]
                go_wp2
                go_roundw
                case rel => exact ⟨k + 1, bs, cs, sn, b5, c5, (A.length + t.length), as_, a5, S, (A ++ t), _, by omega, by omega, by go_num, rfl, rfl, HSN.out, HANN.out, HZ3.out⟩
                case measure => simp [intOf]; omega
          · have hsy := Append_own w w2 _ d st HO2.out tb ta tc t (HTT.out.kept HO2.out.kept (fun _ h => h)) (fun h => .inl (HTB.out h)) H8.out (by omega)
            rw [St.append_full HOFF.out (by rw [HZ.out.file, HZ.out.room]; omega)] at hsy
            go_wp2_with fail
            refine hsy.mono ?_
            clear hsy
            rintro x w3 ⟨rfl, h3, hk3⟩
            have HZ3 : Hid (Lz w w3 d bs as_ cs S ba aa ca A st) := ⟨h3.drop (fun y hy => by rcases hy with hy | hy; (rw [hy.2]; exact HXS.out hy.1); (rw [hy.2]; exact HXA.out hy.1)), HZ.out.room, HZ.out.file, HOFF.out, HZ.out.safe, HS2.out.kept hk3 (fun h e => e (HXS.out h)), HA2.out.kept hk3 (fun h e => e (HXA.out h))⟩
            clear h3 hk3
            go_wp2_with fail
            refine (Off_own w w3 _ d _ HZ3.out.disk).mono ?_
            rintro x w4 ⟨rfl, rfl⟩
            rw [HZ3.out.off]
            go_wp2
            go_roundw
            case rel => exact ⟨k + 1, bs, cs, sn, ba, ca, an, as_, aa, S, A, _, by omega, by omega, by go_num, rfl, rfl, HSN.out, HAN.out, HZ3.out⟩
            case measure => simp [intOf]; omega
      · have hstop : (decide ((k : Int) < (L.length : Int)) = false ∧ decide (k < L.length) = false) ∨ (decide ((k : Int) < (L.length : Int)) = true ∧ decide (k < L.length) = true ∧ decide ((k : Int) < 300) = false ∧ decide (k < 300) = false) := by
          by_cases h1 : k < L.length
          · exact .inr ⟨decide_eq_true (by omega), decide_eq_true h1, decide_eq_false (by omega), decide_eq_false (by omega)⟩
          · exact .inl ⟨decide_eq_false (by omega), decide_eq_false h1⟩
        clear hlt
        have HK := Lib.hid hw.out.2.2.disk.kept
        clear hw
        rcases hstop with ⟨e1, e2⟩ | ⟨e1, e2, e3, e4⟩
        all_goals
          go_wp2_with fail
          refine (wakes_any _).mono ?_
          rintro x w12 ⟨rfl, hk12⟩
          have HKE := Lib.hid (HK.out.trans hk12)
          clear hk12
          go_wp2
          go_ret
          exact ⟨rfl, HKE.out⟩
end Go.Proofs.Ytaogpchjkbcjoaa.Dk
