/- FrameExact's walk. -/
import Derived.Test.YtfbibmdjahfneaaDoorEnds3
namespace Go.Proofs.YtfbibmdjahfneaaDoor.Fr
open Go Go.RowKit Mem Kp
/- the frame that bytes begin with, in parts: zero where there is none -/
def fx (l : List Nat) : List Nat := match firstB l with | none => [] | some (p, _) => p
def fn (l : List Nat) : Nat := match firstB l with | none => 0 | some (_, n) => n
def fo (l : List Nat) : Bool := match firstB l with | none => false | some _ => true
def fe (l : List Nat) : Int := match firstB l with | none => 3 | some _ => 0
theorem find_all {l : List Nat} {w w' : World} {x : Ending} (h : FindPost l w x w') : ∃ b a cap, x = .returned (.tuple #[.slice a (fx l).length cap, .int .i64 (fn l), .int .i64 (fe l)]) ∧ OwnB 5 w' b a cap (fx l) ∧ w.heap.size ≤ b ∧ b ≤ w'.heap.size ∧ Kept None w w' := by
  unfold FindPost at h
  unfold fx fn fe
  cases hf : firstB l with
  | none =>
    rw [hf] at h
    exact ⟨w'.heap.size, none, 0, h.1, OwnB.nil _ _ _, h.2.size, Nat.le_refl _, h.2⟩
  | some pm => rw [hf] at h; exact h
theorem first_all {l : List Nat} {w w' : World} {x : Ending} (h : FirstPost l w x w') : ∃ b a cap, x = .returned (.tuple #[.slice a (fx l).length cap, .int .i64 (fn l), .bool (fo l)]) ∧ OwnB 5 w' b a cap (fx l) ∧ w.heap.size ≤ b ∧ b ≤ w'.heap.size ∧ Kept None w w' := by
  unfold FirstPost at h
  unfold fx fn fo
  cases hf : firstB l with
  | none =>
    rw [hf] at h
    exact ⟨w'.heap.size, none, 0, h.1, OwnB.nil _ _ _, h.2.size, Nat.le_refl _, h.2⟩
  | some pm => rw [hf] at h; exact h
theorem fo_fe (l : List Nat) : fe l = if fo l = true then 0 else 3 := by
  unfold fe fo; cases firstB l <;> rfl
theorem fx_len {l : List Nat} (h8 : B8 l) : (fx l).length ≤ 16384 := by
  unfold fx
  cases hf : firstB l with
  | none => simp
  | some pm => exact (first_sound h8 hf).2.1
theorem fn_le {l : List Nat} (h8 : B8 l) : fn l ≤ 16393 := by
  unfold fn
  cases hf : firstB l with
  | none => simp
  | some pm =>
    have := first_sound (p := pm.1) (n := pm.2) h8 hf
    show pm.2 ≤ _; omega
theorem scanN_fit : ∀ f b, B8 b → Fit (scanN f b).1 ∧ (scanN f b).1.length ≤ b.length ∧ (scanN f b).2 ≤ b.length := by
  intro f
  induction f with
  | zero => intro b _; exact ⟨fun _ h => (List.not_mem_nil h).elim, by simp [scanN], by simp [scanN]⟩
  | succ f ih =>
    intro b h8
    cases hf : firstB b with
    | none => unfold scanN; rw [hf]; exact ⟨fun _ h => (List.not_mem_nil h).elim, by simp, by simp⟩
    | some pm =>
      obtain ⟨p, n⟩ := pm
      obtain ⟨e1, e2, e3, e4⟩ := first_sound h8 hf
      have hl := congrArg List.length e3
      rw [List.length_append, seal_len] at hl
      obtain ⟨i1, i2, i3⟩ := ih (b.drop n) (h8.drop n)
      unfold scanN; rw [hf]
      refine ⟨fun q hq => ?_, ?_, ?_⟩
      · rcases List.mem_cons.1 hq with rfl | hq
        · exact ⟨e4, e2⟩
        · exact i1 q hq
      · show _ + 1 ≤ _; omega
      · show n + _ ≤ _; omega
theorem scan_fit {b : List Nat} (h8 : B8 b) : Fit (scanB b).1 ∧ (scanB b).1.length ≤ b.length ∧ (scanB b).2 ≤ b.length := scanN_fit _ _ h8
theorem same_int (n : Nat) : ((n : Int) != (n : Int)) = false := by simp
theorem same_int' (n : Nat) : ((n : Int) == (n : Int)) = true := by simp
/-- where the spoiling of the rows stands -/
def Rest (w w0 : World) (b1 : Nat) (a1 : Option Addr) (c1 : Nat) (p : List Nat) (b2 : Nat) (a2 : Option Addr) (c2 : Nat) (l : List Nat) (b : Nat) (a : Option Addr) (cap : Nat) (R : List Row) (k : Nat) (wr : World) : Prop :=
  OwnV 22 wr b a cap (R.map Row.val) ∧ (∀ j (h : j < R.length), k ≤ j → OwnB 5 wr R[j].b R[j].a R[j].cap R[j].l) ∧ OwnB 5 wr b1 a1 c1 p ∧ OwnB 5 wr b2 a2 c2 l ∧ Kept None w wr ∧
    (∀ r ∈ R, w0.heap.size ≤ r.b ∧ (r.a ≠ none → a ≠ none → r.b ≠ b)) ∧ Apart R ∧ w.heap.size ≤ w0.heap.size ∧ (a1 ≠ none → b1 < w0.heap.size) ∧ (a2 ≠ none → b2 < w0.heap.size)
theorem Rest.at_ {w w0 : World} {b1 : Nat} {a1 : Option Addr} {c1 : Nat} {p : List Nat} {b2 : Nat} {a2 : Option Addr} {c2 : Nat} {l : List Nat} {b : Nat} {a : Option Addr} {cap : Nat} {R : List Row} {k : Nat} {wr : World} (h : Rest w w0 b1 a1 c1 p b2 a2 c2 l b a cap R k wr) (hk : k < R.length) (hS : Short R) :
    ∃ off br ar cr L, a = some ⟨b, off, none⟩ ∧ wr.cell? ⟨b, off + k, none⟩ = some (.slice ar (L : List Nat).length cr) ∧ OwnB 5 wr br ar cr L ∧ L.length ≤ 35184372088832 ∧ ∀ x w', Spoilt br ar cr L.length wr x w' → x = .returned (.tuple #[]) ∧ Rest w w0 b1 a1 c1 p b2 a2 c2 l b a cap R (k + 1) w' := by
  obtain ⟨h1, h2, h3, h4, h5, h6, h7, h8, h9, h10⟩ := h
  obtain ⟨ha, hc⟩ := h1.cellAt k (by rw [List.length_map]; exact hk)
  have ho := h2 k hk (Nat.le_refl _)
  have hm := h6 _ (List.getElem_mem hk)
  refine ⟨0, R[k].b, R[k].a, R[k].cap, R[k].l, ha, ?_, ho, hS _ (List.getElem_mem hk), fun x w' ⟨hx, l', _, _, hkk⟩ => ⟨hx, ?_⟩⟩
  · rw [Nat.zero_add, hc]
    simp [hk, Row.val]
  · have hsz := h5.size
    refine ⟨h1.kept hkk (fun hn e => hm.2 e.1 hn e.2.symm), fun j hj hkj => (h2 j hj (by omega)).kept hkk (fun hn e => ?_), h3.kept hkk (fun hn e => ?_), h4.kept hkk (fun hn e => ?_), h5.trans' hkk (fun y hy => .inr (by rw [hy.2]; have := hm.1; omega)), h6, h7, h8, h9, h10⟩
    · exact List.pairwise_iff_getElem.1 h7 k j hk hj (by omega) e.1 hn e.2.symm
    · have := h9 hn; have := hm.1; have := e.2; omega
    · have := h10 hn; have := hm.1; have := e.2; omega
set_option maxHeartbeats 16000000 in
theorem FrameExact_any (bp : Nat) (ap : Option Addr) (cp : Nat) (p : List Nat) (bl : Nat) (al : Option Addr) (cl : Nat) (l : List Nat) (w : World) (hs : Src w bp ap cp p) (h8 : B8 p) (hs2 : Src w bl al cl l) (h82 : B8 l) (hpl : p.length ≤ 9223372036854775807) (hml : l.length ≤ 9223372036854775807) (hT : Tab w) :
    Calls Tryd.prog 3 #[.slice ap p.length cp, .slice al l.length cl] w fun e w' => e = .returned (.bool true) ∧ Kept None w w' := by
  have HT := Lib.hid hT
  clear hT
  obtain ⟨i0, hi, hz0, hz1, hz2⟩ := info_parts infoU8
  have HS := Lib.hid hs
  have H8 := Lib.hid h8
  have HS2 := Lib.hid hs2
  have H82 := Lib.hid h82
  clear hs h8 hs2 h82
  by_cases hbig : 65536 < p.length
  · have d1 : decide (65536 < p.length) = true := by simpa using hbig
    have d1' : decide ((65536 : Int) < (p.length : Int)) = true := by simp; omega
    go_enter Tryd.func3, Tryd.ntmps3
    go_wp2
    go_ret
    exact ⟨rfl, Kept.refl _ _⟩
  · have d1 : decide (65536 < p.length) = false := by simpa using hbig
    have d1' : decide ((65536 : Int) < (p.length : Int)) = false := by simp; omega
    by_cases hbig2 : 65536 < l.length
    · have d2 : decide (65536 < l.length) = true := by simpa using hbig2
      have d2' : decide ((65536 : Int) < (l.length : Int)) = true := by simp; omega
      go_enter Tryd.func3, Tryd.ntmps3
      go_wp2
      go_ret
      exact ⟨rfl, Kept.refl _ _⟩
    · have d2 : decide (65536 < l.length) = false := by simpa using hbig2
      have d2' : decide ((65536 : Int) < (l.length : Int)) = false := by simp; omega
      have hp : p.length ≤ 65536 := by omega
      have hl : l.length ≤ 65536 := by omega
      clear hbig hbig2
      go_enter Tryd.func3, Tryd.ntmps3
      go_wp2_with fail
      refine (Twin_any bp ap cp p w HS.out (by omega)).mono ?_
      rintro x w1 ⟨b1, a1, c1, rfl, ho1, hb1, hk1, hb12⟩
      have HO1 := Lib.hid ho1
      have HK1 := Lib.hid hk1
      clear ho1 hk1
      go_wp2_with fail
      refine (Twin_any bl al cl l w1 (HS2.out.kept HK1.out (fun _ h => h)) (by omega)).mono ?_
      rintro x w2 ⟨b2, a2, c2, rfl, ho2, hb2, hk2, hb22⟩
      have HI2 : Hid (OwnB 5 w2 b1 a1 c1 p) := HO1.out.kept hk2 (fun _ h => h)
      have HO2 := Lib.hid ho2
      have HK2 := Lib.hid (HK1.out.trans hk2)
      clear ho2 hk2
      go_wp2_with fail
      have hseal := Seal_any b1 a1 c1 p w2 HI2.out.src H8.out
      by_cases hlong : 16384 < p.length
      case' pos =>
        have e1 : decide (16384 < p.length) = true := by simpa using hlong
        have e1' : decide ((16384 : Int) < (p.length : Int)) = true := by simp; omega
        rw [sealPost_long (by omega)] at hseal
        refine hseal.mono ?_
        clear hseal hlong
        rintro x W ⟨rfl, hk3⟩
        have HIN : Hid (OwnB 5 W b1 a1 c1 p) := HI2.out.kept hk3 (fun _ h => h)
        have HBY : Hid (OwnB 5 W b2 a2 c2 l) := HO2.out.kept hk3 (fun _ h => h)
        have HK := Lib.hid (HK2.out.trans hk3)
        clear hk3
        go_wp2_with fail
        clear e1 e1'
      case' neg =>
        have e1 : decide (16384 < p.length) = false := by simpa using hlong
        have e1' : decide ((16384 : Int) < (p.length : Int)) = false := by simp; omega
        have HSL : Hid ((sealB p).length = p.length + 9) := seal_len p
        rw [sealPost_ok (by omega)] at hseal
        refine hseal.mono ?_
        clear hseal hlong
        rintro x w3 ⟨b3, a3, c3, rfl, ho3, hb3, hb32, hk3⟩
        have HO3 := Lib.hid ho3
        have HI3 : Hid (OwnB 5 w3 b1 a1 c1 p) := HI2.out.kept hk3 (fun _ h => h)
        have HB3 : Hid (OwnB 5 w3 b2 a2 c2 l) := HO2.out.kept hk3 (fun _ h => h)
        have HK3 := Lib.hid (HK2.out.trans hk3)
        clear hk3 ho3
        go_wp2_with fail
        have hrs := refSeal_any bp ap cp p w3 (HS.out.kept HK3.out (fun _ h => h)) H8.out (by omega)
        refine hrs.mono ?_
        clear hrs
        rintro x w4 ⟨b4, a4, c4, rfl, ho4, hb4, hk4, hb42⟩
        have HO4 := Lib.hid ho4
        have HO34 : Hid (OwnB 5 w4 b3 a3 c3 (sealB p)) := HO3.out.kept hk4 (fun _ h => h)
        have HI4 : Hid (OwnB 5 w4 b1 a1 c1 p) := HI3.out.kept hk4 (fun _ h => h)
        have HB4 : Hid (OwnB 5 w4 b2 a2 c2 l) := HB3.out.kept hk4 (fun _ h => h)
        have HK4 := Lib.hid (HK3.out.trans hk4)
        clear hk4 ho4
        rw [HSL.out]
        go_wp2_with fail
        have hcmp := KBytes_any b3 a3 c3 (sealB p) b4 a4 c4 (sealB p) w4 HO34.out.src HO4.out.src (by rw [HSL.out]; omega) (by rw [HSL.out]; omega)
        rw [HSL.out] at hcmp
        refine hcmp.mono ?_
        clear hcmp
        rintro x w5 ⟨rfl, n5, rfl⟩
        rw [same_refl]
        obtain ⟨W, hW⟩ : ∃ W, W = w4.drewN n5 := ⟨_, rfl⟩
        rw [← hW]
        have k45 : Kept None w4 W := by rw [hW]; exact (Kept.refl _ _).drewN n5
        have HIN : Hid (OwnB 5 W b1 a1 c1 p) := HI4.out.kept k45 (fun _ h => h)
        have HBY : Hid (OwnB 5 W b2 a2 c2 l) := HB4.out.kept k45 (fun _ h => h)
        have HK := Lib.hid (HK4.out.trans k45)
        clear hW k45
        go_wp2_with fail
        clear e1 e1'
      all_goals
        refine (First_any b2 a2 c2 l W HBY.out.src H82.out (by omega)).mono ?_
        rintro x w5 hfp
        obtain ⟨b5, a5, c5, rfl, ho5, hb5, hb52, hk5⟩ := find_all hfp
        clear hfp
        have HX5 := Lib.hid ho5
        have HI5 : Hid (OwnB 5 w5 b1 a1 c1 p) := HIN.out.kept hk5 (fun _ h => h)
        have HB5 : Hid (OwnB 5 w5 b2 a2 c2 l) := HBY.out.kept hk5 (fun _ h => h)
        have HK5 := Lib.hid (HK.out.trans hk5)
        have hn1 : Hid (a1 ≠ none → b1 ≠ b5) := fun h => by have := HIN.out.lt h; omega
        have hn2 : Hid (a2 ≠ none → b2 ≠ b5) := fun h => by have := HBY.out.lt h; omega
        have hb5w : w.heap.size ≤ b5 := Nat.le_trans HK.out.size hb5
        clear ho5 hk5
        go_wp2_with fail
        refine (refFirst_any bl al cl l w5 (HS2.out.kept HK5.out (fun _ h => h)) H82.out (by omega)).mono ?_
        rintro x w6 hfp
        obtain ⟨b6, a6, c6, rfl, ho6, hb6, hb62, hk6⟩ := first_all hfp
        clear hfp
        have HX6 : Hid (OwnB 5 w6 b5 a5 c5 (fx l)) := HX5.out.kept hk6 (fun _ h => h)
        have HY6 := Lib.hid ho6
        have HI6 : Hid (OwnB 5 w6 b1 a1 c1 p) := HI5.out.kept hk6 (fun _ h => h)
        have HB6 : Hid (OwnB 5 w6 b2 a2 c2 l) := HB5.out.kept hk6 (fun _ h => h)
        have HK6 := Lib.hid (HK5.out.trans hk6)
        clear ho6 hk6
        have hfx := fx_len H82.out
        have hfn := fn_le H82.out
        have hfe := Lib.hid (fo_fe l)
        generalize fx l = X at *
        generalize fn l = N at *
        generalize fe l = E at *
        generalize fo l = ok at *
        obtain ⟨C, hC⟩ : ∃ C, C = crc p := ⟨_, rfl⟩
        have hCl : C ≤ 4294967295 := by rw [hC]; have := crc_lt H8.out; omega
        have hCC := same_int C
        have hNN := same_int N
        go_wp2_with fail
        refine (Sum_any b1 a1 c1 p w6 HI6.out.src H8.out (by omega)).mono ?_
        rintro x w' ⟨rfl, rfl⟩
        rw [← hC]
        go_wp2_with fail
        refine (refSum_any bp ap cp p w6 (HS.out.kept HK6.out (fun _ h => h)) H8.out (by omega)).mono ?_
        rintro x w' ⟨rfl, rfl⟩
        rw [← hC]
        clear hC
        go_wp2_with fail
        refine (KBytes_any b5 a5 c5 X b6 a6 c6 X w6 HX6.out.src HY6.out.src (by omega) (by omega)).mono ?_
        rintro x w7 ⟨rfl, n7, rfl⟩
        rw [same_refl]
        obtain ⟨w7, hW7⟩ : ∃ W, W = w6.drewN n7 := ⟨_, rfl⟩
        rw [← hW7]
        have k67 : Kept None w6 w7 := by rw [hW7]; exact (Kept.refl _ _).drewN n7
        have HX7 : Hid (OwnB 5 w7 b5 a5 c5 X) := HX6.out.kept k67 (fun _ h => h)
        have HI7 : Hid (OwnB 5 w7 b1 a1 c1 p) := HI6.out.kept k67 (fun _ h => h)
        have HB7 : Hid (OwnB 5 w7 b2 a2 c2 l) := HB6.out.kept k67 (fun _ h => h)
        have HK7 := Lib.hid (HK6.out.trans k67)
        clear hW7 k67
        have hE := hfe.out
        cases ok
        case' false => obtain rfl : E = 3 := hE
        case' true => obtain rfl : E = 0 := hE
        all_goals
          clear hfe
          go_wp2_with fail
          refine (Spoil_any b5 a5 c5 X w7 HX7.out (by omega)).mono ?_
          rintro x w8 ⟨rfl, l', hl', ho8, hk8⟩
          have HI8 : Hid (OwnB 5 w8 b1 a1 c1 p) := HI7.out.kept hk8 (fun h e => hn1.out h e.2)
          have HB8 : Hid (OwnB 5 w8 b2 a2 c2 l) := HB7.out.kept hk8 (fun h e => hn2.out h e.2)
          have HK8 := Lib.hid (HK7.out.trans' hk8 (fun x hx => .inr (by rw [hx.2]; exact hb5w)))
          clear hl' ho8 hk8
          go_wp2_with fail
          refine (Scan_any b2 a2 c2 l w8 HB8.out.src H82.out (by omega)).mono ?_
          rintro x w9 ⟨b9, a9, c9, R, rfl, ho9, hap, hR⟩
          have HO9 := Lib.hid ho9
          have HI9 : Hid (OwnB 5 w9 b1 a1 c1 p) := HI8.out.kept ho9.kept (fun _ h => h)
          have HB9 : Hid (OwnB 5 w9 b2 a2 c2 l) := HB8.out.kept ho9.kept (fun _ h => h)
          have HK9 := Lib.hid (HK8.out.trans ho9.kept)
          have HAP := Lib.hid hap
          have HR := Lib.hid hR
          clear ho9 hap hR
          go_wp2_with fail
          refine (refScan_any bl al cl l w9 (HS2.out.kept HK9.out (fun _ h => h)) H82.out (by omega)).mono ?_
          rintro x w10 ⟨b10, a10, c10, R', rfl, ho10, hR'⟩
          have HO10 := Lib.hid ho10
          have HO9' := Lib.hid (HO9.out.on ho10.kept)
          have HI10 : Hid (OwnB 5 w10 b1 a1 c1 p) := HI9.out.kept ho10.kept (fun _ h => h)
          have HB10 : Hid (OwnB 5 w10 b2 a2 c2 l) := HB9.out.kept ho10.kept (fun _ h => h)
          have HK10 := Lib.hid (HK9.out.trans ho10.kept)
          have HR' := Lib.hid hR'
          clear ho10 hR'
          have HF := Lib.hid (scan_fit H82.out)
          have hbl : (bytesOf R).length = R.length := by simp [bytesOf]
          have hRl : R.length ≤ 65536 := by
            have h1 := HF.out.2.1
            rw [← HR.out, hbl] at h1
            omega
          clear hbl
          have hRR : Hid (bytesOf R = bytesOf R') := HR.out.trans HR'.out.symm
          have hsn : (scanB l).2 ≤ 65536 := by have := HF.out.2.2; omega
          have hsh : Hid (Short R) := short_of HR.out 16384 (by omega) (fun x hx => (HF.out.1 x hx).2)
          have hsh' : Hid (Short R') := short_of HR'.out 16384 (by omega) (fun x hx => (HF.out.1 x hx).2)
          generalize (scanB l).2 = T at *
          have hTT := same_int' T
          go_wp2_with fail
          refine (KRows_any a9 c9 R a10 c10 R' w10 HO9'.out.rows HO10.out.rows hsh.out hsh'.out (by omega)).mono ?_
          rintro x w11 ⟨rfl, n11, rfl⟩
          rw [hRR.out, show decide (bytesOf R' = bytesOf R') = true by simp]
          obtain ⟨w11, hW11⟩ : ∃ W, W = w10.drewN n11 := ⟨_, rfl⟩
          rw [← hW11]
          have k11 : Kept None w10 w11 := by rw [hW11]; exact (Kept.refl _ _).drewN n11
          have hRest : Hid (Rest w w8 b1 a1 c1 p b2 a2 c2 l b9 a9 c9 R 0 w11) :=
            ⟨HO9'.out.outer.kept k11 (fun _ h => h), fun j hj _ => (HO9'.out.inner _ (List.getElem_mem hj)).1.kept k11 (fun _ h => h), HI10.out.kept k11 (fun _ h => h), HB10.out.kept k11 (fun _ h => h), HK10.out.trans k11,
              fun r hr => ⟨(HO9'.out.inner r hr).2.1, (HO9'.out.inner r hr).2.2⟩, HAP.out, HK8.out.size, HI8.out.lt, HB8.out.lt⟩
          clear hW11 k11
          go_wp2
          go_loopw [16] (fun i wr => ∃ k : Nat, k ≤ R.length ∧ i = .int .i64 k ∧ Hid (Rest w w8 b1 a1 c1 p b2 a2 c2 l b9 a9 c9 R k wr)) (fun i _ => R.length - (intOf i).toNat)
          case atStart => exact ⟨0, by omega, rfl, hRest.out⟩
          case round =>
            obtain ⟨k, hk, rfl, hw⟩ := hrel
            by_cases hlt : k < R.length
            · obtain ⟨off, br, ar, cr, L, rfl, hcell, hown, hL, hnext⟩ := hw.out.at_ hlt hsh.out
              have HN := Lib.hid hnext
              have HOW := Lib.hid hown
              clear hnext hown
              go_wp2_with fail
              refine (Spoil_any br ar cr L wr HOW.out hL).mono ?_
              rintro x w12 hsp
              obtain ⟨rfl, hnx⟩ := HN.out x w12 hsp
              have HNX := Lib.hid hnx
              clear hsp hnx
              go_wp2
              go_roundw
              case rel => exact ⟨k + 1, by omega, by go_num, HNX.out⟩
              case measure => simp [intOf]; omega
            · obtain rfl : k = R.length := by omega
              obtain ⟨_, _, q3, q4, q5, _⟩ := hw.out
              have HIe := Lib.hid q3
              have HBe := Lib.hid q4
              have HKe := Lib.hid q5
              clear q3 q4 q5
              go_wp2_with fail
              refine (KBytes_any b1 a1 c1 p bp ap cp p wr HIe.out.src (HS.out.kept HKe.out (fun _ h => h)) (by omega) (by omega)).mono ?_
              rintro x w13 ⟨rfl, n13, rfl⟩
              rw [same_refl]
              obtain ⟨w13, hW13⟩ : ∃ W, W = wr.drewN n13 := ⟨_, rfl⟩
              rw [← hW13]
              have k13 : Kept None wr w13 := by rw [hW13]; exact (Kept.refl _ _).drewN n13
              have HBf : Hid (OwnB 5 w13 b2 a2 c2 l) := HBe.out.kept k13 (fun _ h => h)
              have HKf := Lib.hid (HKe.out.trans k13)
              clear hW13 k13
              go_wp2_with fail
              refine (KBytes_any b2 a2 c2 l bl al cl l w13 HBf.out.src (HS2.out.kept HKf.out (fun _ h => h)) (by omega) (by omega)).mono ?_
              rintro x w14 ⟨rfl, n14, rfl⟩
              rw [same_refl]
              go_wp2_with fail
              refine (wakes_any _).mono ?_
              rintro x w15 ⟨rfl, hk15⟩
              have HKg := Lib.hid ((HKf.out.drewN n14).trans hk15)
              clear hk15
              go_wp2
              go_ret
              exact ⟨rfl, HKg.out⟩
end Go.Proofs.YtfbibmdjahfneaaDoor.Fr
