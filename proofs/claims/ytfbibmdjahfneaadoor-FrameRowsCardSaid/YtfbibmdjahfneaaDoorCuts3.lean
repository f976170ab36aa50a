/- FrameCuts' walk. -/
import Derived.Test.YtfbibmdjahfneaaDoorSpoilt3
namespace Go.Proofs.YtfbibmdjahfneaaDoor.Fr
open Go Go.RowKit Mem Kp
theorem infoInt : (Tryd.prog.info? 3).map (fun i => (i.zero, i.size, i.bytes)) = some (some (.int .i64 0), 1, 8) := by kernel_rfl
def endV (L : List (List Nat)) (j : Nat) : Value := .int .i64 ((seals (L.take j)).length : Nat)
/-- where the first frames end -/
def endsV (L : List (List Nat)) (k : Nat) : List Value := (List.range (k + 1)).map (endV L)
theorem ends_next (L : List (List Nat)) (k : Nat) : endsV L (k + 1) = endsV L k ++ [endV L (k + 1)] := by
  unfold endsV; rw [List.range_succ (n := k + 1), List.map_append]; rfl
theorem ends_len (L : List (List Nat)) (k : Nat) : (endsV L k).length = k + 1 := by simp [endsV]
theorem ends_at {L : List (List Nat)} {k j : Nat} (h : j ≤ k) : (endsV L k).getD j undef = endV L j := by
  unfold endsV
  simp [show j < k + 1 by omega]
structure Bld (w wr : World) (L : List (List Nat)) (k br : Nat) (ar : Option Addr) (cr be ce : Nat) : Prop where
  bytes : OwnB 5 wr br ar cr (seals (L.take k))
  ends : OwnV 3 wr be (some ⟨be, 0, none⟩) ce (endsV L k)
  brn : w.heap.size ≤ br
  ben : w.heap.size ≤ be
  ne : ar ≠ none → br ≠ be
  kept : Kept None w wr
theorem Bld.start (w : World) (L : List (List Nat)) : Bld w (w.alloc (.cells #[.int .i64 0] 3)) L 0 w.heap.size none 0 w.heap.size 1 :=
  ⟨OwnB.nil _ _ _, ownV_new (by rw [ends_len]; exact Nat.le_refl _) (by decide) rfl rfl, Nat.le_refl _, Nat.le_refl _, fun h => absurd rfl h, (Kept.refl _ _).alloc _⟩
theorem Bld.mid {w wr w3 w4 w5 : World} {L : List (List Nat)} {k br : Nat} {ar : Option Addr} {cr be ce : Nat} (h : Bld w wr L k br ar cr be ce) (hk : Kept None wr w3) (h3 : Kept (Of ar br) w3 w4) (hk5 : Kept None w4 w5) :
    OwnV 3 w5 be (some ⟨be, 0, none⟩) ce (endsV L k) :=
  ((h.ends.kept hk (fun _ h => h)).kept h3 (fun _ e => h.ne e.1 e.2.symm)).kept hk5 (fun _ h => h)
theorem Bld.next {w wr w3 w4 w5 w6 : World} {L : List (List Nat)} {k br : Nat} {ar : Option Addr} {cr be ce b4 c4 be' ce' : Nat} {a4 a' : Option Addr} {l : List Nat} {v : Value} (h : Bld w wr L k br ar cr be ce) (hk : Kept None wr w3)
    (e : seals (L.take (k + 1)) = l) (h2 : OwnB 5 w4 b4 a4 c4 l) (h3 : Kept (Of ar br) w3 w4) (h4 : (b4 = br ∧ (a4 = none ∨ ar ≠ none)) ∨ w3.heap.size ≤ b4) (hk5 : Kept None w4 w5)
    (hv : v = endV L (k + 1)) (g2 : OwnV 3 w6 be' a' ce' (endsV L k ++ [v])) (g3 : Kept (Of (some ⟨be, 0, none⟩) be) w5 w6) (g4 : be' = be ∨ w5.heap.size ≤ be') :
    a' = some ⟨be', 0, none⟩ ∧ Bld w w6 L (k + 1) b4 a4 c4 be' ce' := by
  subst e hv
  rw [← ends_next] at g2
  have ha' : a' = some ⟨be', 0, none⟩ := by
    rcases g2 with ⟨_, _, h⟩ | ⟨h, _⟩
    · have := congrArg List.length h
      rw [ends_len] at this; simp at this
    · exact h
  subst ha'
  have hb := h.ends.lt (by simp)
  have s1 := h.kept.size; have s2 := hk.size; have s3 := h3.size; have s4 := hk5.size
  have hne4 : a4 ≠ none → b4 ≠ be := fun hn => by
    rcases h4 with ⟨rfl, h4⟩ | h4
    · exact h.ne (h4.resolve_left hn)
    · omega
  have hb4 : w.heap.size ≤ b4 := by
    rcases h4 with ⟨rfl, _⟩ | h4
    · exact h.brn
    · omega
  refine ⟨rfl, (h2.kept hk5 (fun _ h => h)).kept g3 (fun hn e => hne4 hn e.2), g2, hb4, ?_, fun hn => ?_, ?_⟩
  · rcases g4 with rfl | g4
    · exact h.ben
    · omega
  · rcases g4 with rfl | g4
    · exact hne4 hn
    · have := h2.lt hn; omega
  · exact (((h.kept.trans hk).trans' h3 (fun x hx => .inr (by rw [hx.2]; exact h.brn))).trans hk5).trans' g3 (fun x hx => .inr (by rw [hx.2]; exact h.ben))
theorem rowsAt_take {w : World} {a : Option Addr} {cap : Nat} {R : List Row} (h : RowsAt w a cap R) (k : Nat) : RowsAt w a cap (R.take k) := by
  obtain ⟨b, h1, h2⟩ := h
  refine ⟨b, ?_, fun r hr => h2 r (List.mem_of_mem_take hr)⟩
  rcases h1 with ⟨e1, e2, e3⟩ | ⟨e1, e2⟩
  · have hl : ((R.take k).map Row.val).length ≤ (R.map Row.val).length := by simp; omega
    refine .inl ⟨by omega, e2, ?_⟩
    rcases e3 with ⟨i1, i2, i3⟩ | ⟨off, i1, i2⟩
    · refine .inl ⟨i1, ?_, i3⟩
      have : R = [] := List.map_eq_nil_iff.1 i2
      subst this; simp
    · refine .inr ⟨off, i1, fun i hi => ?_⟩
      rw [i2 i (by omega)]
      rw [List.map_take] at hi ⊢
      have hi' : i < (R.map Row.val).length := by rw [List.length_take] at hi; omega
      have hik : i < k := by rw [List.length_take] at hi; omega
      simp only [List.getD_eq_getElem?_getD]
      rw [List.getElem?_take_of_lt hik]
  · have : R = [] := List.map_eq_nil_iff.1 e1
    subst this
    exact .inr ⟨by simp, e2⟩
theorem bytes_take (R : List Row) (k : Nat) : bytesOf (R.take k) = (bytesOf R).take k := by unfold bytesOf; rw [List.map_take]
set_option maxHeartbeats 8000000 in
theorem FrameCuts_any (a : Option Addr) (cap : Nat) (R : List Row) (AT : Int) (w : World) (h : RowsAt w a cap R) (hR : R.length ≤ 9223372036854775807) (hrl : ∀ l ∈ bytesOf R, l.length ≤ 9223372036854775807) (hr8 : ∀ l ∈ bytesOf R, B8 l) (hT : Tab w) :
    Calls Tryd.prog 5 #[.slice a R.length cap, .int .i64 AT] w fun e w' => e = .returned (.bool true) ∧ Kept None w w' := by
  have HT := Lib.hid hT
  obtain ⟨i0, hi, hz0, hz1, hz2⟩ := info_parts infoU8
  obtain ⟨j0, hj, hy0, hy1, hy2⟩ := info_parts infoInt
  have HS := Lib.hid h
  have HR8 := Lib.hid hr8
  have BL := Lib.hid (bytes_len R)
  have hfw := few_any a cap R w h hR hrl
  have HF := Lib.hid hfw
  clear h hr8 hfw hT hrl
  by_cases hfew : Few (bytesOf R)
  · have HFW := Lib.hid hfew
    have hRl : R.length ≤ 60 := by rw [← BL.out]; exact hfew.1
    clear hfew
    go_enter Tryd.func5, Tryd.ntmps5
    go_wp2_with fail
    refine HF.out.mono ?_
    rintro x w' ⟨rfl, ⟨rfl, _⟩ | ⟨rfl, hh⟩⟩
    case inr => exact absurd HFW.out hh
    case inl =>
    have HST := Lib.hid (Bld.start w (bytesOf R))
    go_wp2
    go_loopw [5, 6, 7] (fun v u i wr => ∃ (k br cr n be ce : Nat) (ar : Option Addr), k ≤ R.length ∧ n ≤ 30540 ∧ i = .int .i64 k ∧ v = .slice ar n cr ∧ u = .slice (some ⟨be, 0, Option.none⟩) (k + 1) ce ∧ Hid (n = (seals ((bytesOf R).take k)).length ∧ Bld w wr (bytesOf R) k br ar cr be ce)) (fun _ _ i _ => R.length - (intOf i).toNat)
    case atStart => exact ⟨0, w.heap.size, 0, 0, w.heap.size, 1, Option.none, by omega, by omega, rfl, rfl, rfl, rfl, HST.out⟩
    case round =>
      obtain ⟨k, br, cr, n, be, ce, ar, hk, hn, rfl, rfl, rfl, hw⟩ := hrel
      by_cases hlt : k < R.length
      · obtain ⟨b1, o1, bi1, ai1, ci1, rfl, dc, s1⟩ := (HS.out.kept hw.out.2.kept).at_ k hlt
        have hkL : k < (bytesOf R).length := by rw [BL.out]; exact hlt
        have hst := Lib.hid (seals_take hkL)
        have hmem : (bytesOf R).getD k [] ∈ bytesOf R := getD_mem hkL
        have h8y := Lib.hid (HR8.out _ hmem)
        have hyl := HFW.out.2 _ hmem
        have hnb := Lib.hid (seals_few_take HFW.out (k + 1))
        have S1 := Lib.hid s1
        clear s1 hmem hkL
        generalize (bytesOf R).getD k [] = y at *
        have HSL : Hid ((sealB y).length = y.length + 9) := seal_len y
        obtain ⟨n2, hn2⟩ : ∃ n2, n2 = n + (y.length + 9) := ⟨_, rfl⟩
        have hl2 : Hid ((seals ((bytesOf R).take k) ++ sealB y).length = n2) := by show _ = _; rw [List.length_append, HSL.out, ← hw.out.1, hn2]
        have hl3 : Hid (n2 = (seals ((bytesOf R).take (k + 1))).length) := by show _ = _; rw [hst.out]; exact hl2.out.symm
        have hn2l : n2 ≤ 30540 := by rw [hl3.out]; exact hnb.out
        have HN2 := Lib.hid hn2
        clear hn2
        go_wp2_with fail
        have hseal := Seal_any bi1 ai1 ci1 y wr S1.out h8y.out (HT.out.kept hw.out.2.kept)
        rw [sealPost_ok (by omega)] at hseal
        refine hseal.mono ?_
        clear hseal
        rintro x w3 ⟨b3, a3, c3, rfl, ho3, hb3, hb32, hk3⟩
        have HO3 := Lib.hid ho3
        have HB3 : Hid (OwnB 5 w3 br ar cr (seals ((bytesOf R).take k))) := hw.out.2.bytes.kept hk3 (fun _ h => h)
        have HK3 := Lib.hid hk3
        clear ho3 hk3
        go_wp2_with (at_builtin; refine wpList_append_bytes rfl _ _ 22 rfl 5 i0 Tryd.underlying22 hi hz0 hz1 hz2 br ar cr (seals ((bytesOf R).take k)) n rfl HB3.out hw.out.1.symm b3 a3 c3 (sealB y) (y.length + 9) rfl HO3.out.src HSL.out (by omega) ?_)
        intro b4 a4 c4 w4 h2 h3 h4 h5
        rw [← hw.out.1, HSL.out, ← HN2.out]
        have H2 := Lib.hid h2
        have H3 := Lib.hid h3
        have H4 := Lib.hid h4
        clear h2 h3 h4 h5
        have k45 : Hid (Kept None w4 (w4.alloc (.cells #[.int .i64 (n2 : Int)] 3))) := (Kept.refl _ _).alloc _
        go_wp2_with (at_builtin; refine wpList_append_val rfl _ _ 41 rfl 3 j0 (.int .i64 0) 8 Tryd.underlying41 hj hy0 hy1 hy2 rfl be (some ⟨be, 0, none⟩) ce (endsV (bytesOf R) k) (k + 1) rfl (hw.out.2.mid HK3.out H3.out k45.out) (ends_len _ _) ⟨w4.heap.size, 0, none⟩ 1 (.int .i64 (n2 : Int)) rfl (cell_heap (heap_alloc_new w4 _) 0) rfl rfl (by omega) (by omega) ?_)
        intro b6 a6 c6 w6 g2 g3 g4
        obtain ⟨rfl, hnx⟩ := hw.out.2.next HK3.out hst.out H2.out H3.out H4.out k45.out (by rw [hl3.out]; rfl) g2 g3 (by simpa using g4)
        have HNX := Lib.hid hnx
        clear g2 g3 g4 hnx
        go_wp2
        go_roundw
        case rel => exact ⟨k + 1, b4, c4, n2, b6, c6, a4, by omega, hn2l, by go_num, rfl, rfl, hl3.out, HNX.out⟩
        case measure => simp [intOf]; omega
      · obtain rfl : k = R.length := by omega
        obtain ⟨wx, rfl⟩ : ∃ wx : World, wx = wr := ⟨_, rfl⟩
        have htake : (bytesOf R).take R.length = bytesOf R := by rw [← BL.out, List.take_length]
        obtain ⟨c, hc, hce⟩ := tmod_nat (IntKind.u64.wrap AT) (n + 1) (wrap_nonneg _) (by omega)
        rw [Int.natCast_add] at hce
        have hce' : (IntKind.u64.wrap AT).tmod ((n : Int) + 1) = (c : Int) := hce
        clear hce
        have hcn : c ≤ n := by omega
        have hfit : Fit (bytesOf R) := few_fit HFW.out HR8.out
        have HFIT := Lib.hid hfit
        have HO := hw.out.2.bytes
        rw [htake] at HO
        have hN := hw.out.1
        rw [htake] at hN
        have hall8 := seals_b8 _ HR8.out
        have HC : Hid (Src wx br ar cr ((seals (bytesOf R)).take c) ∧ ((seals (bytesOf R)).take c).length = c ∧ B8 ((seals (bytesOf R)).take c)) :=
          ⟨(fits_left HO.shows (by omega)).src, by rw [List.length_take]; omega, hall8.take c⟩
        have hcr : c ≤ cr := by
          rcases HO with ⟨_, _, h⟩ | ⟨_, h, _⟩
          · rw [h] at hN; simp at hN; omega
          · omega
        have hcrm : cr ≤ 9223372036854775807 := by have := HO.shows.2.1; exact this
        have har : Hid ((ar = none ∧ c = 0 ∧ cr = 0 ∧ R.length = 0) ∨ ar = some ⟨br, 0, none⟩) := by
          rcases HO with ⟨h1, h2, h⟩ | ⟨h, _⟩
          · have h3 := seals_len_le (bytesOf R)
            rw [h, BL.out] at h3
            rw [h] at hN; simp at hN h3; exact .inl ⟨h1, by omega, h2, by rw [h3]; rfl⟩
          · exact .inr h
        have HNN := Lib.hid hN
        have hseln := Lib.hid htake
        have hecap : R.length + 1 ≤ ce := by
          rcases hw.out.2.ends with h | ⟨_, h, _⟩
          · cases h.1
          · rw [ends_len] at h; exact h
        clear hfit HO hall8 hN htake
        go_wp2
        go_loopw [11] (fun i wr => ∃ k : Nat, k ≤ R.length ∧ i = .int .i64 k ∧ wx = wr ∧ Hid ((seals ((bytesOf R).take k)).length ≤ c)) (fun i _ => R.length - (intOf i).toNat)
        case atStart => exact ⟨0, by omega, rfl, rfl, by show ([] : List Nat).length ≤ c; simp⟩
        case round =>
          obtain ⟨k, hk2, rfl, rfl, hlec⟩ := hrel
          have hek : k + 1 ≤ R.length → wx.cell? ⟨be, k + 1, none⟩ = some (.int .i64 ((seals ((bytesOf R).take (k + 1))).length : Nat)) := fun h => by
            have := (hw.out.2.ends.cellAt (k + 1) (by rw [ends_len]; omega)).2
            rw [ends_at h] at this
            exact this
          have hmore : ∀ q : Nat, q = (seals ((bytesOf R).take k)).length → wx.cell? ⟨be, k, none⟩ = some (.int .i64 (q : Int)) := fun q hq => by
            have := (hw.out.2.ends.cellAt k (by rw [ends_len]; omega)).2
            rw [ends_at hk2] at this
            rw [hq]; exact this
          have hgo : k < R.length ∧ (seals ((bytesOf R).take (k + 1))).length ≤ c ∨ (k = R.length ∨ (k < R.length ∧ ¬ (seals ((bytesOf R).take (k + 1))).length ≤ c)) := by omega
          rcases hgo with ⟨hlt, hle⟩ | hstop
          · have hcell := hek (by omega)
            obtain ⟨q, hq⟩ : ∃ q, q = (seals ((bytesOf R).take (k + 1))).length := ⟨_, rfl⟩
            have HLE := Lib.hid hle
            rw [← hq] at hcell hle
            have d1 : decide ((q : Int) ≤ (c : Int)) = true := decide_eq_true (by omega)
            have d1' : decide (q ≤ c) = true := decide_eq_true hle
            clear hek hmore hle hq
            go_wp2
            go_roundw
            case rel => exact ⟨k + 1, by omega, by go_num, trivial, HLE.out⟩
            case measure => simp [intOf]; omega
          · have hscut := scan_cut HFIT.out (k := k) (c := c) (by rw [BL.out]; exact hk2) hlec.out (fun h => by
              rw [BL.out] at h
              rcases hstop with h2 | ⟨_, h2⟩
              · omega
              · omega)
            obtain ⟨E, hE⟩ : ∃ E, E = (seals ((bytesOf R).take k)).length := ⟨_, rfl⟩
            have hcE := hmore E hE
            have hEl : E ≤ 30540 := by rw [hE]; exact seals_few_take HFW.out k
            rw [← hE] at hscut
            have HSC := Lib.hid hscut
            have hsc := Scan_any br ar cr ((seals (bytesOf R)).take c) wx HC.out.1 HC.out.2.2 (by rw [HC.out.2.1]; omega) (HT.out.kept hw.out.2.kept)
            rw [HC.out.2.1] at hsc
            have HSCAN := Lib.hid hsc
            have hEnds := Lib.hid (show OwnV 3 wx be (some ⟨be, 0, Option.none⟩) ce (endsV (bytesOf R) R.length) from hw.out.2.ends)
            have hstop' : (decide ((k : Int) < (R.length : Int)) = false ∧ decide (k < R.length) = false) ∨ (k < R.length ∧ decide ((k : Int) < (R.length : Int)) = true ∧ decide (k < R.length) = true ∧ ∃ q : Nat, wx.cell? ⟨be, k + 1, none⟩ = some (.int .i64 (q : Int)) ∧ decide ((q : Int) ≤ (c : Int)) = false ∧ decide (q ≤ c) = false) := by
              rcases hstop with h2 | ⟨h1, h2⟩
              · exact .inl ⟨decide_eq_false (by omega), decide_eq_false (by omega)⟩
              · exact .inr ⟨h1, decide_eq_true (by omega), decide_eq_true h1, (seals ((bytesOf R).take (k + 1))).length, hek (by omega), decide_eq_false (by omega), decide_eq_false h2⟩
            have hkcap : k ≤ cap := by
              obtain ⟨_, h1, _⟩ := HS.out
              rcases h1 with h1 | h1
              · have := h1.1; rw [List.length_map] at this; omega
              · have e : R.length = 0 := by rw [List.map_eq_nil_iff.1 h1.1]; rfl
                omega
            have hknone : Hid (a = none → k = 0 ∧ cap = 0) := fun e => by
              obtain ⟨_, h1, _⟩ := HS.out
              rcases h1 with ⟨_, _, ⟨_, h2, h3⟩ | ⟨_, h2, _⟩⟩ | h1
              · have e0 : R.length = 0 := by rw [List.map_eq_nil_iff.1 h2]; rfl
                exact ⟨by omega, h3⟩
              · rw [e] at h2; cases h2
              · exact absurd e h1.2
            have HKW := Lib.hid hw.out.2.kept
            clear hscut hE hmore hek hstop hsc hw
            have hEE := same_int' E
            rcases har.out with ⟨rfl, rfl, rfl, hR0⟩ | rfl
            all_goals
              clear har
              rcases hstop' with ⟨hst, hst'⟩ | ⟨hklt, hst1, hst1', q, hst2, hst3, hst3'⟩
              all_goals first | (exfalso; omega) | skip
              all_goals
                go_wp2_with fail
                refine HSCAN.out.mono ?_
                rintro x w3 ⟨b9, a9, c9, R1, rfl, ho9, hap, hR1⟩
                rw [HSC.out] at hR1 ⊢
                have HO9 := Lib.hid ho9
                have HR1 := Lib.hid hR1
                have HK9 := Lib.hid (HKW.out.trans ho9.kept)
                have hcE3 : w3.cell? ⟨be, k, none⟩ = some (.int .i64 (E : Int)) := by
                  have hb := hEnds.out.lt (by simp)
                  exact (ho9.kept.cell (p := ⟨be, k, none⟩) hb (fun h => h)).trans hcE
                clear ho9 hap hR1
                go_wp2_with fail
                have hRl1 : R1.length = k := by rw [← bytes_len, HR1.out, List.length_take, BL.out]; omega
                have hRl2 : (R.take k).length = k := by rw [List.length_take]; omega
                have hrw := KRows_any a9 c9 R1 a cap (R.take k) w3 HO9.out.rows ((rowsAt_take HS.out k).kept HK9.out) (short_of HR1.out 500 (by decide) (fun l hl => HFW.out.2 l (List.mem_of_mem_take hl))) (short_of (bytes_take R k) 500 (by decide) (fun l hl => HFW.out.2 l (List.mem_of_mem_take hl))) (by omega)
                rw [hRl2] at hrw
                refine hrw.mono ?_
                clear hrw hRl1 hRl2
                rintro x w4 ⟨rfl, n4, rfl⟩
                rw [HR1.out, bytes_take, show decide ((bytesOf R).take k = (bytesOf R).take k) = true by simp]
                go_wp2_with fail
                refine (wakes_any _).mono ?_
                rintro x w15 ⟨rfl, hk15⟩
                have HKg := Lib.hid ((HK9.out.drewN n4).trans hk15)
                clear hk15
                go_wp2
                go_ret
                exact ⟨rfl, HKg.out⟩
  · have HFW := Lib.hid hfew
    clear hfew
    go_enter Tryd.func5, Tryd.ntmps5
    go_wp2_with fail
    refine HF.out.mono ?_
    rintro x w' ⟨rfl, ⟨rfl, hh⟩ | ⟨rfl, _⟩⟩
    · exact absurd hh HFW.out
    · go_wp2
      go_ret
      exact ⟨rfl, Kept.refl _ _⟩
end Go.Proofs.YtfbibmdjahfneaaDoor.Fr
