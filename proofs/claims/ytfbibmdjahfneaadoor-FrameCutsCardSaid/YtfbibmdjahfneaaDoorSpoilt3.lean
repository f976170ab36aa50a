/- FrameSpoilt's walk. -/
import Derived.Test.YtfbibmdjahfneaaDoorRows3
import Derived.Test.YtfbibmdjahfneaaDoorTurns
namespace Go.Proofs.YtfbibmdjahfneaaDoor.Fr
open Go Go.RowKit Mem Kp
theorem tmod_nat (x : Int) (n : Nat) (hx : 0 ≤ x) (hn : 0 < n) : ∃ p : Nat, p < n ∧ x.tmod (n : Int) = (p : Int) := by
  refine ⟨(x.tmod (n : Int)).toNat, ?_, ?_⟩
  · have := Int.tmod_lt_of_pos x (b := (n : Int)) (by omega)
    have := Int.tmod_nonneg (n : Int) hx
    omega
  · have := Int.tmod_nonneg (n : Int) hx
    omega
theorem wrap_nonneg (x : Int) : 0 ≤ IntKind.u64.wrap x := by simp [IntKind.wrap, IntKind.bits, IntKind.signed]; omega
theorem shl_fits {s B : Nat} (hs : s < 8) (hB : B < 4294967296) : 2 ^ s * B < 18446744073709551616 := by
  have hp : 2 ^ s ≤ 2 ^ 7 := Nat.pow_le_pow_right (by decide) (by omega)
  have h1 : 2 ^ s * B ≤ 2 ^ 7 * 4294967295 := Nat.mul_le_mul hp (by omega)
  have e : 2 ^ 7 * 4294967295 = 549755813760 := rfl
  omega
set_option maxHeartbeats 8000000 in
theorem FrameSpoilt_any (b : Nat) (a : Option Addr) (cap : Nat) (p : List Nat) (AT SH : Int) (B : Nat) (w : World) (hs : Src w b a cap p) (h8 : B8 p) (hpl : p.length ≤ 9223372036854775807) (hB : B < 4294967296) (hT : Tab w) :
    Calls Tryd.prog 6 #[.slice a p.length cap, .int .i64 AT, .int .u32 B, .int .i64 SH] w fun e w' => e = .returned (.bool true) ∧ Kept None w w' := by
  have HT := Lib.hid hT
  have HS := Lib.hid hs
  have H8 := Lib.hid h8
  clear hs h8 hT
  by_cases hz : p.length = 0
  · have d0 : ((p.length : Int) == 0) = true := by rw [hz]; rfl
    go_enter Tryd.func6, Tryd.ntmps6
    go_wp2
    go_ret
    exact ⟨rfl, Kept.refl _ _⟩
  · have d0 : ((p.length : Int) == 0) = false := beq_eq_false_iff_ne.2 (by omega)
    have hpos : 0 < p.length := by omega
    clear hz
    by_cases hbig : 16384 < p.length
    · have d1 : decide (16384 < p.length) = true := by simpa using hbig
      have d1' : decide ((16384 : Int) < (p.length : Int)) = true := by simp; omega
      go_enter Tryd.func6, Tryd.ntmps6
      go_wp2
      go_ret
      exact ⟨rfl, Kept.refl _ _⟩
    · have d1 : decide (16384 < p.length) = false := by simpa using hbig
      have d1' : decide ((16384 : Int) < (p.length : Int)) = false := by simp; omega
      have hp : p.length ≤ 16384 := by omega
      clear hbig
      by_cases hb0 : B = 0
      · have d2 : ((B : Int) == 0) = true := by rw [hb0]; rfl
        clear hb0
        go_enter Tryd.func6, Tryd.ntmps6
        go_wp2
        go_ret
        exact ⟨rfl, Kept.refl _ _⟩
      · have d2 : ((B : Int) == 0) = false := beq_eq_false_iff_ne.2 (by omega)
        clear hb0
        obtain ⟨K, hK, hKe⟩ := tmod_nat (IntKind.u64.wrap AT) p.length (wrap_nonneg _) hpos
        obtain ⟨s, hs8, hse⟩ := tmod_nat (IntKind.u64.wrap SH) 8 (wrap_nonneg _) (by decide)
        have hse' : (IntKind.u64.wrap SH).tmod 8 = (s : Int) := hse
        clear hse
        have HSL : Hid ((sealB p).length = p.length + 9) := seal_len p
        have hseal := Seal_any b a cap p w HS.out H8.out
        rw [sealPost_ok hp] at hseal
        have HSE := Lib.hid hseal
        clear hseal
        go_enter Tryd.func6, Tryd.ntmps6
        go_wp2_with fail
        refine HSE.out.mono ?_
        rintro x w1 ⟨b1, a1, c1, rfl, ho1, hb1, hb12, hk1⟩
        have HO1 := Lib.hid ho1
        have HK1 := Lib.hid hk1
        clear ho1 hk1
        obtain ⟨X, hX⟩ : ∃ X, X = 2 ^ s * B := ⟨_, rfl⟩
        have hXe : IntKind.u64.wrap ((B : Int) * 2 ^ s) = (X : Int) := by
          have h1 := shl_fits hs8 hB
          rw [← hX] at h1
          have e : ((B : Int) * 2 ^ s) = (X : Int) := by rw [hX, Int.natCast_mul, Int.natCast_pow, Int.mul_comm]; rfl
          rw [e]
          simp [IntKind.wrap, IntKind.bits, IntKind.signed]; omega
        have HX := Lib.hid hX
        have hXl : X < 18446744073709551616 := by rw [hX]; exact shl_fits hs8 hB
        obtain rfl : a1 = some ⟨b1, 0, Option.none⟩ := by
          rcases HO1.out with h | h
          · have e := HSL.out
            rw [h.2.2] at e; simp at e
          · exact h.1
        have HO2 : Hid (OwnB 5 w1 b1 (some ⟨b1, 0, Option.none⟩) c1 (spoilB p K 0 X)) := by rw [spoil_zero p K X (by omega)]; exact HO1.out
        have hc1 : p.length + 9 ≤ c1 := by
          rcases HO1.out with h | ⟨_, h, _⟩
          · cases h.1
          · rw [HSL.out] at h; exact h
        clear hX HSE
        go_wp2
        go_loopw [13, 14] (fun t i wr => ∃ (k : Nat) (tb : Bool), k ≤ 5 ∧ K + k ≤ p.length ∧ i = .int .i64 k ∧ t = .bool tb ∧ Hid (tb = turnsB k X ∧ OwnB 5 wr b1 (some ⟨b1, 0, Option.none⟩) c1 (spoilB p K k X) ∧ Kept None w wr)) (fun _ i _ => 5 - (intOf i).toNat)
        case atStart => exact ⟨0, false, by omega, by omega, rfl, rfl, (turns_zero X).symm, HO2.out, HK1.out⟩
        case round =>
          obtain ⟨k, tb, hk5, hkp, rfl, rfl, hw⟩ := hrel
          by_cases hlt : k < 5 ∧ K + k < p.length
          · obtain ⟨hlt1, hlt2⟩ := hlt
            have hcell := hw.out.2.1.cellAt (9 + K + k) (by rw [spoil_len]; omega)
            have hf : wr.frozen? ⟨b1, 9 + K + k, Option.none⟩ = false := by
              rcases hw.out.2.1 with h | ⟨_, _, _, cur, hh, _⟩
              · cases h.1
              · exact frozen_heap hh _
            obtain ⟨hn1, hn2⟩ := spoil_next (X := X) hlt2
            rw [hn2] at hcell
            have hy := H8.out.get (K + k)
            have HT1 := Lib.hid (turns_next k X)
            obtain ⟨C, hC⟩ : ∃ C, C = X / 256 ^ k % 256 := ⟨_, rfl⟩
            have hCe : (X : Int) / 2 ^ (8 * k) % 256 = (C : Int) := by
              have e : (2 : Nat) ^ (8 * k) = 256 ^ k := by rw [Nat.pow_mul]
              rw [hC, Int.natCast_emod, Int.natCast_ediv, ← e, Int.natCast_pow]
              rfl
            have hCl : C < 256 := by rw [hC]; exact Nat.mod_lt _ (by decide)
            rw [← hC] at hn1 HT1
            generalize p.getD (K + k) 0 = y at *
            have HXO := Lib.hid (u8_xor_nat y C hy hCl)
            have HN : Hid (∀ v : Int, v = ((y ^^^ C : Nat) : Int) → OwnB 5 (wr.setCell ⟨b1, 9 + K + k, Option.none⟩ (.int .u8 v)) b1 (some ⟨b1, 0, Option.none⟩) c1 (spoilB p K (k + 1) X) ∧ Kept None w (wr.setCell ⟨b1, 9 + K + k, Option.none⟩ (.int .u8 v))) := fun v hv => by
              refine ⟨?_, hw.out.2.2.setAt (.inr hb1) _ _⟩
              rw [← hn1]
              exact own_set hw.out.2.1 _ _ _ hv
            have HTB := Lib.hid hw.out.1
            clear hw hn1 hn2 hC
            cases tb
            · by_cases hC0 : C = 0
              · have hq : ((C : Int) != 0) = false := by rw [hC0]; rfl
                have HC0 : Hid (turnsB (k + 1) X = false) := by show _ = _; rw [HT1.out, ← HTB.out, hC0]; rfl
                clear hC0
                go_wp2
                go_roundw
                case rel => exact ⟨k + 1, false, by omega, by omega, by go_num, rfl, HC0.out.symm, HN.out _ HXO.out⟩
                case measure => simp [intOf]; omega
              · have hq : ((C : Int) != 0) = true := bne_iff_ne.2 (by omega)
                have HC0 : Hid (turnsB (k + 1) X = true) := by show _ = _; rw [HT1.out, bne_iff_ne.2 hC0, Bool.or_true]
                clear hC0
                go_wp2
                go_roundw
                case rel => exact ⟨k + 1, true, by omega, by omega, by go_num, rfl, HC0.out.symm, HN.out _ HXO.out⟩
                case measure => simp [intOf]; omega
            · have HC0 : Hid (turnsB (k + 1) X = true) := by show _ = _; rw [HT1.out, ← HTB.out, Bool.true_or]
              go_wp2
              go_roundw
              case rel => exact ⟨k + 1, true, by omega, by omega, by go_num, rfl, HC0.out.symm, HN.out _ HXO.out⟩
              case measure => simp [intOf]; omega
          · have hfi := First_any b1 (some ⟨b1, 0, Option.none⟩) c1 (spoilB p K k X) wr hw.out.2.1.src (spoil_b8 H8.out K k X) (by rw [spoil_len]; omega) (HT.out.kept hw.out.2.2)
            have hfs := first_spoilt H8.out hp hkp hs8 hB hk5
            rw [← HX.out, ← hw.out.1] at hfs
            have HK := Lib.hid hw.out.2.2
            have hln := spoil_len p K k X
            rw [hln] at hfi
            clear hln hw hXe HX
            have hend : k = 5 ∨ (k < 5 ∧ ¬ 9 + (K : Int) + (k : Int) < (p.length : Int) + 9) := by omega
            cases tb
            · have hff : firstB (spoilB p K k X) = some (p, p.length + 9) := by rw [hfs]; rfl
              rw [findPost_some hff] at hfi
              have HFI := Lib.hid hfi
              clear hfi hfs hff
              rcases hend with rfl | ⟨hk1, hk2⟩
              all_goals
                go_wp2_with fail
                refine HFI.out.mono ?_
                rintro x w5 ⟨b5, a5, c5, rfl, ho5, hb5, hb52, hk5⟩
                have HK5 := Lib.hid (HK.out.trans hk5)
                clear ho5 hk5
                go_wp2_with fail
                refine (wakes_any _).mono ?_
                rintro x w7 ⟨rfl, hk7⟩
                have HK7 := Lib.hid (HK5.out.trans hk7)
                clear hk7
                go_wp2
                go_ret
                exact ⟨rfl, HK7.out⟩
            · have hff : firstB (spoilB p K k X) = none := by rw [hfs]; rfl
              rw [findPost_none hff] at hfi
              have HFI := Lib.hid hfi
              clear hfi hfs hff
              rcases hend with rfl | ⟨hk1, hk2⟩
              all_goals
                go_wp2_with fail
                refine HFI.out.mono ?_
                rintro x w5 ⟨rfl, hk5⟩
                have HK5 := Lib.hid (HK.out.trans hk5)
                clear hk5
                go_wp2_with fail
                refine (wakes_any _).mono ?_
                rintro x w7 ⟨rfl, hk7⟩
                have HK7 := Lib.hid (HK5.out.trans hk7)
                clear hk7
                go_wp2
                go_ret
                exact ⟨rfl, HK7.out⟩
end Go.Proofs.YtfbibmdjahfneaaDoor.Fr
