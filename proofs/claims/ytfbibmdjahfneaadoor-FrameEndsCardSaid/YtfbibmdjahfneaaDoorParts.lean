/- Walks of package frame's parts: frameSum, readNumber, writeNumber, Sum. -/
import Derived.Test.YtfbibmdjahfneaaDoorNib
import Derived.Test.YtfbibmdjahfneaaDoorPosts
namespace Go.Proofs.YtfbibmdjahfneaaDoor.Fr
open Go Go.RowKit Mem Kp
theorem not_crc {l : List Nat} (h8 : B8 l) : bits .xor .u32 IntKind.u32.max ((fold 4294967295 l : Nat) : Int) = ((crc l : Nat) : Int) := by
  have := u32_xor_nat 4294967295 (fold 4294967295 l) (by omega) (fold_lt l _ h8 (by decide))
  rw [show IntKind.u32.max = ((4294967295 : Nat) : Int) from rfl, this, Nat.xor_comm]
  rfl
set_option maxHeartbeats 1000000 in
theorem Sum_tab (b : Nat) (a : Option Addr) (cap : Nat) (l : List Nat) (w : World) (h : Src w b a cap l) (h8 : B8 l) (hl : l.length ≤ 9223372036854775807) (hT : Tab w) :
    Calls Tryd.prog 16 #[.slice a l.length cap] w fun e w' => e = .returned (.int .u32 (crc l)) ∧ w = w' := by
  have HS := Lib.hid h
  have H8 := Lib.hid h8
  have HT := Lib.hid hT
  clear h h8 hT
  go_enter Tryd.func16, Tryd.ntmps16
  go_wp2_with fail
  refine (register_any b a cap l 4294967295 w HS.out H8.out hl (by omega) HT.out).mono ?_
  rintro x w' ⟨rfl, rfl⟩
  have hfl := fold_lt l 4294967295 H8.out (by decide)
  have HN := Lib.hid (not_crc H8.out)
  generalize fold 4294967295 l = C at *
  go_wp2
  go_ret
  exact ⟨ret_int HN.out, rfl⟩
set_option maxHeartbeats 1000000 in
theorem frameSum_any (b : Nat) (a : Option Addr) (cap : Nat) (h : List Nat) (b2 : Nat) (a2 : Option Addr) (cap2 : Nat) (p : List Nat) (w : World) (hs : Src w b a cap h) (h8 : B8 h) (hh : 5 ≤ h.length) (hs2 : Src w b2 a2 cap2 p) (h82 : B8 p) (hl : p.length ≤ 9223372036854775807) (hT : Tab w) :
    Calls Tryd.prog 25 #[.slice a h.length cap, .slice a2 p.length cap2] w fun e w' => e = .returned (.int .u32 (crc ((h.drop 1).take 4 ++ p))) ∧ w = w' := by
  obtain ⟨off, rfl, hc⟩ := hs.at_ (by omega)
  have hsh : Shows w b (some ⟨b, off, Option.none⟩) cap h := by
    rcases hs with h' | h'
    · exact h'
    · rw [h'.1] at hh; simp at hh
  have hcap : 5 ≤ cap := by have := hsh.1; omega
  have hn1 : ¬ cap = 1 := by omega
  obtain ⟨p1, p1l⟩ := fits_part (lo := 1) (hi := 5) (o2 := off + 1) hsh (by omega) hh (.inl rfl)
  have HP1 : Hid (Shows w b (some ⟨b, off + 1, Option.none⟩) (cap - 1) ((h.drop 1).take 4)) := p1
  have HL1 : Hid (((h.drop 1).take 4).length = 4) := p1l
  have h81 : Hid (B8 ((h.drop 1).take 4)) := (h8.drop 1).take 4
  have HS2 := Lib.hid hs2
  have H82 := Lib.hid h82
  have HT := Lib.hid hT
  have hcm := hsh.2.1
  have hhc := hsh.1
  clear hs hs2 h8 h82 hT hc hsh p1 p1l
  obtain ⟨P1, hP1⟩ : ∃ P, P = (h.drop 1).take 4 := ⟨_, rfl⟩
  rw [← hP1] at HP1 HL1 h81 ⊢
  clear hP1
  have hreg := register_any b (some ⟨b, off + 1, Option.none⟩) (cap - 1) P1 4294967295 w HP1.out.src h81.out (by rw [HL1.out]; decide) (by omega) HT.out
  rw [HL1.out] at hreg
  have HR := Lib.hid hreg
  clear hreg
  go_enter Tryd.func25, Tryd.ntmps25
  go_wp2_with fail
  refine HR.out.mono ?_
  rintro x w' ⟨rfl, rfl⟩
  have hfl := fold_lt P1 4294967295 h81.out (by decide)
  have HFA := Lib.hid (fold_append 4294967295 P1 p)
  have HN := Lib.hid (not_crc (h81.out.append H82.out))
  rw [HFA.out] at HN
  generalize fold 4294967295 P1 = C at *
  go_wp2_with fail
  refine (register_any b2 a2 cap2 p C w HS2.out H82.out hl hfl HT.out).mono ?_
  rintro x w' ⟨rfl, rfl⟩
  have hfl2 := fold_lt p C H82.out hfl
  generalize fold C p = D at *
  go_wp2
  go_ret
  exact ⟨ret_int HN.out, rfl⟩
theorem or_add32 (Z y : Nat) (hZ : Z < 16777216) (hy : y < 256) : bits .or .u32 ((Z : Int) * 256) (y : Int) = ((Z * 256 + y : Nat) : Int) := by
  have := u32_or_nat (Z * 256) y (by omega) (by omega)
  rw [Int.natCast_mul] at this
  refine this.trans ?_
  congr 1
  have h2 := Nat.two_pow_add_eq_or_of_lt (i := 8) (b := y) (by omega) Z
  rw [show (2 : Nat) ^ 8 = 256 from rfl] at h2
  rw [Nat.mul_comm Z 256]; exact h2.symm
set_option maxHeartbeats 1000000 in
theorem readNumber_any (b : Nat) (a : Option Addr) (cap : Nat) (l : List Nat) (w : World) (hs : Src w b a cap l) (h8 : B8 l) (hl4 : 4 ≤ l.length) :
    Calls Tryd.prog 27 #[.slice a l.length cap] w fun e w' => e = .returned (.int .u32 (num (l.take 4))) ∧ w = w' := by
  obtain ⟨off, rfl, hc⟩ := hs.at_ (by omega)
  have hsh : Shows w b (some ⟨b, off, Option.none⟩) cap l := by
    rcases hs with h' | h'
    · exact h'
    · rw [h'.1] at hl4; simp at hl4
  have hcap : 4 ≤ cap := by have := hsh.1; omega
  have hcm := hsh.2.1
  have hlc := hsh.1
  have HC := Lib.hid hc
  have H8 := Lib.hid h8
  clear hs hsh hc h8
  go_enter Tryd.func27, Tryd.ntmps27
  go_wp2
  go_loop [3, 9] (fun z i => ∃ k Z : Nat, k ≤ 4 ∧ i = .int .i64 k ∧ z = .int .u32 Z ∧ Hid (Z = num (l.take k))) (fun _ i => 4 - (intOf i).toNat)
  case atStart => exact ⟨0, 0, by omega, rfl, rfl, rfl⟩
  case round =>
    obtain ⟨k, Z, hk, rfl, rfl, hz⟩ := hrel
    by_cases hlt : k < 4
    · have hcell := HC.out k (by omega)
      have hy := H8.out.get k
      have hsn := Lib.hid (num_snoc l k (by omega))
      have hZ : Z ≤ 16777215 := by
        rw [hz.out]
        have h1 := num_lt l H8.out k (by omega)
        have h2 : 256 ^ k ≤ 256 ^ 3 := Nat.pow_le_pow_right (by decide) (by omega)
        rw [show 256 ^ 3 = 16777216 from rfl] at h2
        omega
      generalize l.getD k 0 = y at *
      have HN := Lib.hid (or_add32 Z y (by omega) hy)
      go_wp2
      go_round
      case rel => exact ⟨k + 1, Z * 256 + y, by omega, by go_num, by rw [HN.out], by show _ = _; rw [hsn.out, hz.out]⟩
      case measure => simp [intOf]; omega
    · obtain rfl : k = 4 := by omega
      go_wp2
      go_ret
      exact ⟨ret_int (by rw [hz.out]), rfl⟩
end Go.Proofs.YtfbibmdjahfneaaDoor.Fr
