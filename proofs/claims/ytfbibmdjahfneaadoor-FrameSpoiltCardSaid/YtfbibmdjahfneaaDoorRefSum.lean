/- The walk of the reference's Sum. -/
import Derived.Test.YtfbibmdjahfneaaDoorKeepB
import Derived.Test.YtfbibmdjahfneaaDoorCrc
import Derived.Laws.BitsAllLaws
namespace Go.Proofs.YtfbibmdjahfneaaDoor.Fr
open Go Go.RowKit Mem Kp
theorem bitsC_snoc (n : Nat) : ∀ c y, bitsC (n + 1) c y = bitC (bitsC n c y) (y / 2 ^ n % 2) := by
  induction n with
  | zero => intro c y; show bitC c (y % 2) = bitC c (y / 1 % 2); rw [Nat.div_one]
  | succ n ih =>
    intro c y
    show bitsC (n + 1) (bitC c (y % 2)) (y / 2) = _
    rw [ih, Nat.div_div_eq_div_mul, ← Nat.pow_succ']
    rfl
theorem fold_take {l : List Nat} {k : Nat} (h : k < l.length) (c : Nat) : fold c (l.take (k + 1)) = byteC (fold c (l.take k)) (l.getD k 0) := by
  rw [List.take_succ_eq_append_getElem h, fold_append]
  simp [h, fold]
theorem and1_u32 (a : Nat) (h : a < 4294967296) : bits .and .u32 (a : Int) 1 = ((a % 2 : Nat) : Int) := by
  have := u32_and_nat a 1 h (by omega)
  rw [show (1 : Int) = ((1 : Nat) : Int) from rfl, this]
  congr 1
  exact Nat.and_two_pow_sub_one_eq_mod a 1
theorem low_walk (D y n : Nat) (hD : D ≤ 4294967295) (hy : y < 256) :
    (bits .xor .u32 (bits .and .u32 (D : Int) 1) (bits .and .u32 ((y : Int) / 2 ^ n % 4294967296) 1) == 1) = decide ((D % 2 + y / 2 ^ n % 2) % 2 = 1) := by
  have e1 : (y : Int) / 2 ^ n % 4294967296 = ((y / 2 ^ n : Nat) : Int) := by
    have h1 : y / 2 ^ n ≤ y := Nat.div_le_self _ _
    have h2 : (y : Int) / 2 ^ n = ((y / 2 ^ n : Nat) : Int) := by
      rw [Int.natCast_ediv, Int.natCast_pow]; rfl
    rw [h2]
    generalize y / 2 ^ n = q at h1
    omega
  have h1 : y / 2 ^ n ≤ y := Nat.div_le_self _ _
  rw [e1, and1_u32 D (by omega), and1_u32 _ (by omega)]
  have := u32_xor_nat (D % 2) (y / 2 ^ n % 2) (by omega) (by omega)
  rw [this]
  rcases Nat.mod_two_eq_zero_or_one D with h | h <;> rcases Nat.mod_two_eq_zero_or_one (y / 2 ^ n) with h' | h' <;> rw [h, h'] <;> rfl
theorem half_walk (D : Nat) (hD : D ≤ 4294967295) : bits .xor .u32 ((D : Int) / 2) 3988292384 = (((D / 2) ^^^ poly : Nat) : Int) := by
  have := u32_xor_nat (D / 2) 3988292384 (by omega) (by omega)
  rw [show (D : Int) / 2 = ((D / 2 : Nat) : Int) by omega]
  exact this
theorem bitC_lt {c b : Nat} (hc : c ≤ 4294967295) : bitC c b ≤ 4294967295 := by
  unfold bitC
  split
  · have := Nat.xor_lt_two_pow (n := 32) (x := c / 2) (y := poly) (by omega) (by decide)
    omega
  · omega
set_option maxHeartbeats 1000000 in
theorem refSum_any (b : Nat) (a : Option Addr) (cap : Nat) (l : List Nat) (w : World) (h : Src w b a cap l) (h8 : B8 l) (hl : l.length ≤ 35184372088832) :
    Calls Tryd.prog 17 #[.slice a l.length cap] w fun e w' => e = .returned (.int .u32 (crc l)) ∧ w = w' := by
  have HS := Lib.hid h
  have H8 := Lib.hid h8
  clear h h8
  go_enter Tryd.func17, Tryd.ntmps17
  go_wp2
  go_loop [3, 4] (fun c i => ∃ k C : Nat, k ≤ l.length ∧ i = .int .i64 k ∧ c = .int .u32 C ∧ C ≤ 4294967295 ∧ Hid (C = fold 4294967295 (l.take k))) (fun _ i => l.length - (intOf i).toNat)
  case atStart => exact ⟨0, 4294967295, by omega, rfl, rfl, by omega, rfl⟩
  case round =>
    obtain ⟨k, C, hk, rfl, rfl, hC, hf⟩ := hrel
    by_cases hlt : k < l.length
    · obtain ⟨off, rfl, hc⟩ := HS.out.at_ (by omega)
      have hcell := hc k hlt
      have hy := H8.out.get k
      have HF := Lib.hid (fold_take hlt 4294967295)
      clear hc
      generalize l.getD k 0 = y at *
      go_wp2
      go_loop [3, 5] (fun c j => ∃ n D : Nat, n ≤ 8 ∧ j = .int .i64 n ∧ c = .int .u32 D ∧ D ≤ 4294967295 ∧ Hid (D = bitsC n C y)) (fun _ j => 8 - (intOf j).toNat)
      case atStart => exact ⟨0, C, by omega, rfl, rfl, hC, rfl⟩
      case round =>
        obtain ⟨n, D, hn, rfl, rfl, hD, hb⟩ := hrel
        by_cases hlt2 : n < 8
        · have HQ := Lib.hid (low_walk D y n hD hy)
          have HX := Lib.hid (half_walk D hD)
          have HS2 := Lib.hid (bitsC_snoc n C y)
          have HL := Lib.hid (bitC_lt (c := D) (b := y / 2 ^ n % 2) hD)
          obtain ⟨q, hq⟩ : ∃ q, (bits .xor .u32 (bits .and .u32 (D : Int) 1) (bits .and .u32 ((y : Int) / 2 ^ n % 4294967296) 1) == 1) = q := ⟨_, rfl⟩
          have HQ2 := Lib.hid hq
          cases q
          · go_wp2
            go_round
            case rel =>
              have h1 : bitC D (y / 2 ^ n % 2) = D / 2 := by
                unfold bitC
                rw [if_neg]
                have h2 := HQ.out
                rw [HQ2.out] at h2
                simpa using h2
              exact ⟨n + 1, D / 2, by omega, by go_num, by go_num, by omega, by show _ = _; rw [HS2.out, ← hb.out, h1]⟩
            case measure => simp [intOf]; omega
          · go_wp2
            go_round
            case rel =>
              have h1 : bitC D (y / 2 ^ n % 2) = (D / 2) ^^^ poly := by
                unfold bitC
                rw [if_pos]
                have h2 := HQ.out
                rw [HQ2.out] at h2
                simpa using h2
              have h3 := HL.out
              rw [h1] at h3
              exact ⟨n + 1, (D / 2) ^^^ poly, by omega, by go_num, by rw [HX.out], h3, by show _ = _; rw [HS2.out, ← hb.out, h1]⟩
            case measure => simp [intOf]; omega
        · obtain rfl : n = 8 := by omega
          go_wp2
          go_round
          case rel => exact ⟨k + 1, D, by omega, by go_num, rfl, hD, by show _ = _; rw [HF.out, byteC_bits _ _ hy, ← hf.out]; exact hb.out⟩
          case measure => simp [intOf]; omega
    · obtain rfl : k = l.length := by omega
      go_wp2
      go_ret
      have h1 := hf.out
      rw [List.take_length] at h1
      refine ⟨ret_int ?_, rfl⟩
      have := u32_xor_nat 4294967295 C (by omega) (by omega)
      rw [show IntKind.u32.max = ((4294967295 : Nat) : Int) from rfl, this, Nat.xor_comm]
      unfold crc
      rw [h1]
end Go.Proofs.YtfbibmdjahfneaaDoor.Fr
