/- The sum, four bits at a time by a table: package frame's register, and the table. -/
import Derived.Test.YtfbibmdjahfneaaDoorRefFrame
namespace Go.Proofs.YtfbibmdjahfneaaDoor.Fr
open Go Go.RowKit Mem Kp
def half (i : Nat) : Nat := [0, 498536548, 997073096, 651767980, 1994146192, 1802195444, 1303535960, 1342533948, 3988292384, 4027552580, 3604390888, 3412177804, 2607071920, 2262029012, 2685067896, 3183342108].getD i 0
theorem half_all : ∀ i : Fin 16, TN 4 i.val = half i.val := by decide +kernel
theorem half_lt_all : ∀ i : Fin 16, half i.val < 4294967296 := by decide +kernel
theorem half_TN {i : Nat} (h : i < 16) : TN 4 i = half i := half_all ⟨i, h⟩
theorem half_lt {i : Nat} (h : i < 16) : half i < 4294967296 := half_lt_all ⟨i, h⟩
theorem split16 (r : Nat) : r = 2 ^ 4 * (r / 16) ^^^ (r % 16) := by
  have hb : r % 16 < 2 ^ 4 := Nat.mod_lt _ (by decide)
  apply Nat.eq_of_testBit_eq
  intro i
  have e : r = 2 ^ 4 * (r / 16) + r % 16 := by omega
  rw [Nat.testBit_xor, Nat.testBit_two_pow_mul]
  conv => lhs; rw [e]
  rw [Nat.testBit_two_pow_mul_add _ hb]
  by_cases h : i < 4
  · rw [if_pos h]
    simp [show ¬ 4 ≤ i by omega]
  · rw [if_neg h]
    have : (r % 16).testBit i = false := Nat.testBit_lt_two_pow (Nat.lt_of_lt_of_le hb (Nat.pow_le_pow_right (by decide : 0 < 2) (by omega : 4 ≤ i)))
    rw [this]
    simp [show 4 ≤ i by omega]
theorem nib (r : Nat) : TN 4 r = (r / 16) ^^^ half (r % 16) := by
  conv => lhs; rw [split16 r]
  rw [TN_xor, TN_pow, half_TN (Nat.mod_lt _ (by decide))]
theorem nibs (c b : Nat) : byteC c b = TN 4 (TN 4 (c ^^^ b)) := TN_add 4 4 _
/-- the table, in a world -/
def Tab (w : World) : Prop := ∀ k, k < 16 → w.cell? ⟨0, k, none⟩ = some (.int .u32 (half k))
theorem Tab.kept {w w' : World} (h : Tab w) (hk : Kept None w w') : Tab w' := fun k hlt => by
  have hb := World.block_lt_of_cell? w _ (h k hlt)
  exact (hk.cell hb (fun h => h)).trans (h k hlt)
theorem Tab.heap {w w' : World} (h : Tab w) (hw : w'.heap = w.heap) : Tab w' := fun k hlt => by
  have := h k hlt
  unfold World.cell? at *; rw [hw]; exact this
theorem tabH {w : World} (h : Hid (Tab w)) : Tab w := h.out
theorem tabK {w w' : World} (hk : Hid (Kept None w w')) (h : Hid (Tab w)) : Tab w' := h.out.kept hk.out
theorem tabD {w w' : World} (hk : Hid (Kept None w w')) (h : Hid (Tab w)) (n : Nat) : Tab (w'.drewN n) := h.out.kept (hk.out.drewN n)
theorem and15 (a : Nat) (h : a < 4294967296) : bits .and .u32 (a : Int) 15 = ((a % 16 : Nat) : Int) := by
  have := u32_and_nat a 15 h (by omega)
  rw [show (15 : Int) = ((15 : Nat) : Int) from rfl, this]
  congr 1
  exact Nat.and_two_pow_sub_one_eq_mod a 4
theorem xor_walk (a b : Nat) (ha : a < 4294967296) (hb : b < 4294967296) : bits .xor .u32 (a : Int) (b : Int) = ((a ^^^ b : Nat) : Int) := u32_xor_nat a b ha hb
theorem xor_le {a b : Nat} (ha : a < 4294967296) (hb : b < 4294967296) : a ^^^ b < 4294967296 := Nat.xor_lt_two_pow (n := 32) ha hb
set_option maxHeartbeats 2000000 in
theorem register_any (b : Nat) (a : Option Addr) (cap : Nat) (l : List Nat) (r : Nat) (w : World) (h : Src w b a cap l) (h8 : B8 l) (hl : l.length ≤ 9223372036854775807) (hr : r < 4294967296) (hT : Tab w) :
    Calls Tryd.prog 30 #[.int .u32 r, .slice a l.length cap] w fun e w' => e = .returned (.int .u32 (fold r l)) ∧ w = w' := by
  have HS := Lib.hid h
  have H8 := Lib.hid h8
  have HT := Lib.hid hT
  clear h h8 hT
  go_enter Tryd.func30, Tryd.ntmps30
  go_wp2
  go_loop [0, 9] (fun c i => ∃ k C : Nat, k ≤ l.length ∧ i = .int .i64 k ∧ c = .int .u32 C ∧ C < 4294967296 ∧ Hid (C = fold r (l.take k))) (fun _ i => l.length - (intOf i).toNat)
  case atStart => exact ⟨0, r, by omega, rfl, rfl, hr, rfl⟩
  case round =>
    obtain ⟨k, C, hk, rfl, rfl, hC, hf⟩ := hrel
    by_cases hlt : k < l.length
    · obtain ⟨off, rfl, hc⟩ := HS.out.at_ (by omega)
      have hcell := hc k hlt
      have hy := H8.out.get k
      have HF := Lib.hid (fold_take hlt r)
      clear hc
      generalize l.getD k 0 = y at *
      obtain ⟨D, hD⟩ : ∃ D, D = C ^^^ y := ⟨_, rfl⟩
      have e1 : bits .xor .u32 (C : Int) (y : Int) = (D : Int) := by rw [hD]; exact xor_walk C y hC (by omega)
      have hDl : D < 4294967296 := by rw [hD]; exact xor_le hC (by omega)
      obtain ⟨N1, hN1⟩ : ∃ N1, N1 = D % 16 := ⟨_, rfl⟩
      have l1 : N1 < 16 := by omega
      have e2 : bits .and .u32 (D : Int) 15 = (N1 : Int) := by rw [hN1]; exact and15 D hDl
      obtain ⟨E, hE⟩ : ∃ E, E = (D / 16) ^^^ half N1 := ⟨_, rfl⟩
      have c1 := HT.out N1 l1
      have k1 := half_lt l1
      have hEl : E < 4294967296 := by rw [hE]; exact xor_le (by omega) k1
      have e3 : bits .xor .u32 ((D : Int) / 16) (half N1 : Int) = (E : Int) := by rw [hE, show (D : Int) / 16 = ((D / 16 : Nat) : Int) by omega]; exact xor_walk _ _ (by omega) k1
      obtain ⟨N2, hN2⟩ : ∃ N2, N2 = E % 16 := ⟨_, rfl⟩
      have l2 : N2 < 16 := by omega
      have e4 : bits .and .u32 (E : Int) 15 = (N2 : Int) := by rw [hN2]; exact and15 E hEl
      obtain ⟨G, hG⟩ : ∃ G, G = (E / 16) ^^^ half N2 := ⟨_, rfl⟩
      have c2 := HT.out N2 l2
      have k2 := half_lt l2
      have hGl : G < 4294967296 := by rw [hG]; exact xor_le (by omega) k2
      have e5 : bits .xor .u32 ((E : Int) / 16) (half N2 : Int) = (G : Int) := by rw [hG, show (E : Int) / 16 = ((E / 16 : Nat) : Int) by omega]; exact xor_walk _ _ (by omega) k2
      have HGB : Hid (G = byteC C y) := by
        show G = byteC C y
        rw [nibs, nib (C ^^^ y), ← hD, ← hN1, ← hE, nib E, ← hN2, hG]
      clear hD hN1 hE hN2 hG
      generalize half N1 = H1 at *
      generalize half N2 = H2 at *
      go_wp2
      go_round
      case rel => exact ⟨k + 1, G, by omega, by go_num, rfl, hGl, by show _ = _; rw [HF.out, ← hf.out]; exact HGB.out⟩
      case measure => simp [intOf]; omega
    · obtain rfl : k = l.length := by omega
      go_wp2
      go_ret
      have h1 := hf.out
      rw [List.take_length] at h1
      exact ⟨ret_int (by rw [h1]), rfl⟩
end Go.Proofs.YtfbibmdjahfneaaDoor.Fr
