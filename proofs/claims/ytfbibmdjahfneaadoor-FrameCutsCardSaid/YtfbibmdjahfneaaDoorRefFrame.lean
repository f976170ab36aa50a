/- Walks of the reference's High (four bytes), Number, Seal. -/
import Derived.Test.YtfbibmdjahfneaaDoorRefSum
import Derived.Test.YtfbibmdjahfneaaDoorFrames
namespace Go.Proofs.YtfbibmdjahfneaaDoor.Fr
open Go Go.RowKit Mem Kp
theorem four_up (X j : Nat) (hj : j < 4) : (X : Int) / 2 ^ (8 * j) % 256 = (((be4 X).getD (3 - j) 0 : Nat) : Int) := by
  rcases j with _ | _ | _ | _ | j <;> simp [be4] <;> omega
theorem four_take (X j : Nat) (hj : j < 4) : (be4 X).take j ++ [(be4 X).getD j 0] = (be4 X).take (j + 1) := by
  have h : j < (be4 X).length := hj
  rw [List.take_succ_eq_append_getElem h]
  simp [h]
set_option maxHeartbeats 1000000 in
theorem High4_any (X : Nat) (w : World) :
    Calls Tryd.prog 26 #[.int .u64 X, .int .i64 4] w (NewB (be4 X) w) := by
  obtain ⟨i0, hi, hz0, hz1, hz2⟩ := info_parts infoU8
  go_enter Tryd.func26, Tryd.ntmps26
  go_wp2
  go_loopw [5, 6] (fun v i wr => ∃ (k : Nat) (q : Int), k ≤ 4 ∧ q = (k : Int) - 1 ∧ i = .int .i64 q ∧ Hid (Mine w wr v ((be4 X).take (4 - k)))) (fun _ i _ => (intOf i + 1).toNat)
  case atStart => exact ⟨4, 3, by omega, by omega, rfl, Mine.start w⟩
  case round =>
    obtain ⟨k, q, hk, hq, rfl, hm⟩ := hrel
    rcases Nat.eq_zero_or_pos k with rfl | hk0
    · obtain ⟨b, a, cap, rfl, ho, hb, hb2, hkk⟩ := hm.out
      obtain rfl : q = -1 := by omega
      have HO := Lib.hid ho
      clear ho hq
      go_wp2
      go_ret
      exact ⟨b, a, cap, rfl, HO.out, hb, hkk, hb2⟩
    · obtain ⟨j, rfl⟩ : ∃ j, k = j + 1 := ⟨k - 1, by omega⟩
      obtain rfl : q = (j : Int) := by omega
      obtain ⟨b, a, cap, rfl, ho, hb, hb2, hkk⟩ := hm.out
      have HO := Lib.hid ho
      have HK := Lib.hid hkk
      have hE : Hid ((be4 X).take (4 - (j + 1)) ++ [(be4 X).getD (3 - j) 0] = (be4 X).take (4 - j)) := by
        have := four_take X (3 - j) (by omega)
        rw [show 4 - (j + 1) = 3 - j by omega, show 4 - j = 3 - j + 1 by omega]
        exact this
      have hl7 : ((be4 X).take (4 - (j + 1))).length ≤ 4 := by rw [List.length_take]; show min _ 4 ≤ _; omega
      have HB := Lib.hid (four_up X j (by omega))
      clear ho hkk hq hm
      generalize (be4 X).take (4 - (j + 1)) = L at *
      generalize (be4 X).getD (3 - j) 0 = y at *
      go_wp2_with (at_builtin; refine wpList_append_bytes rfl _ _ 22 rfl 5 i0 Tryd.underlying22 hi hz0 hz1 hz2 b a cap L _ rfl (HO.out.kept ((Kept.refl None _).alloc _) (fun _ h => h)) rfl wr.heap.size _ 1 [y] 1 rfl (shows_lit wr _ _ _ HB.out) rfl (by omega) ?_)
      intro b' a' cap' w' h2 h3 h4 h5
      have H2 := Lib.hid h2
      have H3 := Lib.hid h3
      have H4 := Lib.hid h4
      clear h2 h3 h4 h5
      go_wp2
      go_roundw
      case rel => exact ⟨j, (j : Int) - 1, by omega, by omega, rfl, mine_append' hE.out (by simp) hb HK.out ((Kept.refl None _).alloc _) H2.out H3.out (H4.out.imp id (fun h => by simpa using h))⟩
      case measure => simp [intOf]
theorem num_snoc (l : List Nat) (k : Nat) (h : k < l.length) : num (l.take (k + 1)) = num (l.take k) * 256 + l.getD k 0 := by
  rw [List.take_succ_eq_append_getElem h]
  unfold num
  rw [List.foldl_append]
  simp [h]
theorem num_lt (l : List Nat) (h : B8 l) : ∀ k, k ≤ l.length → num (l.take k) < 256 ^ k := by
  intro k
  induction k with
  | zero => intro _; simp [num]
  | succ k ih =>
    intro hk
    rw [num_snoc l k hk, Nat.pow_succ]
    have := ih (by omega)
    have := h.get k
    omega
theorem or_add (Z y : Nat) (hZ : Z < 72057594037927936) (hy : y < 256) : bits .or .u64 ((Z : Int) * 256) (y : Int) = ((Z * 256 + y : Nat) : Int) := by
  have := u64_or_nat (Z * 256) y (by omega) (by omega)
  rw [Int.natCast_mul] at this
  refine this.trans ?_
  congr 1
  have h2 := Nat.two_pow_add_eq_or_of_lt (i := 8) (b := y) (by omega) Z
  rw [show (2 : Nat) ^ 8 = 256 from rfl] at h2
  rw [Nat.mul_comm Z 256]; exact h2.symm
set_option maxHeartbeats 1000000 in
theorem Number4_any (b : Nat) (a : Option Addr) (cap : Nat) (l : List Nat) (n : Nat) (w : World) (h : Src w b a cap l) (h8 : B8 l) (hl : l.length = n) (hn : n ≤ 4) :
    Calls Tryd.prog 29 #[.slice a n cap] w fun e w' => e = .returned (.int .u64 (num l)) ∧ w = w' := by
  subst hl
  have HS := Lib.hid h
  have H8 := Lib.hid h8
  clear h h8
  go_enter Tryd.func29, Tryd.ntmps29
  go_wp2
  go_loop [3, 4] (fun z i => ∃ k Z : Nat, k ≤ l.length ∧ i = .int .i64 k ∧ z = .int .u64 Z ∧ Hid (Z = num (l.take k))) (fun _ i => l.length - (intOf i).toNat)
  case atStart => exact ⟨0, 0, by omega, rfl, rfl, rfl⟩
  case round =>
    obtain ⟨k, Z, hk, rfl, rfl, hz⟩ := hrel
    by_cases hlt : k < l.length
    · obtain ⟨off, rfl, hc⟩ := HS.out.at_ (by omega)
      have hcell := hc k hlt
      have hy := H8.out.get k
      have hsn := Lib.hid (num_snoc l k hlt)
      have hZ : Z ≤ 16777215 := by
        rw [hz.out]
        have h1 := num_lt l H8.out k (by omega)
        have h2 : 256 ^ k ≤ 256 ^ 3 := Nat.pow_le_pow_right (by decide) (by omega)
        rw [show 256 ^ 3 = 16777216 from rfl] at h2
        omega
      clear hc
      generalize l.getD k 0 = y at *
      have HN := Lib.hid (or_add Z y (by omega) hy)
      go_wp2
      go_round
      case rel => exact ⟨k + 1, Z * 256 + y, by omega, by go_num, by rw [HN.out], by show _ = _; rw [hsn.out, hz.out]⟩
      case measure => simp [intOf]; omega
    · obtain rfl : k = l.length := by omega
      go_wp2
      go_ret
      have h1 := hz.out
      rw [List.take_length] at h1
      exact ⟨ret_int (by rw [h1]), rfl⟩
end Go.Proofs.YtfbibmdjahfneaaDoor.Fr
