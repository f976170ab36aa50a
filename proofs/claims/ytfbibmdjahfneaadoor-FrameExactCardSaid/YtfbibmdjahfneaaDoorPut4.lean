/- The walk of package frame's writeNumber: four bytes of the call's own are written over. -/
import Derived.Test.YtfbibmdjahfneaaDoorParts
namespace Go.Proofs.YtfbibmdjahfneaaDoor.Fr
open Go Go.RowKit Mem Kp
theorem put_next (A B D : List Nat) (X k : Nat) (hB : B.length = 4) (hk : k < 4) : (A ++ ((be4 X).take k ++ (B.drop k ++ D))).set (A.length + k) ((be4 X).getD k 0) = A ++ ((be4 X).take (k + 1) ++ (B.drop (k + 1) ++ D)) := by
  rw [List.set_append_right _ _ (by omega), show A.length + k - A.length = k by omega]
  match B, hB with
  | [b0, b1, b2, b3], _ =>
    rcases k with _ | _ | _ | _ | k
    · rfl
    · rfl
    · rfl
    · rfl
    · omega
theorem put_len (A B D : List Nat) (X k : Nat) (hB : B.length = 4) (hk : k < 4) : A.length + k < (A ++ ((be4 X).take k ++ (B.drop k ++ D))).length := by
  simp [hB, be4]; omega
set_option maxHeartbeats 2000000 in
theorem writeNumber_any (b off n cap c0 : Nat) (A B D : List Nat) (X : Nat) (w : World) (ho : OwnB 5 w b (some ⟨b, 0, Option.none⟩) c0 (A ++ (B ++ D))) (hA : A.length = off) (hB : B.length = 4) (hn : 4 ≤ n) (hX : X < 4294967296) :
    Calls Tryd.prog 24 #[.slice (some ⟨b, off, Option.none⟩) n cap, .int .u32 X] w fun e w' => e = .returned (.tuple #[]) ∧ OwnB 5 w' b (some ⟨b, 0, Option.none⟩) c0 (A ++ (be4 X ++ D)) ∧ Kept (Only b) w w' := by
  subst hA
  have HO := Lib.hid ho
  have HB := Lib.hid hB
  clear ho hB
  go_enter Tryd.func24, Tryd.ntmps24
  go_wp2
  go_loopw [5] (fun i wr => ∃ k : Nat, k ≤ 4 ∧ i = .int .i64 k ∧ Hid (OwnB 5 wr b (some ⟨b, 0, Option.none⟩) c0 (A ++ ((be4 X).take k ++ (B.drop k ++ D))) ∧ Kept (Only b) w wr)) (fun i _ => 4 - (intOf i).toNat)
  case atStart => exact ⟨0, by omega, rfl, HO.out, Kept.refl _ _⟩
  case round =>
    obtain ⟨k, hk, rfl, hw⟩ := hrel
    by_cases hlt : k < 4
    · have hcell := hw.out.1.cellAt (A.length + k) (put_len A B D X k HB.out hlt)
      have hf : wr.frozen? ⟨b, A.length + k, Option.none⟩ = false := by
        rcases hw.out.1 with h | ⟨_, _, _, cur, hh, _⟩
        · cases h.1
        · exact frozen_heap hh _
      have HP := Lib.hid (put_next A B D X k HB.out hlt)
      generalize (A ++ ((be4 X).take k ++ (B.drop k ++ D))).getD (A.length + k) 0 = y at *
      have HN : Hid (∀ v : Int, v = (((be4 X).getD k 0 : Nat) : Int) → OwnB 5 (wr.setCell ⟨b, A.length + k, Option.none⟩ (.int .u8 v)) b (some ⟨b, 0, Option.none⟩) c0 (A ++ ((be4 X).take (k + 1) ++ (B.drop (k + 1) ++ D))) ∧ Kept (Only b) w (wr.setCell ⟨b, A.length + k, Option.none⟩ (.int .u8 v))) := fun v hv => by
        refine ⟨?_, hw.out.2.setAt (.inl rfl) _ _⟩
        rw [← HP.out]
        exact own_set hw.out.1 _ _ _ hv
      clear hw HP
      rcases k with _ | _ | _ | _ | k
      all_goals first | (exfalso; omega) | skip
      all_goals try simp only [Nat.add_zero, Nat.zero_add] at hcell hf
      all_goals go_wp2
      all_goals go_roundw
      case rel => exact ⟨1, by omega, by go_num, HN.out _ (by simp [be4]; try omega)⟩
      case rel => exact ⟨2, by omega, by go_num, HN.out _ (by simp [be4]; try omega)⟩
      case rel => exact ⟨3, by omega, by go_num, HN.out _ (by simp [be4]; try omega)⟩
      case rel => exact ⟨4, by omega, by go_num, HN.out _ (by simp [be4]; try omega)⟩
      all_goals simp [intOf]
    · obtain rfl : k = 4 := by omega
      go_wp2
      go_end0
      have h1 := hw.out.1
      have h2 : B.drop 4 = [] := List.drop_eq_nil_of_le (by rw [HB.out]; decide)
      rw [h2, List.nil_append] at h1
      exact ⟨rfl, h1, hw.out.2⟩
end Go.Proofs.YtfbibmdjahfneaaDoor.Fr
