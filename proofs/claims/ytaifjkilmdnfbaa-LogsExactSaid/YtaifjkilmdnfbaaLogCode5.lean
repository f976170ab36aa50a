import Derived.Test.YtaifjkilmdnfbaaLogCode4
import Derived.Test.YtaifjkilmdnfbaaMergeLgC
import Derived.Lib.MinMax
/- Package logs: couldStand. -/
namespace Go.Proofs.Ytaifjkilmdnfbaa.Lg
open Go Go.RowKit Vl Kv Ss Cn Mem Li Nm
attribute [local go_sem] Nm.run_bits Nm.run_frombits run_store_float
attribute [local irreducible] wpQuiet

theorem row_step {L : List E} {k : Nat} (hk : k < L.length) (prev most : Int) : rowOk (L.drop k) prev most = (decide (max prev 1 ≤ (L.getD k E.zero).term) && decide ((L.getD k E.zero).term ≤ most) && (L.getD k E.zero).right && rowOk (L.drop (k + 1)) (L.getD k E.zero).term most) := by
  rw [List.drop_eq_getElem_cons hk]
  have : L.getD k E.zero = L[k] := by simp [hk]
  rw [this]
  rfl
set_option maxHeartbeats 3200000 in
set_option maxRecDepth 100000 in
theorem couldStand_any (a : Option Addr) (cap : Nat) (L : List E) (ahead most : Int) (w : World) (h : EntAt w a cap L) :
    Calls Try.prog 53 #[.slice a L.length cap, .int .i64 ahead, .int .i64 most] w fun e w' => e = .returned (.bool (rowOk L ahead most)) ∧ Below w.heap.size w w' := by
  have HI := Lib.hid h
  have hmx : L.length ≤ 9223372036854775807 := Nat.le_trans h.len h.max
  clear h
  have HS : Hid (∀ k, k < L.length → ∀ prev, rowOk (L.drop k) prev most = (decide (max prev 1 ≤ (L.getD k E.zero).term) && decide ((L.getD k E.zero).term ≤ most) && (L.getD k E.zero).right && rowOk (L.drop (k + 1)) (L.getD k E.zero).term most)) := fun k hk prev => row_step hk prev most
  go_enter Try.func53, Try.ntmps53
  go_wp2
  go_loopw [7, 9, 14] (fun s _ i wr => ∃ (k : Nat) (prev least : Int), k ≤ L.length ∧ i = .int .i64 k ∧ s = .int .i64 least ∧ Hid (least = max prev 1) ∧ Hid (rowOk L ahead most = rowOk (L.drop k) prev most) ∧ Hid (Kv.Beh w wr)) (fun _ _ i _ => L.length - (intOf i).toNat)
  case atStart => exact ⟨0, ahead, max ahead 1, by omega, rfl, by first | rfl | (congr 1; omega), rfl, rfl, Beh.start _⟩
  case round =>
    obtain ⟨k, prev, least, hk, rfl, rfl, HM, HR, HW⟩ := hrel
    by_cases hlt : k < L.length
    · have HS := Lib.hid (HR.out.trans (HS.out k hlt prev))
      rw [← HM.out] at HS
      clear HR
      obtain ⟨bb, off, rfl, _⟩ := HI.out.at_ (by omega)
      have HC : Hid (∀ W, Kv.Beh w W → W.rangeAt bb (off + k * 16) (L.getD k E.zero).cells) := fun W hW => by
        obtain ⟨_, _, he, hc⟩ := (HI.out.below hW).at_ (by omega)
        cases he
        have := hc k hlt
        rw [show L.getD k E.zero = L[k] by simp [hlt]]
        exact this
      generalize L.getD k E.zero = x at *
      have HF := fun w => Lib.hid (isFrom_any x.term least most w)
      have HE := fun w => Lib.hid (isRight_any x w)
      have HX := Lib.hid (Bh.Bx.one wr E.zero.obj)
      cases x1 : (decide (least ≤ x.term) && decide (x.term ≤ most))
      · simp only [x1] at HF
        go_wp2_with (first
          | (refine wpList_load_mid rfl _ _ rfl _ _ rfl x.cells _ (HC.out _ HW.out) Try.underlying40 rfl (by kernel_rfl) ?_)
          | (apply Bh.store_bx 16 0 HX.out; rfl; rfl; rfl; rfl; rfl; rfl; kernel_rfl; rfl; rfl; intro wz hz; have HX := Lib.hid hz; clear hz; (obtain ⟨x0, _⟩ := cells16 HX.out.b0))
          | (go_at_call 64; refine ((HF _).out).mono ?_; rintro e w' ⟨rfl, rfl⟩))
        go_ret
        exact ⟨ret_bool (by rw [HS.out, x1]; rfl), HW.out.trans HX.out.beh⟩
      · simp only [x1] at HF
        have hl1 : least ≤ x.term := by rw [Bool.and_eq_true] at x1; exact of_decide_eq_true x1.1
        have HX1 : Hid (max x.term 1 = x.term) := by show max x.term 1 = x.term; rw [HM.out] at hl1; omega
        clear hl1
        cases x2 : x.right
        · simp only [x2] at HE
          go_wp2_with (first
            | (refine wpList_load_mid rfl _ _ rfl _ _ rfl x.cells _ (HC.out _ HW.out) Try.underlying40 rfl (by kernel_rfl) ?_)
            | (apply Bh.store_bx 16 0 HX.out; rfl; rfl; rfl; rfl; rfl; rfl; kernel_rfl; rfl; rfl; intro wz hz; have HX := Lib.hid hz; clear hz; (obtain ⟨x0, _⟩ := cells16 HX.out.b0))
            | (apply Bh.load_bx 0 HX.out Try.underlying40; rfl; rfl; rfl; rfl; rfl; kernel_rfl)
            | (go_at_call 64; refine ((HF _).out).mono ?_; rintro e w' ⟨rfl, rfl⟩)
            | (go_at_call 66; refine ((HE _).out).mono ?_; rintro e w' ⟨rfl, hb⟩; (have HX := Lib.hid (HX.out.on hb)); clear hb))
          go_ret
          exact ⟨ret_bool (by rw [HS.out, x1, x2]; rfl), HW.out.trans HX.out.beh⟩
        · simp only [x2] at HE
          go_wp2_with (first
            | (refine wpList_load_mid rfl _ _ rfl _ _ rfl x.cells _ (HC.out _ HW.out) Try.underlying40 rfl (by kernel_rfl) ?_)
            | (apply Bh.store_bx 16 0 HX.out; rfl; rfl; rfl; rfl; rfl; rfl; kernel_rfl; rfl; rfl; intro wz hz; have HX := Lib.hid hz; clear hz; (obtain ⟨x0, _⟩ := cells16 HX.out.b0))
            | (apply Bh.load_bx 0 HX.out Try.underlying40; rfl; rfl; rfl; rfl; rfl; kernel_rfl)
            | (go_at_call 64; refine ((HF _).out).mono ?_; rintro e w' ⟨rfl, rfl⟩)
            | (go_at_call 66; refine ((HE _).out).mono ?_; rintro e w' ⟨rfl, hb⟩; (have HX := Lib.hid (HX.out.on hb)); clear hb; (obtain ⟨x0, _⟩ := cells16 HX.out.b0)))
          go_roundw
          case rel => exact ⟨k + 1, x.term, x.term, by omega, by go_num, rfl, HX1.out.symm, by show _ = _; rw [HS.out, x1, x2]; rfl, HW.out.trans HX.out.beh⟩
          case measure => simp [intOf]; omega
    · obtain rfl : k = L.length := by omega
      go_wp2
      go_ret
      exact ⟨ret_bool (by rw [HR.out, List.drop_length]; rfl), HW.out⟩
end Go.Proofs.Ytaifjkilmdnfbaa.Lg
