import Derived.Test.YtaifjkilmdnfbaaLogCode5
import Derived.Test.YtaifjkilmdnfbaaMergeLgF
import Derived.Lib.MinMax
/- The reference: row. -/
namespace Go.Proofs.Ytaifjkilmdnfbaa.Lg
open Go Go.RowKit Vl Kv Ss Cn Mem Li Nm
attribute [local go_sem] Nm.run_bits Nm.run_frombits run_store_float
attribute [local irreducible] wpQuiet
set_option maxHeartbeats 3200000 in
set_option maxRecDepth 100000 in
theorem rrow_any (a : Option Addr) (cap : Nat) (L : List E) (ahead most : Int) (w : World) (h : EntAt w a cap L) :
    Calls Try.prog 55 #[.slice a L.length cap, .int .i64 ahead, .int .i64 most] w fun e w' => e = .returned (.bool (rowOk L ahead most)) ∧ Below w.heap.size w w' := by
  have HI := Lib.hid h
  have hmx : L.length ≤ 9223372036854775807 := Nat.le_trans h.len h.max
  clear h
  have HS : Hid (∀ k, k < L.length → ∀ prev, rowOk (L.drop k) prev most = (decide (max prev 1 ≤ (L.getD k E.zero).term) && decide ((L.getD k E.zero).term ≤ most) && (L.getD k E.zero).right && rowOk (L.drop (k + 1)) (L.getD k E.zero).term most)) := fun k hk prev => row_step hk prev most
  go_enter Try.func55, Try.ntmps55
  go_wp2
  go_loopw [1, 7] (fun s i wr => ∃ (k : Nat) (prev : Int), k ≤ L.length ∧ i = .int .i64 k ∧ s = .int .i64 prev ∧ Hid (rowOk L ahead most = rowOk (L.drop k) prev most) ∧ Hid (Kv.Beh w wr)) (fun _ i _ => L.length - (intOf i).toNat)
  case atStart => exact ⟨0, ahead, by omega, rfl, rfl, rfl, Beh.start _⟩
  case round =>
    obtain ⟨k, prev, hk, rfl, rfl, HR, HW⟩ := hrel
    by_cases hlt : k < L.length
    · have HS := Lib.hid (HR.out.trans (HS.out k hlt prev))
      clear HR
      obtain ⟨bb, off, rfl, _⟩ := HI.out.at_ (by omega)
      have HC : Hid (∀ W, Kv.Beh w W → E.Cells W bb (off + k * 16) (L.getD k E.zero)) := fun W hW => by
        obtain ⟨_, _, he, hc⟩ := (HI.out.below hW).at_ (by omega)
        cases he
        have := hc k hlt
        rw [show L.getD k E.zero = L[k] by simp [hlt]]
        exact cells_of this
      generalize L.getD k E.zero = x at *
      have HF := fun w => Lib.hid (rwithin_any x.term (max prev 1) most w)
      have HE := fun w => Lib.hid (rEntry_any x w)
      obtain ⟨c0, c1, c2, c3, c4, c5, c6, c7, c8, c9, c10, c11, c12, c13, c14, c15⟩ := HC.out _ HW.out
      cases x1 : (decide (max prev 1 ≤ x.term) && decide (x.term ≤ most))
      · simp only [x1] at HF
        go_wp2_with (first
          | (go_at_call 54; refine ((HF _).out).mono ?_; rintro e w' ⟨rfl, rfl⟩))
        go_ret
        exact ⟨ret_bool (by rw [HS.out, x1]; rfl), HW.out⟩
      · simp only [x1] at HF
        cases x2 : x.right
        · simp only [x2] at HE
          go_wp2_with (first
            | (go_at_call 54; refine ((HF _).out).mono ?_; rintro e w' ⟨rfl, rfl⟩)
            | (go_at_call 67; refine ((HE _).out).mono ?_; rintro e w' ⟨rfl, hb⟩; (have HW := Lib.hid (HW.out.on hb)); clear hb))
          go_ret
          exact ⟨ret_bool (by rw [HS.out, x1, x2]; rfl), HW.out⟩
        · simp only [x2] at HE
          go_wp2_with (first
            | (go_at_call 54; refine ((HF _).out).mono ?_; rintro e w' ⟨rfl, rfl⟩)
            | (go_at_call 67; refine ((HE _).out).mono ?_; rintro e w' ⟨rfl, hb⟩; (have HW := Lib.hid (HW.out.on hb)); clear hb; (obtain ⟨c0, c1, c2, c3, c4, c5, c6, c7, c8, c9, c10, c11, c12, c13, c14, c15⟩ := HC.out _ HW.out)))
          go_roundw
          case rel => exact ⟨k + 1, x.term, by omega, by go_num, rfl, by show _ = _; rw [HS.out, x1, x2]; rfl, HW.out⟩
          case measure => simp [intOf]; omega
    · obtain rfl : k = L.length := by omega
      go_wp2
      go_ret
      exact ⟨ret_bool (by rw [HR.out, List.drop_length]; rfl), HW.out⟩
end Go.Proofs.Ytaifjkilmdnfbaa.Lg
