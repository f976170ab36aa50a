import Derived.Test.YtaifjkilmdnfbaaMergeLgC
/- Package logs: countThere. -/
namespace Go.Proofs.Ytaifjkilmdnfbaa.Lg
open Go Go.RowKit Vl Kv Ss Cn Mem Li Nm
attribute [local go_sem] Nm.run_bits Nm.run_frombits run_store_float
attribute [local irreducible] wpQuiet
theorem there_le_l (T l : List E) : there T l ≤ l.length := by
  induction T generalizing l with
  | nil => unfold there; exact Nat.zero_le _
  | cons x r ih =>
    cases l with
    | nil => unfold there; exact Nat.zero_le _
    | cons y s =>
      show (if y.term = x.term then there r s + 1 else 0) ≤ _
      split
      · have := ih s; simp; exact this
      · exact Nat.zero_le _
theorem there_le_T (T l : List E) : there T l ≤ T.length := by
  induction T generalizing l with
  | nil => exact Nat.le_refl _
  | cons x r ih =>
    cases l with
    | nil => exact Nat.zero_le _
    | cons y s =>
      show (if y.term = x.term then there r s + 1 else 0) ≤ _
      split
      · have := ih s; simp; exact this
      · exact Nat.zero_le _
theorem there_more {T l : List E} {k : Nat} (hT : k < T.length) (hl : k < l.length) (h : (l.getD k E.zero).term = (T.getD k E.zero).term) : there (T.drop k) (l.drop k) = there (T.drop (k + 1)) (l.drop (k + 1)) + 1 := by
  rw [List.drop_eq_getElem_cons hT, List.drop_eq_getElem_cons hl]
  show (if l[k].term = T[k].term then _ else _) = _
  rw [if_pos (by simpa [hT, hl] using h)]
theorem there_stop {T l : List E} {k : Nat} (hT : k < T.length) (hl : k < l.length) (h : (l.getD k E.zero).term ≠ (T.getD k E.zero).term) : there (T.drop k) (l.drop k) = 0 := by
  rw [List.drop_eq_getElem_cons hT, List.drop_eq_getElem_cons hl]
  show (if l[k].term = T[k].term then _ else _) = _
  rw [if_neg (by simpa [hT, hl] using h)]
theorem there_end {T l : List E} {k : Nat} (h : T.length ≤ k ∨ l.length ≤ k) : there (T.drop k) (l.drop k) = 0 := by
  rcases h with h | h
  · rw [List.drop_eq_nil_of_le h]; unfold there; cases l.drop k <;> rfl
  · rw [List.drop_eq_nil_of_le h]; cases T.drop k <;> rfl
set_option maxHeartbeats 3200000 in
set_option maxRecDepth 100000 in
theorem countThere_any (a : Option Addr) (cap : Nat) (T : List E) (a2 : Option Addr) (cap2 : Nat) (l : List E) (w : World) (h : EntAt w a cap T) (h2 : EntAt w a2 cap2 l) (hl1 : T.length ≤ 100000) (hl2 : l.length ≤ 100000) :
    Calls Try.prog 61 #[.slice a T.length cap, .slice a2 l.length cap2] w fun e w' => e = .returned (.int .i64 (there T l : Nat)) ∧ Below w.heap.size w w' := by
  have HI := Lib.hid h
  have HJ := Lib.hid h2
  clear h h2
  go_enter Try.func61, Try.ntmps61
  go_wp2
  go_loopw [5] (fun i wr => ∃ k : Nat, k ≤ T.length ∧ k ≤ l.length ∧ i = .int .i64 k ∧ Hid (there T l = k + there (T.drop k) (l.drop k)) ∧ Hid (∃ n, wr = w.drewN n)) (fun i _ => l.length - (intOf i).toNat)
  case atStart => exact ⟨0, by omega, by omega, rfl, by show _ = _; simp, ⟨0, rfl⟩⟩
  case round =>
    obtain ⟨k, hk, hk2, rfl, HR, HW⟩ := hrel
    obtain ⟨n, rfl⟩ := HW.out
    by_cases hlt2 : k < l.length
    · by_cases hlt : k < T.length
      · obtain ⟨cS, oS, rfl, hc⟩ := EntAt.cells HI.out (by omega)
        obtain ⟨cT, oT, rfl, hd⟩ := EntAt.cells HJ.out (by omega)
        have c0 := (hc k hlt).c0
        have d0 := (hd k hlt2).c0
        have HM := Lib.hid (there_more hlt hlt2)
        have HS := Lib.hid (there_stop hlt hlt2)
        clear hc hd
        generalize T.getD k E.zero = x at *
        generalize l.getD k E.zero = y at *
        obtain ⟨q, hq⟩ : ∃ q, (y.term == x.term) = q := ⟨_, rfl⟩
        have HQ := Lib.hid hq
        cases q
        · go_wp2
          go_quiet (fail)
          go_wp2
          go_ret
          refine ⟨?_, Bh.below_drewN (Bh.below_drewN (Below.refl _ _) _) _⟩
          rw [HR.out, HS.out (by have := HQ.out; simpa using this)]
          rfl
        · go_wp2
          go_quiet (fail)
          go_wp2
          go_roundw
          case rel => exact ⟨k + 1, by omega, by omega, by go_num, by show _ = _; rw [HR.out, HM.out (by have := HQ.out; simpa using this)]; omega, ⟨_, by first | rfl | rw [World.drewN_drewN]⟩⟩
          case measure => simp [intOf]; omega
      · have HE := Lib.hid (there_end (T := T) (l := l) (k := k) (.inl (by omega)))
        have d1 : decide ((k : Int) < (T.length : Int)) = false := decide_eq_false (by omega)
        have d1b : decide (k < T.length) = false := decide_eq_false hlt
        go_wp2
        go_quiet (fail)
        go_wp2
        go_ret
        refine ⟨?_, Bh.below_drewN (Bh.below_drewN (Below.refl _ _) _) _⟩
        rw [HR.out, HE.out]
        rfl
    · have HE := Lib.hid (there_end (T := T) (l := l) (k := k) (.inr (by omega)))
      have d1 : decide ((k : Int) < (l.length : Int)) = false := decide_eq_false (by omega)
      have d1b : decide (k < l.length) = false := decide_eq_false hlt2
      go_wp2
      go_quiet (fail)
      go_wp2
      go_ret
      refine ⟨?_, Bh.below_drewN (Bh.below_drewN (Below.refl _ _) _) _⟩
      rw [HR.out, HE.out]
      rfl
end Go.Proofs.Ytaifjkilmdnfbaa.Lg
