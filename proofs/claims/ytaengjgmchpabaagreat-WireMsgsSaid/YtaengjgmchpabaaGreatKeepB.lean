import Derived.Test.YtaengjgmchpabaaGreatMergeWr13
/- The keeper's functions over bytes (Twin, Bytes, SpoilBytes). For stages 3 and up. -/
namespace Go.Proofs.YtaengjgmchpabaaGreat.Kp
open Go Go.RowKit Mem
attribute [local go_sem] eq_nil
set_option maxHeartbeats 400000 in
theorem Twin_any (b : Nat) (a : Option Addr) (cap : Nat) (l : List Nat) (w : World) (h : Src w b a cap l) (hl : l.length ≤ 35184372088832) :
    Calls Tryz.prog 8 #[.slice a l.length cap] w (NewB l w) := by
  obtain ⟨i0, hi, hz0, hz1, hz2⟩ := info_parts infoU8
  have HS := Lib.hid h
  have own0 : OwnB 5 w w.heap.size none 0 [] := OwnB.nil _ _ _
  clear h
  go_enter Tryz.func8, Tryz.ntmps8
  go_wp2_with (at_builtin; refine wpList_append_bytes rfl _ _ 25 rfl 5 i0 Tryz.underlying25 hi hz0 hz1 hz2 _ _ _ [] 0 rfl own0 rfl b _ cap l _ rfl HS.out rfl (by omega) ?_)
  intro b' a' cap' w' h2 h3 h4 h5
  try simp only [List.nil_append] at h2
  have HO := Lib.hid h2
  clear h2
  go_wp2
  go_ret
  have k1 : Kept None w w' := h3.mono of_none
  by_cases ha : a' = none
  · subst ha
    exact ⟨w.heap.size, none, cap', rfl, HO.out.move _, Nat.le_refl _, k1, k1.size⟩
  · have hb' : w.heap.size ≤ b' := by rcases h4 with ⟨rfl, _⟩ | h4 <;> omega
    exact ⟨b', a', cap', rfl, HO.out, hb', k1, Nat.le_of_lt (HO.out.lt ha)⟩
/-- what the comparison of bytes answers -/
def SameB (l m : List Nat) (w : World) (x : Ending) (w' : World) : Prop := x = .returned (.bool (decide (l = m))) ∧ ∃ n, w' = w.drewN n
theorem same_next {l m : List Nat} {k : Nat} (hk : k < l.length) (hm : k < m.length) (h : l.take k = m.take k) (he : l.getD k 0 = m.getD k 0) : l.take (k + 1) = m.take (k + 1) := by
  rw [List.take_succ_eq_append_getElem hk, List.take_succ_eq_append_getElem hm, h]
  simp [hk, hm] at he
  rw [he]
theorem not_same {l m : List Nat} {k : Nat} (h : ¬ l.getD k 0 = m.getD k 0) : decide (l = m) = false := by
  simp only [decide_eq_false_iff_not]
  intro e; subst e; exact h rfl
set_option maxHeartbeats 1000000 in
theorem KBytes_any (b : Nat) (a : Option Addr) (cap : Nat) (l : List Nat) (b2 : Nat) (a2 : Option Addr) (cap2 : Nat) (m : List Nat) (w : World) (h : Src w b a cap l) (h2 : Src w b2 a2 cap2 m) (hl : l.length ≤ 35184372088832) (hm : m.length ≤ 35184372088832) :
    Calls Tryz.prog 7 #[.slice a l.length cap, .slice a2 m.length cap2] w (SameB l m w) := by
  have HS := Lib.hid h
  have HS2 := Lib.hid h2
  clear h h2
  by_cases hlen : l.length = m.length
  · have HLEN := Lib.hid hlen
    have hne : ((l.length : Int) != m.length) = false := by simp [hlen]
    clear hlen
    go_enter Tryz.func7, Tryz.ntmps7
    go_wp2
    go_loopw [5] (fun i wr => ∃ k n : Nat, k ≤ l.length ∧ i = .int .i64 k ∧ Hid (l.take k = m.take k) ∧ wr = w.drewN n) (fun i _ => l.length - (intOf i).toNat)
    case atStart => exact ⟨0, 0, by omega, rfl, rfl, rfl⟩
    case round =>
      obtain ⟨k, n, hk, rfl, hs, rfl⟩ := hrel
      by_cases hlt : k < l.length
      · have hlt2 : k < m.length := by rw [← HLEN.out]; exact hlt
        obtain ⟨o1, rfl, c1⟩ := Src.at_ HS.out (by omega)
        obtain ⟨o2, rfl, c2⟩ := Src.at_ HS2.out (by omega)
        have d1 := c1 k hlt
        have d2 := c2 k hlt2
        clear c1 c2
        obtain ⟨q, hq⟩ : ∃ q, (((l.getD k 0 : Nat) : Int) != ((m.getD k 0 : Nat) : Int)) = q := ⟨_, rfl⟩
        have HQ := Lib.hid hq
        have hsn := Lib.hid (same_next hlt hlt2 hs.out)
        have hno := Lib.hid (not_same (l := l) (m := m) (k := k))
        generalize l.getD k 0 = y1 at *
        generalize m.getD k 0 = y2 at *
        cases q
        · go_wp2
          go_quiet (fail)
          go_wp2
          go_roundw
          case rel => exact ⟨k + 1, n + nq, by omega, by go_num, hsn.out (by have := HQ.out; simp at this; omega), by first | rfl | (rw [World.drewN_drewN])⟩
          case measure => simp [intOf]; omega
        · go_wp2
          go_quiet (fail)
          go_wp2
          go_ret
          exact ⟨ret_bool (hno.out (by have := HQ.out; simp at this; omega)).symm, n + nq, by first | rfl | (rw [World.drewN_drewN])⟩
      · obtain rfl : k = l.length := by omega
        go_wp2
        go_ret
        have e := hs.out
        rw [List.take_length, HLEN.out, List.take_length] at e
        exact ⟨ret_bool (by simp [e]), n, rfl⟩
  · have HLEN := Lib.hid hlen
    have hne : ((l.length : Int) != m.length) = true := by simp; omega
    clear hlen
    go_enter Tryz.func7, Tryz.ntmps7
    go_wp2
    go_ret
    exact ⟨ret_bool (by simp only [Bool.false_eq, decide_eq_false_iff_not]; intro e; exact HLEN.out (by rw [e])), 0, rfl⟩
set_option maxHeartbeats 2000000 in
theorem Spoil_any (b : Nat) (a : Option Addr) (cap : Nat) (l : List Nat) (w : World) (h : OwnB 5 w b a cap l) (hl : l.length ≤ 35184372088832) :
    Calls Tryz.prog 10 #[.slice a l.length cap] w (Spoilt b a cap l.length w) := by
  have HO := Lib.hid h
  clear h
  go_enter Tryz.func10, Tryz.ntmps10
  go_wp2
  go_loopw [2] (fun i wr => ∃ (k : Nat) (lr : List Nat), k ≤ l.length ∧ i = .int .i64 k ∧ Hid (lr.length = l.length ∧ OwnB 5 wr b a cap lr ∧ Kept (Of a b) w wr)) (fun i _ => l.length - (intOf i).toNat)
  case atStart => exact ⟨0, l, by omega, rfl, rfl, HO.out, Kept.refl _ _⟩
  case round =>
    obtain ⟨k, lr, hk, rfl, hw⟩ := hrel
    by_cases hlt : k < l.length
    · obtain rfl : a = some ⟨b, 0, Option.none⟩ := by
        rcases hw.out.2.1 with h | h
        · have h1 := hw.out.1
          rw [h.2.2] at h1; simp at h1; omega
        · exact h.1
      have hc := hw.out.2.1.cellAt k (by rw [hw.out.1]; exact hlt)
      have hf : wr.frozen? ⟨b, k, Option.none⟩ = false := by
        rcases hw.out.2.1 with h | ⟨_, _, _, cur, hh, _⟩
        · cases h.1
        · exact frozen_heap hh k
      obtain ⟨v, hv⟩ : ∃ v : Nat, v = ((lr.getD k 0) + 101) % 256 := ⟨_, rfl⟩
      have HV := Lib.hid hv
      clear hv
      generalize hy : lr.getD k 0 = y at *
      clear hy
      go_wp2
      go_roundw
      case rel => exact ⟨k + 1, lr.set k v, by omega, by go_num, by rw [List.length_set]; exact hw.out.1, own_set hw.out.2.1 k v _ (by have := HV.out; first | omega | (simp [IntKind.wrap, IntKind.bits, IntKind.signed]; omega)), hw.out.2.2.setAt (.inl ⟨by simp, rfl⟩) _ _⟩
      case measure => simp [intOf]; omega
    · obtain rfl : k = l.length := by omega
      go_wp2
      go_end0
      exact ⟨rfl, lr, hw.out.1, hw.out.2.1, hw.out.2.2⟩
end Go.Proofs.YtaengjgmchpabaaGreat.Kp
