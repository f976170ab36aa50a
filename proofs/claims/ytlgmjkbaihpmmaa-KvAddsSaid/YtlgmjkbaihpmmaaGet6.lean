/- What a key has: the landed Get, the reference's. -/
import Derived.Test.YtlgmjkbaihpmmaaBeh
namespace Go.Proofs.Ytlgmjkbaihpmmaa.Kv
open Go Go.RowKit Vl Nm Mem
attribute [local go_sem] run_bits run_frombits run_store_float

theorem get_here {L : List Pr} {k : Nat} {key : ByteArray} (h : k < L.length) (he : (L.getD k Pr.zero).key = key) : get (L.drop k) key = (L.getD k Pr.zero).val := by
  rw [List.drop_eq_getElem_cons h]
  rw [getD_lt h] at he ⊢
  show (if L[k].key = key then _ else _) = _
  rw [if_pos he]
theorem get_next {L : List Pr} {k : Nat} {key : ByteArray} (h : k < L.length) (he : (L.getD k Pr.zero).key ≠ key) : get (L.drop k) key = get (L.drop (k + 1)) key := by
  rw [List.drop_eq_getElem_cons h]
  rw [getD_lt h] at he
  show (if L[k].key = key then _ else _) = _
  rw [if_neg he]
set_option maxHeartbeats 800000 in
theorem refGet_any (a : Option Addr) (cap : Nat) (L : List Pr) (key : ByteArray) (w : World) (h : PairsAt w a cap L) (hl : L.length ≤ 100000) :
    Calls Try.prog 58 #[.slice a L.length cap, .string key] w fun e w' => e = .returned (get L key).val ∧ Below w.heap.size w w' := by
  have HI := Lib.hid (h.alloc (Vobj V.zero))
  have HB := Lib.hid ((Beh.start w).alloc (Vobj V.zero))
  have HA := Lib.hid (alloc_here (w := w) (Vobj V.zero) rfl)
  clear h
  unfold Vobj V.zero at HI HB HA
  go_enter Try.func58, Try.ntmps58
  go_wp2
  go_loop [5] (fun i => ∃ k : Nat, k ≤ L.length ∧ i = .int .i64 k ∧ Hid (get L key = get (L.drop k) key)) (fun i => L.length - (intOf i).toNat)
  case atStart => exact ⟨0, by omega, rfl, rfl⟩
  case round =>
    obtain ⟨k, hk, rfl, hw⟩ := hrel
    by_cases hlt : k < L.length
    · obtain ⟨b, off, rfl, hc⟩ := HI.out.at_ (by omega)
      obtain ⟨h1, h2, h3, h4⟩ := hc k hlt
      have HH := Lib.hid (get_here (key := key) hlt)
      have HN := Lib.hid (get_next (key := key) hlt)
      clear hc
      generalize L.getD k Pr.zero = x at *
      obtain ⟨ley, ⟨vk, vn, vs⟩⟩ := x
      have HT := Lib.hid (key_test ley key)
      cases hx : (ley.toList == key.toList)
      · go_wp2
        go_round
        case rel => exact ⟨k + 1, by omega, by go_num, hw.out.trans (HN.out (by have := HT.out; rw [hx] at this; simpa using this.symm))⟩
        case measure => simp [intOf]; omega
      · have hg := hw.out.trans (HH.out (by have := HT.out; rw [hx] at this; simpa using this.symm))
        rw [hg]
        obtain ⟨f0, f1, f2, _⟩ := cells3 HA.out
        go_wp2
        refine bodyPost_ret (v := (V.mk vk vn vs).val) ?_ rfl ⟨rfl, below_alloc _ _⟩
        rw [results_cell_one rfl]
        go_simp
    · obtain rfl : k = L.length := by omega
      have hg : get L key = V.zero := hw.out.trans (by rw [List.drop_length]; rfl)
      rw [hg]
      obtain ⟨f0, f1, f2, _⟩ := cells3 HA.out
      go_wp2
      refine bodyPost_ret (v := V.zero.val) ?_ rfl ⟨by first | rfl | rw [hg], below_alloc _ _⟩
      rw [results_cell_one rfl]
      go_simp
set_option maxHeartbeats 1600000 in
theorem Get_any (a : Option Addr) (cap : Nat) (L : List Pr) (key : ByteArray) (w : World) (h : PairsAt w a cap L) (hl : L.length ≤ 100000) :
    Calls Try.prog 17 #[.slice a L.length cap, .string key] w fun e w' => e = .returned (get L key).val ∧ Below w.heap.size w w' := by
  have HI := Lib.hid h
  have HB0 := Lib.hid ((Beh.start w).alloc (Vobj V.zero))
  have HA0 := Lib.hid (alloc_here (w := w) (Vobj V.zero) rfl)
  clear h
  unfold Vobj V.zero at HB0 HA0
  go_enter Try.func17, Try.ntmps17
  go_wp2
  go_loopw [6, 9] (fun i j wr => ∃ k : Nat, k ≤ L.length ∧ j = .int .i64 k ∧ Hid (get L key = get (L.drop k) key) ∧ Hid (Beh w wr) ∧ Hid (wr.heap[w.heap.size]? = some (.cells #[.int .i64 0, .float .f64 0, .string ⟨#[]⟩] 25))) (fun _ j _ => L.length - (intOf j).toNat)
  case atStart => exact ⟨0, by omega, rfl, rfl, HB0.out, HA0.out⟩
  case round =>
    obtain ⟨k, hk, rfl, hw, HB, HA⟩ := hrel
    by_cases hlt : k < L.length
    · obtain ⟨b, off, rfl, hc⟩ := (HI.out.below HB.out.below).at_ (by omega)
      obtain ⟨h1, h2, h3, h4⟩ := hc k hlt
      have HH := Lib.hid (get_here (key := key) hlt)
      have HN := Lib.hid (get_next (key := key) hlt)
      clear hc
      generalize L.getD k Pr.zero = x at *
      obtain ⟨ley, ⟨vk, vn, vs⟩⟩ := x
      have HT := Lib.hid (key_test ley key)
      cases hx : (ley.toList == key.toList)
      · go_wp2
        go_roundw
        case rel => exact ⟨k + 1, by omega, by go_num, hw.out.trans (HN.out (by have := HT.out; rw [hx] at this; simpa using this.symm)), HB.out.alloc _, old_alloc _ HA.out⟩
        case measure => simp [intOf]; omega
      · have hg := hw.out.trans (HH.out (by have := HT.out; rw [hx] at this; simpa using this.symm))
        rw [hg]
        obtain ⟨f0, f1, f2, g0, g1, g2⟩ := cells3_on HA.out
        go_wp2
        refine bodyPost_ret (v := (V.mk vk vn vs).val) ?_ rfl ⟨rfl, by show Beh w _; repeat' (first | exact HB.out | refine Beh.alloc ?_ _ | refine Beh.set ?_ (Nat.le_refl _) _ _)⟩
        rw [results_cell_one rfl]
        go_simp
    · obtain rfl : k = L.length := by omega
      have hg : get L key = V.zero := hw.out.trans (by rw [List.drop_length]; rfl)
      rw [hg]
      obtain ⟨f0, f1, f2, g0, g1, g2⟩ := cells3 HA.out
      go_wp2
      refine bodyPost_ret (v := V.zero.val) ?_ rfl ⟨by first | rfl | rw [hg], by show Beh w _; repeat' (first | exact HB.out | refine Beh.alloc ?_ _ | refine Beh.set ?_ (Nat.le_refl _) _ _)⟩
      rw [results_cell_one rfl]
      go_simp
end Go.Proofs.Ytlgmjkbaihpmmaa.Kv
