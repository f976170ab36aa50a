/- What a key has: the landed Get, the reference's. HeavyPairs. -/
import Derived.Test.YtilebpenfdgdmaaBeh
namespace Go.Proofs.Ytilebpenfdgdmaa.Kv
open Go Go.RowKit Vl Nm Mem
attribute [local go_sem] run_bits run_frombits run_store_float

theorem get_here {L : List Pr} {k : Nat} {key : ByteArray} (h : k < L.length) (he : (L.getD k Pr.zero).key = key) : get (L.drop k) key = (L.getD k Pr.zero).val := by
  rw [List.drop_eq_getElem_cons h]
  rw [getD_lt h] at he ⊢
  show (if L[k].key = key then _ else _) = _
  rw [if_pos he]
theorem get_next {L : List Pr} {k : Nat} {key : ByteArray} (h : k < L.length) (he : (L.getD k Pr.zero).key ≠ key) : get (L.drop k) key = get (L.drop (k + 1)) key := by
  rw [List.drop_eq_getElem_cons h]
  rw [getD_lt h] at he
  show (if L[k].key = key then _ else _) = _
  rw [if_neg he]
def heavyPr (p : Pr) : Bool := decide (2000 < p.key.size) || decide (2000 < p.val.text.size)
def heavyP (L : List Pr) : Bool := decide (200 < L.length) || L.any heavyPr
set_option maxHeartbeats 800000 in
theorem heavyPairs_any (a : Option Addr) (cap : Nat) (L : List Pr) (w : World) (h : PairsAt w a cap L) :
    Calls Try.prog 11 #[.slice a L.length cap] w fun e w' => e = .returned (.bool (heavyP L)) ∧ w = w' := by
  have HI := Lib.hid h
  clear h
  by_cases hbig : 200 < L.length
  · have d1 : decide (200 < L.length) = true := decide_eq_true hbig
    have d1' : decide ((200 : Int) < (L.length : Int)) = true := decide_eq_true (by omega)
    go_enter Try.func11, Try.ntmps11
    go_wp2
    go_ret
    exact ⟨ret_bool (by simp [heavyP, hbig]), rfl⟩
  · have d1 : decide (200 < L.length) = false := decide_eq_false hbig
    have d1' : decide ((200 : Int) < (L.length : Int)) = false := decide_eq_false (by omega)
    go_enter Try.func11, Try.ntmps11
    go_wp2
    go_loop [3] (fun i => ∃ k : Nat, k ≤ L.length ∧ i = .int .i64 k ∧ Hid ((L.take k).any heavyPr = false)) (fun i => L.length - (intOf i).toNat)
    case atStart => exact ⟨0, by omega, rfl, rfl⟩
    case round =>
      obtain ⟨k, hk, rfl, hw⟩ := hrel
      by_cases hlt : k < L.length
      · obtain ⟨b, off, rfl, hc⟩ := HI.out.at_ (by omega)
        obtain ⟨h1, _, _, h4⟩ := hc k hlt
        have hsn := Lib.hid (take_next hlt)
        have HM := Lib.hid (getD_mem hlt)
        clear hc
        generalize L.getD k Pr.zero = x at *
        obtain ⟨key, ⟨vk, vn, vs⟩⟩ := x
        cases hx : decide ((2000 : Int) < (key.size : Int))
        · cases hy : decide ((2000 : Int) < (vs.size : Int))
          · go_wp2
            go_round
            case rel => exact ⟨k + 1, by omega, by go_num, by
              show _ = _
              rw [hsn.out, List.any_append, hw.out]
              have e1 : ¬ (2000 : Int) < (key.size : Int) := of_decide_eq_false hx
              have e2 : ¬ (2000 : Int) < (vs.size : Int) := of_decide_eq_false hy
              simp [heavyPr]; omega⟩
            case measure => simp [intOf]; omega
          · go_wp2
            go_ret
            exact ⟨ret_bool (by
              have e2 : (2000 : Int) < (vs.size : Int) := of_decide_eq_true hy
              unfold heavyP; rw [show L.any heavyPr = true from List.any_eq_true.2 ⟨_, HM.out, by simp [heavyPr]; omega⟩]; simp), rfl⟩
        · go_wp2
          go_ret
          exact ⟨ret_bool (by
            have e2 : (2000 : Int) < (key.size : Int) := of_decide_eq_true hx
            unfold heavyP; rw [show L.any heavyPr = true from List.any_eq_true.2 ⟨_, HM.out, by simp [heavyPr]; omega⟩]; simp), rfl⟩
      · obtain rfl : k = L.length := by omega
        have hw2 := hw.out
        rw [List.take_length] at hw2
        go_wp2
        go_ret
        exact ⟨ret_bool (by simp [heavyP, hw2]; omega), rfl⟩
set_option maxHeartbeats 800000 in
theorem refGet_any (a : Option Addr) (cap : Nat) (L : List Pr) (key : ByteArray) (w : World) (h : PairsAt w a cap L) (hl : L.length ≤ 100000) :
    Calls Try.prog 20 #[.slice a L.length cap, .string key] w fun e w' => e = .returned (get L key).val ∧ Below w.heap.size w w' := by
  have HI := Lib.hid (h.alloc (Vobj V.zero))
  have HB := Lib.hid ((Beh.start w).alloc (Vobj V.zero))
  have HA := Lib.hid (alloc_here (w := w) (Vobj V.zero) rfl)
  clear h
  unfold Vobj V.zero at HI HB HA
  go_enter Try.func20, Try.ntmps20
  go_wp2
  go_loop [5] (fun i => ∃ k : Nat, k ≤ L.length ∧ i = .int .i64 k ∧ Hid (get L key = get (L.drop k) key)) (fun i => L.length - (intOf i).toNat)
  case atStart => exact ⟨0, by omega, rfl, rfl⟩
  case round =>
    obtain ⟨k, hk, rfl, hw⟩ := hrel
    by_cases hlt : k < L.length
    · obtain ⟨b, off, rfl, hc⟩ := HI.out.at_ (by omega)
      obtain ⟨h1, h2, h3, h4⟩ := hc k hlt
      have HH := Lib.hid (get_here (key := key) hlt)
      have HN := Lib.hid (get_next (key := key) hlt)
      clear hc
      generalize L.getD k Pr.zero = x at *
      obtain ⟨ley, ⟨vk, vn, vs⟩⟩ := x
      have HT := Lib.hid (key_test ley key)
      cases hx : (ley.toList == key.toList)
      · go_wp2
        go_round
        case rel => exact ⟨k + 1, by omega, by go_num, hw.out.trans (HN.out (by have := HT.out; rw [hx] at this; simpa using this.symm))⟩
        case measure => simp [intOf]; omega
      · have hg := hw.out.trans (HH.out (by have := HT.out; rw [hx] at this; simpa using this.symm))
        rw [hg]
        obtain ⟨f0, f1, f2, _⟩ := cells3 HA.out
        go_wp2
        refine bodyPost_ret (v := (V.mk vk vn vs).val) ?_ rfl ⟨rfl, below_alloc _ _⟩
        rw [results_cell_one rfl]
        go_simp
    · obtain rfl : k = L.length := by omega
      have hg : get L key = V.zero := hw.out.trans (by rw [List.drop_length]; rfl)
      rw [hg]
      obtain ⟨f0, f1, f2, _⟩ := cells3 HA.out
      go_wp2
      refine bodyPost_ret (v := V.zero.val) ?_ rfl ⟨by first | rfl | rw [hg], below_alloc _ _⟩
      rw [results_cell_one rfl]
      go_simp
set_option maxHeartbeats 1600000 in
theorem Get_any (a : Option Addr) (cap : Nat) (L : List Pr) (key : ByteArray) (w : World) (h : PairsAt w a cap L) (hl : L.length ≤ 100000) :
    Calls Try.prog 19 #[.slice a L.length cap, .string key] w fun e w' => e = .returned (get L key).val ∧ Below w.heap.size w w' := by
  have HI := Lib.hid h
  have HB0 := Lib.hid ((Beh.start w).alloc (Vobj V.zero))
  have HA0 := Lib.hid (alloc_here (w := w) (Vobj V.zero) rfl)
  clear h
  unfold Vobj V.zero at HB0 HA0
  go_enter Try.func19, Try.ntmps19
  go_wp2
  go_loopw [6, 9] (fun i j wr => ∃ k : Nat, k ≤ L.length ∧ j = .int .i64 k ∧ Hid (get L key = get (L.drop k) key) ∧ Hid (Beh w wr) ∧ Hid (wr.heap[w.heap.size]? = some (.cells #[.int .i64 0, .float .f64 0, .string ⟨#[]⟩] 25))) (fun _ j _ => L.length - (intOf j).toNat)
  case atStart => exact ⟨0, by omega, rfl, rfl, HB0.out, HA0.out⟩
  case round =>
    obtain ⟨k, hk, rfl, hw, HB, HA⟩ := hrel
    by_cases hlt : k < L.length
    · obtain ⟨b, off, rfl, hc⟩ := (HI.out.below HB.out.below).at_ (by omega)
      obtain ⟨h1, h2, h3, h4⟩ := hc k hlt
      have HH := Lib.hid (get_here (key := key) hlt)
      have HN := Lib.hid (get_next (key := key) hlt)
      clear hc
      generalize L.getD k Pr.zero = x at *
      obtain ⟨ley, ⟨vk, vn, vs⟩⟩ := x
      have HT := Lib.hid (key_test ley key)
      cases hx : (ley.toList == key.toList)
      · go_wp2
        go_roundw
        case rel => exact ⟨k + 1, by omega, by go_num, hw.out.trans (HN.out (by have := HT.out; rw [hx] at this; simpa using this.symm)), HB.out.alloc _, old_alloc _ HA.out⟩
        case measure => simp [intOf]; omega
      · have hg := hw.out.trans (HH.out (by have := HT.out; rw [hx] at this; simpa using this.symm))
        rw [hg]
        obtain ⟨f0, f1, f2, g0, g1, g2⟩ := cells3_on HA.out
        go_wp2
        refine bodyPost_ret (v := (V.mk vk vn vs).val) ?_ rfl ⟨rfl, by show Beh w _; repeat' (first | exact HB.out | refine Beh.alloc ?_ _ | refine Beh.set ?_ (Nat.le_refl _) _ _)⟩
        rw [results_cell_one rfl]
        go_simp
    · obtain rfl : k = L.length := by omega
      have hg : get L key = V.zero := hw.out.trans (by rw [List.drop_length]; rfl)
      rw [hg]
      obtain ⟨f0, f1, f2, g0, g1, g2⟩ := cells3 HA.out
      go_wp2
      refine bodyPost_ret (v := V.zero.val) ?_ rfl ⟨by first | rfl | rw [hg], by show Beh w _; repeat' (first | exact HB.out | refine Beh.alloc ?_ _ | refine Beh.set ?_ (Nat.le_refl _) _ _)⟩
      rw [results_cell_one rfl]
      go_simp
end Go.Proofs.Ytilebpenfdgdmaa.Kv
