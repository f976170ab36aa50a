/- Walks of the reference's Mark, Float, Text; of SpoilBytes; of want. -/
import Derived.Test.YtjlpmmbmjkbdiaaCuts
namespace Go.Proofs.Ytjlpmmbmjkbdiaa.Pk
open Go Go.RowKit Mem
attribute [local go_sem] run_bits run_frombits
theorem own_lit (w : World) (t : TypeId) (ht : t = 5) (v : Int) (x : Nat) (hv : v = (x : Int)) : NewB [x] w (.returned (.slice (some ⟨w.heap.size, 0, Option.none⟩) 1 1)) (w.alloc (.cells #[.int .u8 v] t)) := by
  subst hv ht
  exact ⟨w.heap.size, _, 1, rfl, own_new (l := [x]) (Nat.le_refl 1) (by decide) rfl rfl, Nat.le_refl _, (Kept.refl _ _).alloc _, by simp⟩
set_option maxHeartbeats 1000000 in
theorem refMark_any (b : Bool) (w : World) : Calls Try.prog 34 #[.bool b] w (NewB (markB b) w) := by
  cases b
  all_goals
    go_enter Try.func34, Try.ntmps34
    go_wp2
    go_ret
    exact own_lit w _ rfl _ _ rfl
set_option maxHeartbeats 1000000 in
theorem refFloat_any (x : Nat) (w : World) : Calls Try.prog 35 #[.float .f64 x] w (NewB (fltB x) w) := by
  go_enter Try.func35, Try.ntmps35
  go_wp2_with (first | (go_at_call 46; refine (refCanon_any _ _).mono ?_; rintro e w' ⟨rfl, rfl⟩))
  refine (High_any (Nm.canon x) w).mono ?_
  rintro x' w1 ⟨b, a, cap, rfl, ho, hb, hk, hb2⟩
  have HO := Lib.hid ho
  have HK := Lib.hid hk
  clear ho hk
  go_wp2
  go_ret
  exact ⟨b, a, cap, rfl, HO.out, hb, HK.out, hb2⟩
set_option maxHeartbeats 1000000 in
theorem refText_any (b : Nat) (a : Option Addr) (cap : Nat) (t : List Nat) (w : World) (h : Src w b a cap t) (ht : t.length ≤ 32768) : Calls Try.prog 36 #[.slice a t.length cap] w (NewB (textB t) w) := by
  obtain ⟨i0, hi0, hz0, hz1, hz2⟩ := info_parts infoU8
  have HS := Lib.hid h
  have hil := (intB_len t.length).2
  clear h
  go_enter Try.func36, Try.ntmps36
  go_wp2_with fail
  refine (refInt_any t.length w (by omega) (by omega)).mono ?_
  rintro x' w1 ⟨b1, a1, cap1, rfl, ho, hb, hk, hb2⟩
  have HO := Lib.hid ho
  have HK := Lib.hid hk
  clear ho hk
  go_wp2_with (at_builtin; refine wpList_append_bytes rfl _ _ 28 rfl 5 i0 Try.underlying28 hi0 hz0 hz1 hz2 b1 a1 cap1 (intB t.length) _ rfl HO.out rfl b a cap t _ rfl (HS.out.kept HK.out (fun _ h => h)) rfl (by omega) ?_)
  intro b' a' cap' w' h2 h3 h4 h5
  have HM := Lib.hid (mine_append' (n := (intB t.length).length + t.length) rfl (by simp) hb HK.out (Kept.refl _ _) h2 h3 (by simpa using h4))
  clear h2 h3 h4 h5
  go_wp2
  go_ret
  obtain ⟨b3, a3, cap3, e3, ho3, hb3, hb4, hk3⟩ := HM.out
  exact ⟨b3, a3, cap3, congrArg Ending.returned e3, ho3, hb3, hk3, hb4⟩

/-- a cell of bytes of its own, set -/
theorem own_set {e : TypeId} {w : World} {b cap : Nat} {l : List Nat} (h : OwnB e w b (some ⟨b, 0, Option.none⟩) cap l) (i : Nat) (x : Nat) (v : Int) (hv : v = (x : Int)) : OwnB e (w.setCell ⟨b, i, Option.none⟩ (.int .u8 v)) b (some ⟨b, 0, Option.none⟩) cap (l.set i x) := by
  subst hv
  rcases h with h | ⟨ha, h1, h2, cur, hh, h3, h4⟩
  · cases h.1
  · refine .inr ⟨rfl, by simpa using h1, h2, _, heap_set hh i _, by simpa using h3, ?_⟩
    rw [Array.toList_setIfInBounds, List.length_set, List.take_set, h4, List.map_set]
    rfl
/-- what is left behind SpoilBytes -/
def Spoilt (b : Nat) (a : Option Addr) (cap n : Nat) (w : World) (x : Ending) (w' : World) : Prop := x = .returned (.tuple #[]) ∧ ∃ l', l'.length = n ∧ OwnB 5 w' b a cap l' ∧ Kept (Of a b) w w'
set_option maxHeartbeats 2000000 in
theorem Spoil_any (b : Nat) (a : Option Addr) (cap : Nat) (l : List Nat) (w : World) (h : OwnB 5 w b a cap l) (hl : l.length ≤ 35184372088832) :
    Calls Try.prog 13 #[.slice a l.length cap] w (Spoilt b a cap l.length w) := by
  have HO := Lib.hid h
  clear h
  go_enter Try.func13, Try.ntmps13
  go_wp2
  go_loopw [2] (fun i wr => ∃ (k : Nat) (lr : List Nat), k ≤ l.length ∧ i = .int .i64 k ∧ Hid (lr.length = l.length ∧ OwnB 5 wr b a cap lr ∧ Kept (Of a b) w wr)) (fun i _ => l.length - (intOf i).toNat)
  case atStart => exact ⟨0, l, by omega, rfl, rfl, HO.out, Kept.refl _ _⟩
  case round =>
    obtain ⟨k, lr, hk, rfl, hw⟩ := hrel
    by_cases hlt : k < l.length
    · obtain rfl : a = some ⟨b, 0, Option.none⟩ := by
        rcases hw.out.2.1 with h | h
        · have h1 := hw.out.1
          rw [h.2.2] at h1; simp at h1; omega
        · exact h.1
      have hc := hw.out.2.1.cellAt k (by rw [hw.out.1]; exact hlt)
      have hf : wr.frozen? ⟨b, k, Option.none⟩ = false := by
        rcases hw.out.2.1 with h | ⟨_, _, _, cur, hh, _⟩
        · cases h.1
        · exact frozen_heap hh k
      obtain ⟨v, hv⟩ : ∃ v : Nat, v = ((lr.getD k 0) + 101) % 256 := ⟨_, rfl⟩
      have HV := Lib.hid hv
      clear hv
      generalize hy : lr.getD k 0 = y at *
      clear hy
      go_wp2
      go_roundw
      case rel => exact ⟨k + 1, lr.set k v, by omega, by go_num, by rw [List.length_set]; exact hw.out.1, own_set hw.out.2.1 k v _ (by have := HV.out; first | omega | (simp [IntKind.wrap, IntKind.bits, IntKind.signed]; omega)), hw.out.2.2.setAt (.inl ⟨by simp, rfl⟩) _ _⟩
      case measure => simp [intOf]; omega
    · obtain rfl : k = l.length := by omega
      go_wp2
      go_end0
      exact ⟨rfl, lr, hw.out.1, hw.out.2.1, hw.out.2.2⟩
end Go.Proofs.Ytjlpmmbmjkbdiaa.Pk
