/- Walks of the Writer: Float. -/
import Derived.Test.YtlgmjkbaihpmmaaGreatWriter2
namespace Go.Proofs.YtlgmjkbaihpmmaaGreat.Pk
open Go Go.RowKit Mem
/-- the array behind k rounds -/
def fillC (x k : Nat) : Array Value := (((high8 x).take k ++ List.replicate (8 - k) 0).map byteV).toArray
theorem fillC_next (x k : Nat) (hk : k < 8) (v : Int) (hv : v = (((high8 x).getD k 0 : Nat) : Int)) : (fillC x k).setIfInBounds k (.int .u8 v) = fillC x (k + 1) := by
  subst hv
  rcases k with _ | _ | _ | _ | _ | _ | _ | _ | k <;> first | rfl | omega
theorem fillC_get (x k : Nat) (hk : k < 8) : (fillC x k)[k]? = some (.int .u8 0) := by
  rcases k with _ | _ | _ | _ | _ | _ | _ | _ | k <;> first | rfl | omega
theorem high_byte (X k : Nat) (hk : k < 8) : (X : Int) / 2 ^ (8 * (7 - k)) % 256 = (((high8 X).getD k 0 : Nat) : Int) := by
  rcases k with _ | _ | _ | _ | _ | _ | _ | _ | k <;> simp [high8] <;> omega
attribute [local go_sem] run_bits run_frombits
set_option maxHeartbeats 1000000 in
theorem WFloat_gen (bw : Nat) (x : Nat) (w : World) (Q : World → Prop) (hput : PutsNew bw w (fltB x) Q) :
    Calls Tryz.prog 46 #[.pointer (some ⟨bw, 0, none⟩), .float .f64 x] w fun x w' => x = .returned (.tuple #[]) ∧ Q w' := by
  have HP := Lib.hid hput
  have h0 : (w.alloc (.cells (fillC 0 0) 113)).heap[w.heap.size]? = some (.cells (fillC 0 0) 113 (0, 0)) := heap_alloc_new w _
  have H0 := Lib.hid h0
  clear hput h0
  go_enter Tryz.func46, Tryz.ntmps46
  go_wp2_with (first | (go_at_call 71; refine (Canon_any _ _).mono ?_; rintro e w' ⟨rfl, rfl⟩))
  go_loopw [10] (fun i wr => ∃ k : Nat, k ≤ 8 ∧ i = .int .i64 k ∧ Hid (wr.heap[w.heap.size]? = some (.cells (fillC (Nm.canon x) k) 113 (0, 0)) ∧ Kept None w wr)) (fun i _ => 8 - (intOf i).toNat)
  case atStart => exact ⟨0, by omega, rfl, H0.out, (Kept.refl _ _).alloc _⟩
  case round =>
    obtain ⟨k, hk, rfl, hw⟩ := hrel
    by_cases hlt : k < 8
    · have hc := (cell_heap hw.out.1 k).trans (fillC_get _ k hlt)
      have hf := frozen_heap hw.out.1 k
      have hb := Lib.hid (high_byte (Nm.canon x) k hlt)
      go_wp2
      go_roundw
      case rel => exact ⟨k + 1, by omega, by go_num, by rw [heap_set hw.out.1 k, fillC_next _ _ hlt _ hb.out], hw.out.2.setAt (.inr (Nat.le_refl _)) _ _⟩
      case measure => simp [intOf]; omega
    · obtain rfl : k = 8 := by omega
      go_wp2_with fail
      refine (HP.out wr w.heap.size _ 8 8 hw.out.2 (Nat.le_refl _) (shows_made hw.out.1 rfl (Nat.le_refl 8) (by decide)) rfl).mono ?_
      rintro x w' ⟨rfl, h1⟩
      have H1 := Lib.hid h1
      clear h1
      go_wp2
      go_end0
      exact ⟨rfl, H1.out⟩
theorem WFloat_any (bw : Nat) (S : Nat → Prop) (l : List Nat) (x : Nat) (w : World) (h : WAt w bw S l) (hlen : l.length ≤ 35184372088832) :
    Calls Tryz.prog 46 #[.pointer (some ⟨bw, 0, none⟩), .float .f64 x] w (Put bw S (l ++ fltB x) w) :=
  WFloat_gen bw x w _ (puts_new bw S l w h _ (high8_b8 _) (by show _ + 8 ≤ _; omega))
end Go.Proofs.YtlgmjkbaihpmmaaGreat.Pk
