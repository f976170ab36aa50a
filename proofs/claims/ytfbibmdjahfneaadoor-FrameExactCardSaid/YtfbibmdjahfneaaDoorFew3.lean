/- Layer 3's few; frames of rows, one behind the other. -/
import Derived.Test.YtfbibmdjahfneaaDoorExact3
import Derived.Test.YtfbibmdjahfneaaDoorOpenR
namespace Go.Proofs.YtfbibmdjahfneaaDoor.Fr
open Go Go.RowKit Mem Kp
def Few (L : List (List Nat)) : Prop := L.length ≤ 60 ∧ ∀ l ∈ L, l.length ≤ 500
def FewPost (L : List (List Nat)) (w : World) (x : Ending) (w' : World) : Prop := w = w' ∧ ((x = .returned (.bool true) ∧ Few L) ∨ (x = .returned (.bool false) ∧ ¬ Few L))
theorem bytes_len (R : List Row) : (bytesOf R).length = R.length := by simp [bytesOf]
theorem few_end {L : List (List Nat)} {k : Nat} (h : L.length ≤ 60) (hk : L.length ≤ k) (hs : ∀ l ∈ L.take k, l.length ≤ 500) : Few L := by
  rw [List.take_of_length_le hk] at hs
  exact ⟨h, hs⟩
theorem few_next {L : List (List Nat)} {k : Nat} (hk : k < L.length) (h : ∀ l ∈ L.take k, l.length ≤ 500) (h1 : (L.getD k []).length ≤ 500) : ∀ l ∈ L.take (k + 1), l.length ≤ 500 := by
  intro l hl
  rw [List.take_succ_eq_append_getElem hk] at hl
  rcases List.mem_append.1 hl with hl | hl
  · exact h l hl
  · obtain rfl : l = L[k] := by simpa using hl
    have e : L.getD k [] = L[k] := by simp [hk]
    rw [← e]; exact h1
theorem getD_mem {L : List (List Nat)} {k : Nat} (hk : k < L.length) : L.getD k [] ∈ L := by
  have e : L.getD k [] = L[k] := by simp [hk]
  rw [e]; exact List.getElem_mem hk
set_option maxHeartbeats 2000000 in
theorem few_any (a : Option Addr) (cap : Nat) (R : List Row) (w : World) (h : RowsAt w a cap R) (hR : R.length ≤ 9223372036854775807) (hrl : ∀ l ∈ bytesOf R, l.length ≤ 9223372036854775807) :
    Calls Tryd.prog 23 #[.slice a R.length cap] w (FewPost (bytesOf R) w) := by
  have HS := Lib.hid h
  have HL := Lib.hid hrl
  have BL := Lib.hid (bytes_len R)
  clear h hrl
  by_cases hbig : 60 < R.length
  · have d1 : decide (60 < R.length) = true := by simpa using hbig
    have d1' : decide ((60 : Int) < (R.length : Int)) = true := by simp; omega
    go_enter Tryd.func23, Tryd.ntmps23
    go_wp2
    go_ret
    exact ⟨by first | rfl | trivial, .inr ⟨by first | rfl | trivial, fun h => by have := h.1; rw [BL.out] at this; omega⟩⟩
  · have d1 : decide (60 < R.length) = false := by simpa using hbig
    have d1' : decide ((60 : Int) < (R.length : Int)) = false := by simp; omega
    have hRl : R.length ≤ 60 := by omega
    clear hbig
    go_enter Tryd.func23, Tryd.ntmps23
    go_wp2
    go_loopw [3] (fun i wr => ∃ k : Nat, k ≤ R.length ∧ i = .int .i64 k ∧ wr = w ∧ Hid (∀ l ∈ (bytesOf R).take k, l.length ≤ 500)) (fun i _ => R.length - (intOf i).toNat)
    case atStart => exact ⟨0, by omega, rfl, rfl, fun _ h => by simp at h⟩
    case round =>
      obtain ⟨k, hk, rfl, rfl, hw⟩ := hrel
      by_cases hlt : k < R.length
      · obtain ⟨b1, o1, bi1, ai1, ci1, rfl, d2, s1⟩ := HS.out.at_ k hlt
        have hnx := Lib.hid (few_next (L := bytesOf R) (k := k) (by rw [BL.out]; exact hlt) hw.out)
        have hmem : Hid ((bytesOf R).getD k [] ∈ bytesOf R) := getD_mem (by rw [BL.out]; exact hlt)
        have hyl := HL.out _ hmem.out
        generalize (bytesOf R).getD k [] = y at *
        clear s1
        by_cases h5 : 500 < y.length
        · have d3 : decide (500 < y.length) = true := by simpa using h5
          have d3' : decide ((500 : Int) < (y.length : Int)) = true := by simp; omega
          have HH := Lib.hid h5
          clear h5
          go_wp2
          go_ret
          exact ⟨by first | rfl | trivial, .inr ⟨by first | rfl | trivial, fun h => by have := h.2 y hmem.out; have := HH.out; omega⟩⟩
        · have d3 : decide (500 < y.length) = false := by simpa using h5
          have d3' : decide ((500 : Int) < (y.length : Int)) = false := by simp; omega
          have HH := Lib.hid (show y.length ≤ 500 by omega)
          clear h5
          go_wp2
          go_roundw
          case rel => exact ⟨k + 1, by omega, by go_num, by first | rfl | trivial, hnx.out HH.out⟩
          case measure => simp [intOf]; omega
      · obtain rfl : k = R.length := by omega
        go_wp2
        go_ret
        exact ⟨by first | rfl | trivial, .inl ⟨by first | rfl | trivial, few_end (by rw [BL.out]; exact hRl) (by rw [BL.out]; exact Nat.le_refl _) hw.out⟩⟩
theorem seals_take {L : List (List Nat)} {k : Nat} (hk : k < L.length) : seals (L.take (k + 1)) = seals (L.take k) ++ sealB (L.getD k []) := by
  rw [List.take_succ_eq_append_getElem hk, seals_snoc]
  simp [hk]
theorem seals_few : ∀ L : List (List Nat), (∀ l ∈ L, l.length ≤ 500) → (seals L).length ≤ 509 * L.length := by
  intro L
  induction L with
  | nil => intro _; simp [seals]
  | cons p L ih =>
    intro h
    have h1 := h p (List.mem_cons_self ..)
    have h2 := ih (fun x hx => h x (List.mem_cons_of_mem _ hx))
    rw [seals_cons, List.length_append, seal_len, List.length_cons]; omega
theorem seals_few_take {L : List (List Nat)} (h : Few L) (k : Nat) : (seals (L.take k)).length ≤ 30540 := by
  have h1 := seals_few (L.take k) (fun l hl => h.2 l (List.mem_of_mem_take hl))
  have h2 : (L.take k).length ≤ 60 := by rw [List.length_take]; have := h.1; omega
  omega
theorem seals_b8 : ∀ L : List (List Nat), (∀ l ∈ L, B8 l) → B8 (seals L) := by
  intro L
  induction L with
  | nil => intro _; exact B8.nil
  | cons p L ih =>
    intro h
    rw [seals_cons]
    exact (seal_b8 (h p (List.mem_cons_self ..))).append (ih (fun x hx => h x (List.mem_cons_of_mem _ hx)))
theorem few_fit {L : List (List Nat)} (h : Few L) (h8 : ∀ l ∈ L, B8 l) : Fit L := fun l hl => ⟨h8 l hl, by have := h.2 l hl; omega⟩
end Go.Proofs.YtfbibmdjahfneaaDoor.Fr
