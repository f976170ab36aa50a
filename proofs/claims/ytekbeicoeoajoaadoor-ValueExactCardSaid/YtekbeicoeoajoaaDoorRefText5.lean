/- The reference's text of a value. -/
import Derived.Test.YtekbeicoeoajoaaDoorHex5
namespace Go.Proofs.YtekbeicoeoajoaaDoor.Vl
open Go Go.RowKit Go.Proofs.YtekbeicoeoajoaaDoor.Nm
attribute [local go_sem] run_bits run_frombits run_store_float

theorem cons_text (c : UInt8) (l : List UInt8) : (⟨#[c]⟩ : ByteArray) ++ ⟨l.toArray⟩ = ⟨(c :: l).toArray⟩ := by
  apply of_list
  rw [ByteArray.data_append, Array.toList_append]
  simp
theorem tab_alloc {w : World} (h : Tab16 w) (o : Obj) : Tab16 (w.alloc o) := h.alloc o
set_option maxHeartbeats 800000 in
theorem refText_v (v : V) (hn : v.num < 18446744073709551616) (hs : v.text.size ≤ 1000000) (w : World) (h0 : Tab16 w) :
    Calls Tryd.prog 21 #[v.val] w fun e w' => e = .returned (.string ⟨v.textL.toArray⟩) ∧ Below w.heap.size w w' := by
  obtain ⟨k, x, s⟩ := v
  have hn : x < 18446744073709551616 := hn
  have hs : s.size ≤ 1000000 := hs
  have HT := fun o => h0.alloc o
  have htx := textF_size x
  have hhx : (⟨(hexOf s.data.toList).toArray⟩ : ByteArray).size = 2 * s.size := by
    rw [← size_list]
    show (hexOf s.data.toList).toArray.toList.length = _
    rw [List.toList_toArray, hexOf_length, size_list]
  by_cases h1 : k = 1
  · subst h1
    go_enter Tryd.func21, Tryd.ntmps21
    go_wp2_with (first | (go_at_call 39; refine (refText_any _ (by assumption) _ (HT _)).mono ?_; rintro e w' ⟨rfl, hb⟩))
    go_ret
    exact ⟨ret_string (cons_text _ _), (below_alloc _ _).trans (hb.mono (below_alloc _ _).size)⟩
  · by_cases h2 : k = 2
    · subst h2
      go_enter Tryd.func21, Tryd.ntmps21
      go_wp2_with (first | (go_at_call 40; refine (Hex_any _ (by assumption) _).mono ?_; rintro e w' ⟨rfl, n, rfl⟩))
      go_ret
      exact ⟨ret_string (cons_text _ _), below_drewN (below_alloc _ _) _⟩
    · have e1 := int_nbeq h1
      have e2 := int_nbeq h2
      have ht : (V.mk k x s).textL = [45] := by simp [V.textL, h1, h2]
      have HL := Lib.hid ht
      clear h1 h2 ht
      go_enter Tryd.func21, Tryd.ntmps21
      go_wp2_with fail
      go_ret
      exact ⟨ret_string (by rw [HL.out]), below_alloc _ _⟩
end Go.Proofs.YtekbeicoeoajoaaDoor.Vl
