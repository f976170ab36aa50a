/- Walk of the landed package value: Text; the laws' own small closed question. -/
import Derived.Test.YtekbeicoeoajoaaDoorCode5c
import Derived.Test.YtekbeicoeoajoaaDoorBoxes
import Derived.Test.YtekbeicoeoajoaaDoorCode5a
namespace Go.Proofs.YtekbeicoeoajoaaDoor.Vl
open Go Go.RowKit Go.Proofs.YtekbeicoeoajoaaDoor.Nm
attribute [local go_sem] run_bits run_frombits run_store_float

/-- what Text tells of any value -/
def V.told (v : V) : ByteArray := if v.check = 0 then ⟨v.textL.toArray⟩ else ⟨#[]⟩
theorem ret_text {a b : ByteArray} {c d : Int} (h : a = b) (h2 : c = d) : Ending.returned (.tuple #[.string a, .int .i64 c]) = .returned (.tuple #[.string b, .int .i64 d]) := by rw [h, h2]
set_option maxHeartbeats 1600000 in
theorem Text_v (v : V) (hn : v.num < 18446744073709551616) (w : World) (h0 : Tab16 w) :
    Calls Tryd.prog 19 #[v.val] w fun e w' => e = .returned (.tuple #[.string v.told, .int .i64 v.check]) ∧ Below w.heap.size w w' := by
  obtain ⟨k, x, s⟩ := v
  have hn : x < 18446744073709551616 := hn
  by_cases h : (V.mk k x s).check = 0
  · have hkk : k = 0 ∨ k = 1 ∨ k = 2 := (check_zero h).1
    have hss : k = 2 → s.size ≤ 32 := (check_zero h).2.1
    have h1 := int_beq h
    have h2 := int_bne h
    have HC := Lib.hid h
    have HT := Lib.hid (show (V.mk k x s).told = ⟨(V.mk k x s).textL.toArray⟩ by unfold V.told; rw [if_pos h])
    have htx := textF_size x
    have hhx : (⟨(hexOf s.data.toList).toArray⟩ : ByteArray).size = 2 * s.size := by
      rw [← size_list]
      show (hexOf s.data.toList).toArray.toList.length = _
      rw [List.toList_toArray, hexOf_length, size_list]
    clear h
    rcases hkk with rfl | rfl | rfl
    · clear hss
      go_enter Tryd.func19, Tryd.ntmps19
      go_wp2_with fail
      refine (Check_any ⟨_, _, _⟩ _).mono ?_
      rintro e w1 ⟨rfl, hb⟩
      obtain ⟨A1, hb1, hz1⟩ := one_on hb
      obtain ⟨c0, c1, c2, f0, f1, f2⟩ := cells3 A1
      have HB := Lib.hid hb1
      clear hb A1 hb1
      go_wp2_with fail
      go_ret2
      exact ⟨ret_text (by rw [HT.out]; rfl) HC.out.symm, HB.out⟩
    · clear hss
      go_enter Tryd.func19, Tryd.ntmps19
      go_wp2_with fail
      refine (Check_any ⟨_, _, _⟩ _).mono ?_
      rintro e w1 ⟨rfl, hb⟩
      obtain ⟨A1, hb1, hz1⟩ := one_on hb
      obtain ⟨c0, c1, c2, f0, f1, f2⟩ := cells3 A1
      have T1 := h0.below hb1
      have HB := Lib.hid hb1
      clear hb A1 hb1
      go_wp2_with fail
      refine (Text_any _ (by assumption) _ T1).mono ?_
      rintro e w2 ⟨rfl, hb2⟩
      have HB2 := Lib.hid hb2
      clear hb2
      go_wp2_with fail
      go_ret2
      exact ⟨ret_text (by rw [HT.out]; exact cons_text _ _) HC.out.symm, HB.out.trans (HB2.out.mono HB.out.size)⟩
    · have hs := hss rfl
      clear hss
      go_enter Tryd.func19, Tryd.ntmps19
      go_wp2_with fail
      refine (Check_any ⟨_, _, _⟩ _).mono ?_
      rintro e w1 ⟨rfl, hb⟩
      obtain ⟨A1, hb1, hz1⟩ := one_on hb
      obtain ⟨c0, c1, c2, f0, f1, f2⟩ := cells3 A1
      have HB := Lib.hid hb1
      clear hb A1 hb1
      go_wp2_with fail
      refine (hexOf_any _ (by omega) _).mono ?_
      rintro e w2 ⟨rfl, hb2⟩
      have HB2 := Lib.hid hb2
      clear hb2
      go_wp2_with fail
      go_ret2
      exact ⟨ret_text (by rw [HT.out]; exact cons_text _ _) HC.out.symm, HB.out.trans (HB2.out.mono HB.out.size)⟩
  · have h1 := int_nbeq h
    have h2 := int_nbne h
    have HT := Lib.hid (show (V.mk k x s).told = (⟨#[]⟩ : ByteArray) by unfold V.told; rw [if_neg h])
    clear h
    go_enter Tryd.func19, Tryd.ntmps19
    go_wp2_with fail
    refine (Check_any ⟨_, _, _⟩ _).mono ?_
    rintro e w1 ⟨rfl, hb⟩
    obtain ⟨A1, hb1, hz1⟩ := one_on hb
    obtain ⟨c0, c1, c2, f0, f1, f2⟩ := cells3 A1
    have HB := Lib.hid hb1
    clear hb A1 hb1
    go_wp2_with fail
    go_ret2
    exact ⟨ret_text HT.out.symm rfl, HB.out⟩

theorem ab_told : (V.mk 2 0 (⟨#[97, 98]⟩ : ByteArray)).told = (⟨#[116, 54, 49, 54, 50]⟩ : ByteArray) := by
  unfold V.told; rw [if_pos (by kernel_rfl)]; kernel_rfl
theorem ab_check : (V.mk 2 0 (⟨#[97, 98]⟩ : ByteArray)).check = 0 := by kernel_rfl
set_option maxHeartbeats 400000 in
theorem wakes5 (w : World) (h0 : Tab16 w) :
    Calls Tryd.prog 20 #[] w fun e w' => e = .returned (.bool true) ∧ Below w.heap.size w w' := by
  go_enter Tryd.func20, Tryd.ntmps20
  go_wp2_with fail
  refine (Text_v (V.mk 2 0 (⟨#[97, 98]⟩ : ByteArray)) (by decide) _ h0).mono ?_
  rw [ab_told, ab_check]
  rintro e w1 ⟨rfl, hb⟩
  have HB := Lib.hid hb
  clear hb
  go_wp2_with fail
  go_ret
  exact ⟨rfl, HB.out⟩
end Go.Proofs.YtekbeicoeoajoaaDoor.Vl
