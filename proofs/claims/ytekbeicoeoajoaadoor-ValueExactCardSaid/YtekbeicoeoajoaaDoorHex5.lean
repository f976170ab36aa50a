/- Walks of the reference's Hex and Unhex. -/
import Derived.Test.YtekbeicoeoajoaaDoorRefAdd
namespace Go.Proofs.YtekbeicoeoajoaaDoor.Vl
open Go Go.RowKit Go.Proofs.YtekbeicoeoajoaaDoor.Nm
attribute [local go_sem] run_bits run_frombits run_store_float

theorem and15 (c : Nat) (h : c < 256) : bits .and .u8 (c : Int) 15 = ((c % 16 : Nat) : Int) := by
  have := u8_and_nat c 15 h (by omega)
  rw [show (15 : Int) = ((15 : Nat) : Int) from rfl, this]
  congr 1
  exact Nat.and_two_pow_sub_one_eq_mod c 4
theorem hexOf_append : ∀ a b : List UInt8, hexOf (a ++ b) = hexOf a ++ hexOf b
  | [], _ => rfl
  | c :: r, b => by simp [hexOf, hexOf_append r b]
theorem hexOf_length : ∀ a : List UInt8, (hexOf a).length = 2 * a.length
  | [] => rfl
  | c :: r => by simp [hexOf, hexOf_length r]; omega
/-- a digit cut out of the row of digits -/
theorem digit_cut : ∀ q : Fin 16, ((⟨#[48, 49, 50, 51, 52, 53, 54, 55, 56, 57, 97, 98, 99, 100, 101, 102]⟩ : ByteArray).extract q.val (q.val + 1)).data.toList = [UInt8.ofNat (hexd q.val)] := by decide
theorem take_next {l : List UInt8} {k : Nat} (h : k < l.length) : l.take (k + 1) = l.take k ++ [l[k]] := by
  rw [List.take_add_one, List.getElem?_eq_getElem h]; rfl
theorem hex_next {s o : ByteArray} {k c q r : Nat} (hk : k < s.size) (hc : s[k].toNat = c) (hq : c / 16 < 16) (hr : c % 16 < 16) (ho : o.data.toList = hexOf (s.data.toList.take k))
    (e1 : q = c / 16) (e2 : r = c % 16) :
    ((o ++ (⟨#[48, 49, 50, 51, 52, 53, 54, 55, 56, 57, 97, 98, 99, 100, 101, 102]⟩ : ByteArray).extract q (q + 1)) ++ (⟨#[48, 49, 50, 51, 52, 53, 54, 55, 56, 57, 97, 98, 99, 100, 101, 102]⟩ : ByteArray).extract r (r + 1)).data.toList = hexOf (s.data.toList.take (k + 1)) := by
  subst e1; subst e2
  have h1 := digit_cut ⟨c / 16, hq⟩
  have h2 := digit_cut ⟨c % 16, hr⟩
  have hl : k < s.data.toList.length := by rw [Array.length_toList]; exact hk
  have hb : s.data[k].toNat = c := hc
  rw [take_next hl, hexOf_append, ByteArray.data_append, ByteArray.data_append, Array.toList_append, Array.toList_append, h1, h2, ho]
  simp [hexOf, hb]
theorem size_list (o : ByteArray) : o.data.toList.length = o.size := by rw [Array.length_toList]; rfl
theorem hex_size {s o : ByteArray} {k : Nat} (h : o.data.toList = hexOf (s.data.toList.take k)) (hk : k ≤ s.size) : o.size = 2 * k := by
  rw [← size_list, h, hexOf_length, List.length_take, size_list, Nat.min_eq_left hk]
theorem of_list {o : ByteArray} {l : List UInt8} (h : o.data.toList = l) : o = ⟨l.toArray⟩ := by
  cases o; subst h; simp
theorem ret_string {a b : ByteArray} (h : a = b) : Ending.returned (.string a) = .returned (.string b) := by rw [h]
set_option maxHeartbeats 800000 in
theorem Hex_any (s : ByteArray) (hs : s.size ≤ 1000000) (w : World) :
    Calls Tryd.prog 40 #[.string s] w fun e w' => e = .returned (.string ⟨(hexOf s.data.toList).toArray⟩) ∧ ∃ n, w' = w.drewN n := by
  go_enter Tryd.func40, Tryd.ntmps40
  go_wp2
  go_loopw [3, 4] (fun vo vi wr => ∃ (k n : Nat) (o : ByteArray), k ≤ s.size ∧ o.size = 2 * k ∧ vi = .int .i64 k ∧ vo = .string o ∧ wr = w.drewN n ∧ Hid (o.data.toList = hexOf (s.data.toList.take k))) (fun _ vi _ => s.size - (intOf vi).toNat)
  case atStart => exact ⟨0, 0, ⟨#[]⟩, by omega, rfl, rfl, rfl, rfl, rfl⟩
  case round =>
    obtain ⟨k, n, o, hk, ho, rfl, rfl, rfl, HO⟩ := hrel
    by_cases hlt : k < s.size
    · have hc : s[k].toNat < 256 := s[k].toNat_lt
      have h15 := and15 _ hc
      generalize hcc : s[k].toNat = c at *
      have hq : c / 16 < 16 := by omega
      have hr : c % 16 < 16 := by omega
      have HN := Lib.hid (fun q r => hex_next (q := q) (r := r) hlt hcc hq hr HO.out)
      go_wp2_with fail
      go_region
      go_wp2_with fail
      go_round
      case rel => exact ⟨k + 1, n + 1, _, by omega, hex_size (HN.out _ _ rfl rfl) (by omega), by go_num, rfl, rfl, HN.out _ _ rfl rfl⟩
      case measure => simp [intOf]; omega
    · obtain rfl : k = s.size := by omega
      go_wp2_with fail
      go_ret
      exact ⟨ret_string (of_list (by rw [HO.out, List.take_of_length_le (by rw [size_list]; exact Nat.le_refl _)])), n, rfl⟩
end Go.Proofs.YtekbeicoeoajoaaDoor.Vl
