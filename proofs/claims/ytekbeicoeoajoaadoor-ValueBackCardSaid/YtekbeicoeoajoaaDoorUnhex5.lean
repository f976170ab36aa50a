/- Walk of the reference's Unhex. -/
import Derived.Test.YtekbeicoeoajoaaDoorRefText5
import Derived.Test.YtekbeicoeoajoaaDoorOwnM
import Derived.Laws.IdiomStrings
namespace Go.Proofs.YtekbeicoeoajoaaDoor.Vl
open Go Go.RowKit Go.Proofs.YtekbeicoeoajoaaDoor.Nm Mem Go.Proofs.YtekbeicoeoajoaaDoor.Kp
attribute [local go_sem] run_bits run_frombits run_store_float

/-- what is told of digits that are read -/
def UnTold (s : List UInt8) (o : List UInt8) (ok : Bool) : Prop := (ok = true ∧ s = hexOf o) ∨ (ok = false ∧ o = [] ∧ ∀ t, s ≠ hexOf t)
theorem hexOf_at : ∀ (t : List UInt8) (j : Nat) (h : j < t.length), (hexOf t)[2 * j]? = some (UInt8.ofNat (hexd (t[j].toNat / 16))) ∧ (hexOf t)[2 * j + 1]? = some (UInt8.ofNat (hexd (t[j].toNat % 16)))
  | [], j, h => by cases h
  | c :: r, 0, _ => ⟨rfl, rfl⟩
  | c :: r, j + 1, h => by
    have := hexOf_at r j (by simpa using h)
    exact this
/-- a byte of a row of digits is one -/
theorem hex_digit {s t : List UInt8} (e : s = hexOf t) {k : Nat} (hk : k < s.length) : 0 ≤ digB (s.getD k 0).toNat := by
  subst e
  rw [hexOf_length] at hk
  have key : ∃ d, d < 16 ∧ (hexOf t)[k]? = some (UInt8.ofNat (hexd d)) := by
    obtain ⟨j, hj⟩ : ∃ j, k = 2 * j ∨ k = 2 * j + 1 := ⟨k / 2, by omega⟩
    rcases hj with rfl | rfl
    · exact ⟨t[j].toNat / 16, by have := t[j].toNat_lt; omega, (hexOf_at t j (by omega)).1⟩
    · exact ⟨t[j].toNat % 16, by omega, (hexOf_at t j (by omega)).2⟩
  obtain ⟨d, hd, e⟩ := key
  have h1 := hexd_lt d hd
  rw [List.getD_eq_getElem?_getD, e]
  show 0 ≤ digB (UInt8.ofNat (hexd d)).toNat
  rw [UInt8.toNat_ofNat', Nat.mod_eq_of_lt (show hexd d < 2 ^ 8 from h1), digB_hexd d hd]
  omega
theorem run_string (w : World) (b : Nat) (a : Option Addr) (cap n : Nat) (l : List UInt8) (hn : n = l.length) (h : OwnB 5 w b a cap (l.map UInt8.toNat)) :
    (convert 58 9 (.slice a n cap)).run Tryd.prog w = .ok (.string ⟨l.toArray⟩) w := by
  subst hn
  have hc := h
  rcases h with ⟨rfl, rfl, h3⟩ | ⟨rfl, h1, h2, _⟩
  · have : l = [] := by simpa using h3
    subst this
    rw [run_convert_bytes_string w _ _ _ _ _ _ Tryd.underlying58 Tryd.underlying5 Tryd.underlying9]
    simp [Conv.bytesToString]
    rfl
  · refine run_convert_bytes_back w _ _ _ _ cap l Tryd.underlying58 Tryd.underlying5 Tryd.underlying9 (fun j hj => ?_)
    have := hc.cellAt j (by simpa using hj)
    have e : (⟨b, 0, none⟩ : Addr).add j = ⟨b, j, none⟩ := by unfold Addr.add; split <;> simp_all
    rw [e, this]
    simp [hj]
theorem hex_pair {s : List UInt8} {m : List UInt8} {k a b : Nat} (hk : k + 1 < s.length) (h : s.take k = hexOf m) (ha : digB (s.getD k 0).toNat = (a : Int)) (hb : digB (s.getD (k + 1) 0).toNat = (b : Int)) :
    s.take (k + 2) = hexOf (m ++ [UInt8.ofNat (a * 16 + b)]) := by
  have a16 := digB_lt _ (by rw [ha]; omega : 0 ≤ digB (s.getD k 0).toNat)
  have b16 := digB_lt _ (by rw [hb]; omega : 0 ≤ digB (s.getD (k + 1) 0).toNat)
  have ea := hexd_digB _ (by rw [ha]; omega : 0 ≤ digB (s.getD k 0).toNat)
  have eb := hexd_digB _ (by rw [hb]; omega : 0 ≤ digB (s.getD (k + 1) 0).toNat)
  rw [ha] at a16 ea
  rw [hb] at b16 eb
  have e1 : s.take (k + 1) = s.take k ++ [s.getD k 0] := by
    rw [take_next (by omega), List.getD_eq_getElem?_getD, List.getElem?_eq_getElem (by omega)]; rfl
  have e2 : s.take (k + 2) = s.take (k + 1) ++ [s.getD (k + 1) 0] := by
    rw [take_next (l := s) (k := k + 1) (by omega), List.getD_eq_getElem?_getD, List.getElem?_eq_getElem (by omega)]; rfl
  rw [e2, e1, hexOf_append, ← h, List.append_assoc]
  congr 1
  have hv : (UInt8.ofNat (a * 16 + b)).toNat = a * 16 + b := by rw [UInt8.toNat_ofNat']; exact Nat.mod_eq_of_lt (show a * 16 + b < 2 ^ 8 by omega)
  have d1 : (a * 16 + b) / 16 = a := by omega
  have d2 : (a * 16 + b) % 16 = b := by omega
  have f1 : UInt8.ofNat (hexd a) = s.getD k 0 := by rw [← Int.toNat_natCast a, ea]; exact UInt8.ofNat_toNat
  have f2 : UInt8.ofNat (hexd b) = s.getD (k + 1) 0 := by rw [← Int.toNat_natCast b, eb]; exact UInt8.ofNat_toNat
  show [s.getD k 0] ++ [s.getD (k + 1) 0] = [UInt8.ofNat (hexd ((UInt8.ofNat (a * 16 + b)).toNat / 16)), UInt8.ofNat (hexd ((UInt8.ofNat (a * 16 + b)).toNat % 16))]
  rw [hv, d1, d2, f1, f2]
  rfl
end Go.Proofs.YtekbeicoeoajoaaDoor.Vl
