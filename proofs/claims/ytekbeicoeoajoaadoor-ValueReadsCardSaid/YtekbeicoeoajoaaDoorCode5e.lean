/- Walk of the landed package value: bytesOf. -/
import Derived.Test.YtekbeicoeoajoaaDoorCode5d
import Derived.Test.YtekbeicoeoajoaaDoorShelfS
import Derived.Test.YtekbeicoeoajoaaDoorValText
namespace Go.Proofs.YtekbeicoeoajoaaDoor.Vl
open Go Go.RowKit Go.Proofs.YtekbeicoeoajoaaDoor.Nm Mem Go.Proofs.YtekbeicoeoajoaaDoor.Kp
attribute [local go_sem] run_bits run_frombits run_store_float

theorem index_all : ∀ c : Fin 256, Lib.indexByte [48, 49, 50, 51, 52, 53, 54, 55, 56, 57, 97, 98, 99, 100, 101, 102] ((c.val : Int).toNat.toUInt8) = digB c.val := by decide +kernel
theorem index_digit (c : Nat) (hc : c < 256) (w : World) :
    Calls Tryd.prog 61 #[.string ⟨#[48, 49, 50, 51, 52, 53, 54, 55, 56, 57, 97, 98, 99, 100, 101, 102]⟩, .int .u8 c] w fun e w' => e = .returned (.int .i64 (digB c)) ∧ w = w' := by
  refine (Tryd.strings_IndexByte _ _ w).mono ?_
  rintro e w' ⟨rfl, rfl⟩
  exact ⟨by rw [← index_all ⟨c, hc⟩], rfl⟩
theorem or_all : ∀ a b : Fin 16, bits .or .i64 ((a.val : Int) * 16) (b.val : Int) % 256 = ((a.val * 16 + b.val : Nat) : Int) := by decide +kernel
theorem or_byte (a b : Nat) (ha : a < 16) (hb : b < 16) : bits .or .i64 ((a : Int) * 16) (b : Int) % 256 = ((a * 16 + b : Nat) : Int) := or_all ⟨a, ha⟩ ⟨b, hb⟩
/-- what is told of digits that are read, few of them -/
def FewTold (l o : List UInt8) : Prop := o.length ≤ 32 ∧ ∀ t : List UInt8, t.length ≤ 32 → l = hexOf t → t = o
theorem few_of {l m : List UInt8} {k : Nat} (hk : k = 2 * m.length) (hm : m.length ≤ 32) (h : l.take k = hexOf m) (hend : l.length < k + 2 ∨ m.length = 32) : FewTold l m := by
  refine ⟨hm, fun t ht e => ?_⟩
  have hl : l.length = 2 * t.length := by rw [e, hexOf_length]
  have hkl : k ≤ l.length := by
    have := congrArg List.length h
    rw [hexOf_length, List.length_take] at this
    omega
  have : l.length = k := by omega
  rw [← this, List.take_length] at h
  exact hexOf_inj _ _ (e.symm.trans h)
theorem few_not {l m : List UInt8} (hm : m.length ≤ 32) (h : ∀ t, l ≠ hexOf t) : FewTold l m := ⟨hm, fun t _ e => absurd e (h t)⟩
theorem drop_at {l : List UInt8} {d : ByteArray} {k : Nat} (h : d.data.toList = l.drop k) (j : Nat) (hj : j < d.size) : d[j].toNat = (l.getD (k + j) 0).toNat := by
  have hj2 : j < d.data.toList.length := by rw [size_list]; exact hj
  have e : d[j] = d.data.toList[j] := by rw [Array.getElem_toList]; rfl
  rw [e, List.getD_eq_getElem?_getD]
  have : (l.drop k)[j]? = some d.data.toList[j] := by rw [← h, List.getElem?_eq_getElem hj2]
  rw [List.getElem?_drop] at this
  rw [this]; rfl
theorem drop_two {l : List UInt8} {d : ByteArray} {k : Nat} (h : d.data.toList = l.drop k) : (d.extract 2 d.size).data.toList = l.drop (k + 2) := by
  have : (d.extract 2 d.size).data.toList = d.data.toList.drop 2 := by
    rw [ByteArray.data_extract, Array.toList_extract, List.extract_eq_take_drop, ← size_list]
    exact List.take_of_length_le (by rw [List.length_drop]; exact Nat.le_refl _)
  rw [this, h, List.drop_drop]
set_option maxRecDepth 4000 in
set_option maxHeartbeats 8000000 in
theorem bytesOf_any (s : ByteArray) (hs : s.size ≤ 1000000) (w : World) :
    Calls Tryd.prog 54 #[.string s] w fun e w' => ∃ o : List UInt8, e = .returned (.string ⟨o.toArray⟩) ∧ FewTold s.data.toList o ∧ Below w.heap.size w w' := by
  obtain ⟨i0, hi, hz0, hz1, hz2⟩ := info_parts infoU8
  have hlen := size_list s
  obtain ⟨L, hL⟩ : ∃ L, L = s.data.toList := ⟨_, rfl⟩
  rw [← hL] at hlen ⊢
  have HLN := Lib.hid hlen
  have HL := Lib.hid hL
  clear hL hlen
  go_enter Tryd.func54, Tryd.ntmps54
  go_wp2
  go_loopw [0, 3] (fun v0 v wr => ∃ (d : ByteArray) (k : Nat) (m : List UInt8), v0 = .string d ∧ d.size + k = s.size ∧ m.length ≤ 32 ∧ Hid (d.data.toList = L.drop k) ∧ Hid (k = 2 * m.length ∧ L.take k = hexOf m ∧ Mine w wr v (m.map UInt8.toNat))) (fun v0 _ _ => match v0 with | .string d => d.size | _ => 0)
  case atStart => exact ⟨s, 0, [], rfl, by omega, by simp, by rw [HL.out]; rfl, rfl, rfl, Mine.start w⟩
  case round =>
    obtain ⟨d, k, m, rfl, hdk, hm32, HD, HM⟩ := hrel
    obtain ⟨bl, al, cap, rfl, ho, hbl, hbl2, hkk⟩ := HM.out.2.2
    have hml2 : (m.map UInt8.toNat).length = m.length := List.length_map ..
    have HCV := run_string wr bl al cap (m.map UInt8.toNat).length m hml2 ho
    have HCW := run_string wr bl al cap m.length m rfl ho
    have HO := Lib.hid ho
    have HK := Lib.hid hkk
    clear ho hkk
    rcases Nat.lt_or_ge d.size 2 with h2 | h2
    · have HF := Lib.hid (few_of HM.out.1 hm32 HM.out.2.1 (.inl (by rw [HLN.out]; omega)))
      go_wp2
      go_ret
      exact ⟨m, rfl, HF.out, belowN HK.out⟩
    · have h2i : decide ((2 : Int) ≤ (d.size : Int)) = true := decide_eq_true (by omega)
      rcases Nat.lt_or_ge m.length 32 with h3 | h3
      · have g0 := drop_at HD.out 0 (by omega)
        have g1 := drop_at HD.out 1 (by omega)
        rw [Nat.add_zero] at g0
        have c0 : (L.getD k 0).toNat < 256 := UInt8.toNat_lt _
        have c1 : (L.getD (k + 1) 0).toNat < 256 := UInt8.toNat_lt _
        obtain ⟨x, hx⟩ : ∃ x, x = (L.getD k 0).toNat := ⟨_, rfl⟩
        obtain ⟨y, hy⟩ : ∃ y, y = (L.getD (k + 1) 0).toNat := ⟨_, rfl⟩
        rw [← hx] at g0 c0
        rw [← hy] at g1 c1
        have HX := Lib.hid hx
        have HY := Lib.hid hy
        clear hx hy
        have dx16 := fun h => digB_lt x h
        have dy16 := fun h => digB_lt y h
        have HN : Hid (digB x < 0 ∨ digB y < 0 → ∀ t, L ≠ hexOf t) := fun h t e => by
          have p := hex_digit e (k := k) (by rw [HLN.out]; omega)
          have q := hex_digit e (k := k + 1) (by rw [HLN.out]; omega)
          rw [← HX.out] at p
          rw [← HY.out] at q
          omega
        have HS := Lib.hid (fun a b => hex_pair (s := L) (m := m) (k := k) (a := a) (b := b) (by rw [HLN.out]; omega) HM.out.2.1)
        rw [← HX.out, ← HY.out] at HS
        have HDX := Lib.hid dx16
        have HDY := Lib.hid dy16
        clear dx16 dy16
        have CX : Hid (∀ W, Calls Tryd.prog 61 #[.string ⟨#[48, 49, 50, 51, 52, 53, 54, 55, 56, 57, 97, 98, 99, 100, 101, 102]⟩, .int .u8 x] W fun e w' => e = .returned (.int .i64 (digB x)) ∧ W = w') := fun W => index_digit x c0 W
        have CY : Hid (∀ W, Calls Tryd.prog 61 #[.string ⟨#[48, 49, 50, 51, 52, 53, 54, 55, 56, 57, 97, 98, 99, 100, 101, 102]⟩, .int .u8 y] W fun e w' => e = .returned (.int .i64 (digB y)) ∧ W = w') := fun W => index_digit y c1 W
        generalize hdx : digB x = dx at *
        generalize hdy : digB y = dy at *
        by_cases h0 : dx < 0
        · have HN0 := Lib.hid (few_not hm32 (HN.out (.inl h0)))
          go_wp2_with fail
          refine (CX.out _).mono ?_
          rintro e w' ⟨rfl, rfl⟩
          go_wp2_with fail
          refine (CY.out _).mono ?_
          rintro e w' ⟨rfl, rfl⟩
          go_wp2_with fail
          go_ret
          exact ⟨m, rfl, HN0.out, belowN HK.out⟩
        · by_cases h1 : dy < 0
          · have HN0 := Lib.hid (few_not hm32 (HN.out (.inr h1)))
            go_wp2_with fail
            refine (CX.out _).mono ?_
            rintro e w' ⟨rfl, rfl⟩
            go_wp2_with fail
            refine (CY.out _).mono ?_
            rintro e w' ⟨rfl, rfl⟩
            go_wp2_with fail
            go_ret
            exact ⟨m, rfl, HN0.out, belowN HK.out⟩
          · obtain ⟨a, ha⟩ := Int.eq_ofNat_of_zero_le (show 0 ≤ dx by omega)
            obtain ⟨b, hb⟩ := Int.eq_ofNat_of_zero_le (show 0 ≤ dy by omega)
            have a16 : a < 16 := by have := HDX.out (by omega); omega
            have b16 : b < 16 := by have := HDY.out (by omega); omega
            have HNX := Lib.hid (HS.out a b ha hb)
            have HBY := Lib.hid (or_byte a b a16 b16)
            subst ha hb
            clear h0 h1 hdx hdy
            go_wp2_with fail
            refine (CX.out _).mono ?_
            rintro e w' ⟨rfl, rfl⟩
            go_wp2_with fail
            refine (CY.out _).mono ?_
            rintro e w' ⟨rfl, rfl⟩
            go_wp2_with (at_builtin; refine wpList_append_bytes rfl _ _ 58 rfl 5 i0 Tryd.underlying58 hi hz0 hz1 hz2 bl al cap (m.map UInt8.toNat) _ rfl (HO.out.kept ((Kept.refl None wr).alloc _) (fun _ h => h)) hml2 wr.heap.size _ 1 [a * 16 + b] 1 rfl (shows_lit wr _ _ _ HBY.out) rfl (by omega) ?_)
            intro b' a' cap' w' h2 h3 h4 h5
            have H2 := Lib.hid h2
            have H3 := Lib.hid h3
            have H4 := Lib.hid h4
            clear h2 h3 h4 h5
            go_wp2
            go_roundw
            case rel => exact ⟨d.extract 2 d.size, k + 2, m ++ [UInt8.ofNat (a * 16 + b)], rfl, by rw [ByteArray.size_extract]; omega, by simp; omega, drop_two HD.out, by have := HM.out.1; simp; omega, HNX.out, mine_append' (map_next a16 b16) (by simp) hbl HK.out ((Kept.refl None wr).alloc _) H2.out H3.out (H4.out.imp id (fun h => by simpa using h))⟩
            case measure => simp; omega
      · have HF := Lib.hid (few_of HM.out.1 hm32 HM.out.2.1 (.inr (by omega)))
        go_wp2
        go_ret
        exact ⟨m, rfl, HF.out, belowN HK.out⟩
end Go.Proofs.YtekbeicoeoajoaaDoor.Vl
