/- Walk of the reference's Unhex. -/
import Derived.Test.YtekbeicoeoajoaaDoorUnhex5
namespace Go.Proofs.YtekbeicoeoajoaaDoor.Vl
open Go Go.RowKit Go.Proofs.YtekbeicoeoajoaaDoor.Nm Mem Go.Proofs.YtekbeicoeoajoaaDoor.Kp
attribute [local go_sem] run_bits run_frombits run_store_float

theorem wrap_small (k : Nat) (h : k ≤ 2000000) : IntKind.i64.wrap (k : Int) = (k : Int) := by
  rw [IntKind.wrap_i64]; omega
theorem byte_val {dx dy : Int} {a b : Nat} (ha : dx = (a : Int)) (hb : dy = (b : Int)) (a16 : a < 16) (b16 : b < 16) : wrap64 (wrap64 (dx * 16) + dy) % 256 = ((a * 16 + b : Nat) : Int) := by
  subst ha; subst hb
  unfold wrap64
  omega
theorem map_next {m : List UInt8} {a b : Nat} (ha : a < 16) (hb : b < 16) : m.map UInt8.toNat ++ [a * 16 + b] = (m ++ [UInt8.ofNat (a * 16 + b)]).map UInt8.toNat := by
  have e : (UInt8.ofNat (a * 16 + b)).toNat = a * 16 + b := by rw [UInt8.toNat_ofNat']; exact Nat.mod_eq_of_lt (show a * 16 + b < 2 ^ 8 by omega)
  rw [List.map_append, List.map_cons, List.map_nil, e]
theorem belowN {w w' : World} (h : Kept None w w') : Below w.heap.size w w' := h.below (Nat.le_refl _) (fun _ h => h.elim)
set_option maxRecDepth 4000 in
set_option maxHeartbeats 8000000 in
theorem Unhex_any (s : ByteArray) (hs : s.size ≤ 1000000) (w : World) :
    Calls Tryd.prog 43 #[.string s] w fun e w' => ∃ (o : List UInt8) (ok : Bool), e = .returned (.tuple #[.string ⟨o.toArray⟩, .bool ok]) ∧ UnTold s.data.toList o ok ∧ Below w.heap.size w w' := by
  obtain ⟨i0, hi, hz0, hz1, hz2⟩ := info_parts infoU8
  have hlen := size_list s
  obtain ⟨L, hL⟩ : ∃ L, L = s.data.toList := ⟨_, rfl⟩
  rw [← hL] at hlen ⊢
  have hget : ∀ k (hk : k < s.size), s[k].toNat = (L.getD k 0).toNat := fun k hk => by
    subst hL
    show _ = ((s.data.toList[k]?).getD 0).toNat
    rw [List.getElem?_eq_getElem (by rw [hlen]; exact hk), Array.getElem_toList]
    rfl
  have HG := Lib.hid hget
  have HLN := Lib.hid hlen
  clear hget hL hlen
  by_cases hodd : s.size % 2 = 0
  · have ho : ((s.size : Int) % 2 != 0) = false := by rw [bne_eq_false_iff_eq]; omega
    have ho2 : (Int.tmod (s.size : Int) 2 != 0) = false := by rw [Int.tmod_eq_emod_of_nonneg (by omega)]; exact ho
    have HODD := Lib.hid hodd
    clear hodd
    go_enter Tryd.func43, Tryd.ntmps43
    go_wp2
    go_loopw [4, 5] (fun v vi wr => ∃ (k : Nat) (m : List UInt8), k ≤ s.size ∧ vi = .int .i64 k ∧ Hid (k = 2 * m.length ∧ L.take k = hexOf m ∧ Mine w wr v (m.map UInt8.toNat))) (fun _ vi _ => s.size - (intOf vi).toNat)
    case atStart => exact ⟨0, [], by omega, rfl, rfl, rfl, Mine.start w⟩
    case round =>
      obtain ⟨k, m, hk, rfl, HM⟩ := hrel
      by_cases hlt : k < s.size
      · have hlt1 : k + 1 < s.size := by have := HODD.out; have := HM.out.1; omega
        have g0 := HG.out k hlt
        obtain ⟨k1, hk1⟩ : ∃ k1, k1 = k + 1 := ⟨_, rfl⟩
        have hkk1 : (k : Int) + 1 = (k1 : Int) := by omega
        have hlt2 : k1 < s.size := by omega
        have hw1 : IntKind.i64.wrap (k1 : Int) = (k1 : Int) := wrap_small k1 (by omega)
        have g1 := HG.out k1 hlt2
        have HK1 := Lib.hid hk1
        have e1 : (L.getD k1 0) = L.getD (k + 1) 0 := by rw [hk1]
        rw [e1] at g1
        clear hk1 e1
        have c0 : (L.getD k 0).toNat < 256 := UInt8.toNat_lt _
        have c1 : (L.getD (k + 1) 0).toNat < 256 := UInt8.toNat_lt _
        obtain ⟨x, hx⟩ : ∃ x, x = (L.getD k 0).toNat := ⟨_, rfl⟩
        obtain ⟨y, hy⟩ : ∃ y, y = (L.getD (k + 1) 0).toNat := ⟨_, rfl⟩
        rw [← hx] at g0 c0
        rw [← hy] at g1 c1
        have HX := Lib.hid hx
        have HY := Lib.hid hy
        clear hx hy
        obtain ⟨bl, al, cap, rfl, ho, hbl, hbl2, hkk⟩ := HM.out.2.2
        have HO := Lib.hid ho
        have HK := Lib.hid hkk
        clear ho hkk
        have hml : 2 * m.length ≤ 1000000 := by have := HM.out.1; omega
        have hml2 : (m.map UInt8.toNat).length = m.length := List.length_map ..
        have dx16 := fun h => digB_lt x h
        have dy16 := fun h => digB_lt y h
        have HN : Hid (digB x < 0 ∨ digB y < 0 → ∀ t, L ≠ hexOf t) := fun h t e => by
          have p := hex_digit e (k := k) (by rw [HLN.out]; exact hlt)
          have q := hex_digit e (k := k + 1) (by rw [HLN.out]; exact hlt1)
          rw [← HX.out] at p
          rw [← HY.out] at q
          omega
        have HS := Lib.hid (fun a b => hex_pair (s := L) (m := m) (k := k) (a := a) (b := b) (by rw [HLN.out]; exact hlt1) HM.out.2.1)
        rw [← HX.out, ← HY.out] at HS
        have HDX := Lib.hid dx16
        have HDY := Lib.hid dy16
        clear dx16 dy16
        generalize hdx : digB x = dx at *
        generalize hdy : digB y = dy at *
        by_cases h0 : dx < 0
        · have HN0 := Lib.hid (HN.out (.inl h0))
          have e0 : decide (dx < 0) = true := decide_eq_true h0
          go_wp2
          go_region_with ((go_at_call 55; refine (Digit_any _ (by assumption) _).mono ?_; rintro e w' ⟨rfl, rfl⟩))
          all_goals go_wp2
          all_goals go_ret2
          all_goals exact ⟨[], false, rfl, .inr ⟨rfl, rfl, HN0.out⟩, by repeat' (first | exact belowN HK.out | refine Below.drew ?_)⟩
        · have e0 : decide (dx < 0) = false := decide_eq_false h0
          by_cases h1 : dy < 0
          · have HN0 := Lib.hid (HN.out (.inr h1))
            have e1 : decide (dy < 0) = true := decide_eq_true h1
            go_wp2
            go_region_with ((go_at_call 55; refine (Digit_any _ (by assumption) _).mono ?_; rintro e w' ⟨rfl, rfl⟩))
            all_goals go_wp2
            all_goals go_ret2
            all_goals exact ⟨[], false, rfl, .inr ⟨rfl, rfl, HN0.out⟩, by repeat' (first | exact belowN HK.out | refine Below.drew ?_)⟩
          · have e1 : decide (dy < 0) = false := decide_eq_false h1
            obtain ⟨a, ha⟩ := Int.eq_ofNat_of_zero_le (show 0 ≤ dx by omega)
            obtain ⟨b, hb⟩ := Int.eq_ofNat_of_zero_le (show 0 ≤ dy by omega)
            have a16 : a < 16 := by have := HDX.out (by omega); omega
            have b16 : b < 16 := by have := HDY.out (by omega); omega
            have HBY := Lib.hid (byte_val ha hb a16 b16)
            have HNX := Lib.hid (HS.out a b ha hb)
            have HAB := Lib.hid ha
            clear ha hb
            go_wp2
            go_region_with ((go_at_call 55; refine (Digit_any _ (by assumption) _).mono ?_; rintro e w' ⟨rfl, rfl⟩))
            all_goals go_wp2_with (at_builtin; refine wpList_append_bytes rfl _ _ 58 rfl 5 i0 Tryd.underlying58 hi hz0 hz1 hz2 bl al cap (m.map UInt8.toNat) _ rfl (HO.out.kept ((Kept.refl None wr).alloc _).drew (fun _ h => h)) hml2 wr.heap.size _ 1 [a * 16 + b] 1 rfl ((shows_lit wr _ _ _ HBY.out).kept (Kept.refl None _).drew (fun _ h => h)) rfl (by omega) ?_)
            all_goals
              intro b' a' cap' w' h2 h3 h4 h5
              have H2 := Lib.hid h2
              have H3 := Lib.hid h3
              have H4 := Lib.hid h4
              clear h2 h3 h4 h5
              go_wp2
              go_roundw
              case rel => exact ⟨k + 2, m ++ [UInt8.ofNat (a * 16 + b)], by omega, by go_num, by have := HM.out.1; simp; omega, HNX.out, mine_append' (map_next a16 b16) (by simp) hbl HK.out ((Kept.refl None wr).alloc _).drew H2.out H3.out (H4.out.imp id (fun h => by simpa using h))⟩
              case measure => simp [intOf]; omega
      · obtain rfl : k = s.size := by omega
        obtain ⟨bl, al, cap, rfl, ho, hbl, hbl2, hkk⟩ := HM.out.2.2
        have hml2 : (m.map UInt8.toNat).length = m.length := List.length_map ..
        have HCV := run_string wr bl al cap (m.map UInt8.toNat).length m hml2 ho
        have HCW := run_string wr bl al cap m.length m rfl ho
        have HK := Lib.hid hkk
        clear ho hkk
        go_wp2
        go_ret2
        exact ⟨m, true, rfl, .inl ⟨rfl, by have := HM.out.2.1; rwa [List.take_of_length_le (by rw [HLN.out]; exact Nat.le_refl _)] at this⟩, belowN HK.out⟩
  · have ho : ((s.size : Int) % 2 != 0) = true := by rw [bne_iff_ne]; omega
    have ho2 : (Int.tmod (s.size : Int) 2 != 0) = true := by rw [Int.tmod_eq_emod_of_nonneg (by omega)]; exact ho
    have HN : Hid (∀ t, L ≠ hexOf t) := fun t e => by
      have := congrArg List.length e
      rw [hexOf_length, HLN.out] at this
      omega
    clear hodd
    go_enter Tryd.func43, Tryd.ntmps43
    go_wp2
    go_ret2
    exact ⟨[], false, rfl, .inr ⟨rfl, rfl, HN.out⟩, Below.refl _ _⟩
end Go.Proofs.YtekbeicoeoajoaaDoor.Vl
