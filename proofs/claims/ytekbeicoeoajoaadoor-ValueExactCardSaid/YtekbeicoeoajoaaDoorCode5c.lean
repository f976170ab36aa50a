/- Walk of the landed package value: hexOf. -/
import Derived.Test.YtekbeicoeoajoaaDoorUnhexW
import Derived.Laws.MakeOwn
import Derived.StillTailTactics
namespace Go.Proofs.YtekbeicoeoajoaaDoor.Vl
open Go Go.RowKit Go.Proofs.YtekbeicoeoajoaaDoor.Nm Mem Go.Proofs.YtekbeicoeoajoaaDoor.Kp
attribute [local go_sem] run_bits run_frombits run_store_float

theorem dig16_all : ∀ d : Fin 16, ∀ h : d.val < (⟨#[48, 49, 50, 51, 52, 53, 54, 55, 56, 57, 97, 98, 99, 100, 101, 102]⟩ : ByteArray).size,
    ((⟨#[48, 49, 50, 51, 52, 53, 54, 55, 56, 57, 97, 98, 99, 100, 101, 102]⟩ : ByteArray)[d.val]'h).toNat = hexd d.val := by decide +kernel
theorem dig16 (d : Nat) (hd : d < 16) (h : d < (⟨#[48, 49, 50, 51, 52, 53, 54, 55, 56, 57, 97, 98, 99, 100, 101, 102]⟩ : ByteArray).size) :
    (((⟨#[48, 49, 50, 51, 52, 53, 54, 55, 56, 57, 97, 98, 99, 100, 101, 102]⟩ : ByteArray)[d]'h).toNat : Int) = (hexd d : Int) := congrArg _ (dig16_all ⟨d, hd⟩ h)
theorem shows_two (w : World) (t : TypeId) (u v : Int) (x y : Nat) (hu : u = (x : Int)) (hv : v = (y : Int)) : Src (w.alloc (.cells #[.int .u8 u, .int .u8 v] t)) w.heap.size (some ⟨w.heap.size, 0, none⟩) 2 [x, y] := by
  subst hu; subst hv
  exact (shows_made (m := [x, y]) (cap := 2) (heap_alloc_new w _) rfl (Nat.le_refl 2) (by decide)).src
theorem two_next {s : ByteArray} {k c : Nat} (hk : k < s.size) (hc : s[k].toNat = c) :
    (hexOf (s.data.toList.take k)).map UInt8.toNat ++ [hexd (c / 16), hexd (c % 16)] = (hexOf (s.data.toList.take (k + 1))).map UInt8.toNat := by
  have hl : k < s.data.toList.length := by rw [Array.length_toList]; exact hk
  have hb : s.data[k].toNat = c := hc
  have h256 : c < 256 := by rw [← hc]; exact UInt8.toNat_lt _
  have e1 := hexd_lt (c / 16) (by omega)
  have e2 := hexd_lt (c % 16) (by omega)
  rw [take_next hl, hexOf_append, List.map_append]
  simp [hexOf, hb, Nat.mod_eq_of_lt e1, Nat.mod_eq_of_lt e2]
theorem mine_make (w : World) (n : Nat) (hn : n ≤ 2000000) : Mine w (w.alloc (.cells (madeCells (Value.int .u8 0).cells (n * 1)) 5)) (.slice (some ⟨w.heap.size, 0, none⟩) 0 n) [] :=
  ⟨w.heap.size, _, n, rfl, own_new (l := []) (Nat.zero_le _) (by unfold maxLen; omega) (by simp [size_madeCells]) (by simp), Nat.le_refl _, Nat.le_of_lt (by simp), (Kept.refl _ _).alloc _⟩
set_option maxHeartbeats 4000000 in
set_option maxRecDepth 4000 in
theorem hexOf_any (s : ByteArray) (hs : s.size ≤ 1000000) (w : World) :
    Calls Tryd.prog 38 #[.string s] w fun e w' => e = .returned (.string ⟨(hexOf s.data.toList).toArray⟩) ∧ Below w.heap.size w w' := by
  obtain ⟨i0, hi, hz0, hz1, hz2⟩ := info_parts infoU8
  obtain ⟨W1, hW1⟩ : ∃ W, W = w.alloc (.cells (madeCells (Value.int .u8 0).cells ((2 * s.size) * 1)) 5) := ⟨_, rfl⟩
  have hmk : (Instr.makeSlice 58 (.int .i64 0) (.int .i64 (2 * (s.size : Int)))).run Tryd.prog w = .ok (.slice (some ⟨w.heap.size, 0, none⟩) 0 (2 * s.size)) W1 := by
    have h := run_make (P := Tryd.prog) w 58 5 i0 _ Tryd.underlying58 hi hz0 .i64 .i64 0 (2 * (s.size : Int)) (by omega) (by omega) (by rw [hz2]; omega) (by omega)
    rw [show (2 * (s.size : Int)).toNat = 2 * s.size by omega, hz1] at h
    rw [hW1]; exact h
  have HM1 : Hid (Mine w W1 (.slice (some ⟨w.heap.size, 0, none⟩) 0 (2 * s.size)) []) := by rw [hW1]; exact mine_make w _ (by omega)
  clear hW1
  go_enter Tryd.func38, Tryd.ntmps38
  go_wp2
  go_loopw [3, 4, 11] (fun v _ vi wr => ∃ (k : Nat), k ≤ s.size ∧ vi = .int .i64 k ∧ Hid (Mine w wr v ((hexOf (s.data.toList.take k)).map UInt8.toNat))) (fun _ _ vi _ => s.size - (intOf vi).toNat)
  case atStart => exact ⟨0, by omega, rfl, HM1.out⟩
  case round =>
    obtain ⟨k, hk, rfl, HM⟩ := hrel
    obtain ⟨bl, al, cap, rfl, ho, hbl, hbl2, hkk⟩ := HM.out
    have hml2 : ((hexOf (s.data.toList.take k)).map UInt8.toNat).length = 2 * k := by rw [List.length_map, hexOf_length, List.length_take, size_list, Nat.min_eq_left hk]
    have HO := Lib.hid ho
    have HK := Lib.hid hkk
    clear ho hkk
    by_cases hlt : k < s.size
    · have hc : s[k].toNat < 256 := s[k].toNat_lt
      have h15 := and15 _ hc
      have HN := Lib.hid (fun c hcc => two_next (c := c) hlt hcc)
      generalize hcc : s[k].toNat = c at *
      have HNN := Lib.hid (HN.out c rfl)
      obtain ⟨q, hq⟩ : ∃ q, q = c / 16 := ⟨_, rfl⟩
      obtain ⟨r, hr⟩ : ∃ r, r = c % 16 := ⟨_, rfl⟩
      have hcq : (c : Int) / 16 = (q : Int) := by omega
      have q16 : q < 16 := by omega
      have r16 : r < 16 := by omega
      have q16i : (q : Int) < 16 := by omega
      have r16i : (r : Int) < 16 := by omega
      rw [← hr] at h15
      rw [← hq, ← hr] at HNN
      clear hq hr HN hc
      go_wp2
      refine wp_region_any (by kernel_rfl) ?_
      change wpAny _ _ _ _ _ _ _ (World.drew _)
      refine wpAny_take (i := 0) (v := ?_) rfl (by kernel_rfl) (by kernel_rfl) (by kernel_rfl) (fun _ _ _ h => h) (Or.inl ⟨by rfl, ?_⟩) ?_
      rotate_left
      · intro w
        go_simp
        try with_reducible rfl
      refine wpAny_take (i := 1) (v := ?_) rfl (by kernel_rfl) (by kernel_rfl) (by kernel_rfl) (fun _ _ _ h => h) (Or.inl ⟨by rfl, ?_⟩) ?_
      rotate_left
      · intro w
        go_simp
        try with_reducible rfl
      refine wpAny_take (i := 2) (v := ?_) rfl (by kernel_rfl) (by kernel_rfl) (by kernel_rfl) (fun _ _ _ h => h) (Or.inl ⟨by rfl, ?_⟩) ?_
      rotate_left
      · intro w
        go_simp
        try with_reducible rfl
      go_simp
      refine wpAny_take (i := 3) (v := ?_) rfl (by kernel_rfl) (by kernel_rfl) (by kernel_rfl) (fun _ _ _ h => h) (Or.inl ⟨by rfl, ?_⟩) ?_
      rotate_left
      · intro w
        go_simp
        try with_reducible rfl
      go_simp
      refine wpAny_take (i := 4) (v := ?_) rfl (by kernel_rfl) (by kernel_rfl) (by kernel_rfl) (fun _ _ _ h => h) (Or.inl ⟨by rfl, ?_⟩) ?_
      rotate_left
      · intro w
        go_simp
        try with_reducible rfl
      go_simp
      refine wpAny_take (i := 5) (v := ?_) rfl (by kernel_rfl) (by kernel_rfl) (by kernel_rfl) (fun _ _ _ h => h) (Or.inl ⟨by rfl, ?_⟩) ?_
      rotate_left
      · intro w
        go_simp
        try with_reducible rfl
      go_simp
      refine wpAny_take (i := 6) (v := ?_) rfl (by kernel_rfl) (by kernel_rfl) (by kernel_rfl) (fun _ _ _ h => h) (Or.inl ⟨by rfl, ?_⟩) ?_
      rotate_left
      · intro w
        go_simp
        try with_reducible rfl
      refine wpAny_take (i := 7) (v := ?_) rfl (by kernel_rfl) (by kernel_rfl) (by kernel_rfl) (fun _ _ _ h => h) (Or.inl ⟨by rfl, ?_⟩) ?_
      rotate_left
      · intro w
        go_simp
        try with_reducible rfl
      go_simp
      refine wpAny_take (i := 8) (v := ?_) rfl (by kernel_rfl) (by kernel_rfl) (by kernel_rfl) (fun _ _ _ h => h) (Or.inl ⟨by rfl, ?_⟩) ?_
      rotate_left
      · intro w
        go_simp
        try with_reducible rfl
      go_simp
      refine wpAny_take (i := 9) (v := ?_) rfl (by kernel_rfl) (by kernel_rfl) (by kernel_rfl) (fun _ _ _ h => h) (Or.inl ⟨by rfl, ?_⟩) ?_
      rotate_left
      · intro w
        go_simp
        try with_reducible rfl
      go_simp
      refine wpAny_take (i := 10) (v := ?_) rfl (by kernel_rfl) (by kernel_rfl) (by kernel_rfl) (fun _ _ _ h => h) (Or.inl ⟨by rfl, ?_⟩) ?_
      rotate_left
      · intro w
        go_simp
        try with_reducible rfl
      go_simp
      refine wpAny_ready (rs := [11]) (by kernel_rfl) (by simp) ?_
      refine AllReady.cons rfl (fun K hK => ?_) AllReady.nil
      go_simp
      refine hK _ _ ?_
      clear hK K
      refine wpAny_ready (rs := [12]) (by kernel_rfl) (by simp) ?_
      refine AllReady.cons rfl (fun K hK => ?_) AllReady.nil
      refine step_append_bytes rfl (.tmp 14) (.tmp 25) 58 rfl 5 i0 Tryd.underlying58 hi hz0 hz1 hz2 bl al cap ((hexOf (s.data.toList.take k)).map UInt8.toNat) (2 * k) (by simp [Act.eval]) (HO.out.kept ((Kept.refl None wr).drew.alloc _) (fun _ h => h)) hml2 _ _ 2 [hexd q, hexd r] 2 (by simp [Act.eval]) (shows_two wr.drew _ _ _ _ _ (dig16 q q16 _) (dig16 r r16 _)) rfl (by omega) ?_
      intro b' a' cap' w' h2 h3 h4 h5
      have H2 := Lib.hid h2
      have H3 := Lib.hid h3
      have H4 := Lib.hid h4
      clear h2 h3 h4 h5
      try go_simp
      refine hK _ _ ?_
      clear hK K
      refine wpAny_ready (rs := [13]) (by kernel_rfl) (by simp) ?_
      refine AllReady.cons rfl (fun K hK => ?_) AllReady.nil
      go_simp
      refine hK _ _ ?_
      clear hK K
      refine wpAny_done (by kernel_rfl) ?_ _
      go_wp2
      go_roundw
      case rel => exact ⟨k + 1, by omega, by go_num, mine_append' HNN.out (by rw [List.length_map] at hml2; simp; omega) hbl HK.out ((Kept.refl None wr).drew.alloc _) H2.out H3.out (H4.out.imp id (fun h => by simpa using h))⟩
      case measure => simp [intOf]; omega
    · obtain rfl : k = s.size := by omega
      have hfull : s.data.toList.take s.size = s.data.toList := List.take_of_length_le (by rw [size_list]; exact Nat.le_refl _)
      have HCV := run_string wr bl al cap (2 * s.size) (hexOf (s.data.toList.take s.size)) (by rw [hfull, hexOf_length, size_list]) HO.out
      have HCW := run_string wr bl al cap ((hexOf (s.data.toList.take s.size)).map UInt8.toNat).length (hexOf (s.data.toList.take s.size)) (List.length_map ..) HO.out
      have HFULL := Lib.hid hfull
      clear hfull
      go_wp2
      go_ret
      exact ⟨ret_string (by rw [HFULL.out]), belowN HK.out⟩
end Go.Proofs.YtekbeicoeoajoaaDoor.Vl
