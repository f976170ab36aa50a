import Derived.Test.YtaengjgmchpabaaGreatMergeWr6
import Derived.Test.YtaengjgmchpabaaGreatMergeWr7
import Derived.Test.YtaengjgmchpabaaGreatMergeWr11
import Derived.Test.YtaengjgmchpabaaGreatMergeWr10
section
/- Walks of the reference's High and Int. -/
namespace Go.Proofs.YtaengjgmchpabaaGreat.Pk
open Go Go.RowKit Mem
theorem shows_lit (w : World) (t : TypeId) (v : Int) (x : Nat) (hv : v = (x : Int)) : Src (w.alloc (.cells #[.int .u8 v] t)) w.heap.size (some ⟨w.heap.size, 0, none⟩) 1 [x] := by
  subst hv
  exact (shows_made (m := [x]) (cap := 1) (heap_alloc_new w _) rfl (Nat.le_refl 1) (by decide)).src
/-- bytes of its own that a loop has appended to: in a block that was not there when the call began -/
def Mine (w wr : World) (v : Value) (l : List Nat) : Prop := ∃ b a cap, v = .slice a l.length cap ∧ OwnB 5 wr b a cap l ∧ w.heap.size ≤ b ∧ b ≤ wr.heap.size ∧ Kept None w wr
theorem Mine.start (w : World) : Mine w w (.slice none 0 0) [] := ⟨w.heap.size, none, 0, rfl, OwnB.nil _ _ _, Nat.le_refl _, Nat.le_refl _, Kept.refl _ _⟩
/-- behind an append (in wa: the world in which it is done) -/
theorem mine_append {w wr wa w' : World} {b b' : Nat} {a a' : Option Addr} {cap' : Nat} {l : List Nat} (hb : w.heap.size ≤ b) (hk : Kept None w wr) (ha : Kept None wr wa) (h2 : OwnB 5 w' b' a' cap' l) (h3 : Kept (Of a b) wa w') (h4 : (b' = b ∧ (a' = none ∨ a ≠ none)) ∨ wa.heap.size ≤ b') :
    Mine w w' (.slice a' l.length cap') l := by
  have k1 : Kept None w w' := (hk.trans ha).trans' h3 (fun x hx => .inr (by rw [hx.2]; exact hb))
  by_cases hn : a' = none
  · subst hn
    exact ⟨w'.heap.size, none, cap', rfl, h2.move _, k1.size, Nat.le_refl _, k1⟩
  · have := (hk.trans ha).size
    exact ⟨b', a', cap', rfl, h2, by rcases h4 with ⟨rfl, _⟩ | h4 <;> omega, Nat.le_of_lt (h2.lt hn), k1⟩
theorem mine_append' {w wr wa w' : World} {b b' n : Nat} {a a' : Option Addr} {cap' : Nat} {l l2 : List Nat} (e : l = l2) (hn : n = l.length) (hb : w.heap.size ≤ b) (hk : Kept None w wr) (ha : Kept None wr wa) (h2 : OwnB 5 w' b' a' cap' l) (h3 : Kept (Of a b) wa w') (h4 : (b' = b ∧ (a' = none ∨ a ≠ none)) ∨ wa.heap.size ≤ b') :
    Mine w w' (.slice a' n cap') l2 := by
  subst e hn; exact mine_append hb hk ha h2 h3 h4
theorem high_up (X j : Nat) (hj : j < 8) : (X : Int) / 2 ^ (8 * j) % 256 = (((high8 X).getD (7 - j) 0 : Nat) : Int) := by
  have := high_byte X (7 - j) (by omega)
  rw [show 7 - (7 - j) = j by omega] at this
  exact this
theorem high_take (X j : Nat) (hj : j < 8) : (high8 X).take j ++ [(high8 X).getD j 0] = (high8 X).take (j + 1) := by
  have h : j < (high8 X).length := hj
  rw [List.take_succ_eq_append_getElem h]
  simp [h]
set_option maxHeartbeats 1000000 in
set_option maxRecDepth 100000 in
theorem High_any (X : Nat) (w : World) :
    Calls Tryz.prog 104 #[.int .u64 X, .int .i64 8] w (NewB (high8 X) w) := by
  obtain ⟨i0, hi, hz0, hz1, hz2⟩ := info_parts infoU8
  go_enter Tryz.func104, Tryz.ntmps104
  go_wp2
  go_loopw [5, 6] (fun v i wr => ∃ (k : Nat) (q : Int), k ≤ 8 ∧ q = (k : Int) - 1 ∧ i = .int .i64 q ∧ Hid (Mine w wr v ((high8 X).take (8 - k)))) (fun _ i _ => (intOf i + 1).toNat)
  case atStart => exact ⟨8, 7, by omega, by omega, rfl, Mine.start w⟩
  case round =>
    obtain ⟨k, q, hk, hq, rfl, hm⟩ := hrel
    rcases Nat.eq_zero_or_pos k with rfl | hk0
    · obtain ⟨b, a, cap, rfl, ho, hb, hb2, hkk⟩ := hm.out
      obtain rfl : q = -1 := by omega
      have HO := Lib.hid ho
      clear ho hq
      go_wp2
      go_ret
      exact ⟨b, a, cap, rfl, HO.out, hb, hkk, hb2⟩
    · obtain ⟨j, rfl⟩ : ∃ j, k = j + 1 := ⟨k - 1, by omega⟩
      obtain rfl : q = (j : Int) := by omega
      obtain ⟨b, a, cap, rfl, ho, hb, hb2, hkk⟩ := hm.out
      have HO := Lib.hid ho
      have HK := Lib.hid hkk
      have hE : Hid ((high8 X).take (8 - (j + 1)) ++ [(high8 X).getD (7 - j) 0] = (high8 X).take (8 - j)) := by
        have := high_take X (7 - j) (by omega)
        rw [show 8 - (j + 1) = 7 - j by omega, show 8 - j = 7 - j + 1 by omega]
        exact this
      have hl7 : ((high8 X).take (8 - (j + 1))).length ≤ 8 := by rw [List.length_take]; show min _ 8 ≤ _; omega
      have HB := Lib.hid (high_up X j (by omega))
      clear ho hkk hq hm
      generalize (high8 X).take (8 - (j + 1)) = L at *
      generalize (high8 X).getD (7 - j) 0 = y at *
      go_wp2_with (at_builtin; refine wpList_append_bytes rfl _ _ 25 rfl 5 i0 Tryz.underlying25 hi hz0 hz1 hz2 b a cap L _ rfl (HO.out.kept ((Kept.refl None _).alloc _) (fun _ h => h)) rfl wr.heap.size _ 1 [y] 1 rfl (shows_lit wr _ _ _ HB.out) rfl (by omega) ?_)
      intro b' a' cap' w' h2 h3 h4 h5
      have H2 := Lib.hid h2
      have H3 := Lib.hid h3
      have H4 := Lib.hid h4
      clear h2 h3 h4 h5
      go_wp2
      go_roundw
      case rel => exact ⟨j, (j : Int) - 1, by omega, by omega, rfl, by
        exact mine_append' hE.out (by simp) hb HK.out ((Kept.refl None _).alloc _) H2.out H3.out (H4.out.imp id (fun h => by simpa using h))⟩
      case measure => simp [intOf]

theorem zig_neg {n : Int} (h : n < 0) : (zig n : Int) = -n * 2 - 1 := by unfold zig; rw [if_neg (by omega)]; omega
theorem zig_pos {n : Int} (h : ¬ n < 0) : (zig n : Int) = n * 2 := by unfold zig; rw [if_pos (by omega)]; omega
set_option maxHeartbeats 1000000 in
set_option maxRecDepth 100000 in
theorem refInt_any (n : Int) (w : World) (h1 : -9223372036854775808 ≤ n) (h2 : n ≤ 9223372036854775807) :
    Calls Tryz.prog 21 #[.int .i64 n] w (NewB (intB n) w) := by
  obtain ⟨i0, hi, hz0, hz1, hz2⟩ := info_parts infoU8
  have hz := zig_lt h1 h2
  by_cases hn : n < 0
  all_goals
    go_enter Tryz.func21, Tryz.ntmps21
    go_wp2
    go_loopw [3, 4] (fun z v wr => ∃ (k Z : Nat) (q : Int) (pre : List Nat), Z ≤ 18446744073709551615 ∧ q = Z ∧ z = .int .u64 q ∧ Hid (Going n k Z pre ∧ Mine w wr v pre)) (fun z _ _ => (intOf z).toNat)
    case atStart => exact ⟨0, zig n, _, [], by omega, by first | (rw [zig_neg hn]; omega) | (rw [zig_pos (by omega)]), rfl, ⟨rfl, rfl, by simp⟩, Mine.start w⟩
    case round =>
      obtain ⟨k, Z, q, pre, hZ, hq, rfl, hw⟩ := hrel
      obtain rfl : q = (Z : Int) := hq
      obtain ⟨b, a, cap, rfl, ho, hb, hb2, hkk⟩ := hw.out.2
      have hpl := hw.out.1.1
      have HO := Lib.hid ho
      have HK := Lib.hid hkk
      by_cases hlt : 127 < Z
      · have hgn := Lib.hid (hw.out.1.next hlt hz)
        have hk8 : pre.length ≤ 8 := by have := hgn.out.1; omega
        clear ho hkk hpl
        go_wp2_with (at_builtin; refine wpList_append_bytes rfl _ _ 25 rfl 5 i0 Tryz.underlying25 hi hz0 hz1 hz2 b a cap pre _ rfl (HO.out.kept ((Kept.refl None _).alloc _) (fun _ h => h)) rfl wr.heap.size _ 1 [Z % 128 + 128] 1 rfl (shows_lit wr _ _ _ (by omega)) rfl (by omega) ?_)
        intro b' a' cap' w' h2 h3 h4 h5
        have H2 := Lib.hid h2
        have H3 := Lib.hid h3
        have H4 := Lib.hid h4
        clear h2 h3 h4 h5
        go_wp2
        go_roundw
        case rel => exact ⟨k + 1, Z / 128, _, pre ++ [Z % 128 + 128], by omega, by first | rfl | omega, rfl, hgn.out.2, mine_append' rfl (by simp) hb HK.out ((Kept.refl None _).alloc _) H2.out H3.out (H4.out.imp id (fun h => by simpa using h))⟩
        case measure => simp [intOf]; omega
      · have hd := Lib.hid (hw.out.1.done (by omega))
        have hZ2 : Z ≤ 127 := by omega
        have hk8 : pre.length ≤ 10 := by have h := (intB_len n).2; rw [hd.out] at h; simp at h; omega
        clear ho hkk hpl
        go_wp2_with (at_builtin; refine wpList_append_bytes rfl _ _ 25 rfl 5 i0 Tryz.underlying25 hi hz0 hz1 hz2 b a cap pre _ rfl (HO.out.kept ((Kept.refl None _).alloc _) (fun _ h => h)) rfl wr.heap.size _ 1 [Z] 1 rfl (shows_lit wr _ _ _ rfl) rfl (by omega) ?_)
        intro b' a' cap' w' h2 h3 h4 h5
        have H2 := Lib.hid h2
        have H3 := Lib.hid h3
        have H4 := Lib.hid h4
        clear h2 h3 h4 h5
        go_wp2
        go_ret
        have hm := mine_append' (n := pre.length + 1) (hd.out.symm) (by simp) hb HK.out ((Kept.refl None _).alloc _) H2.out H3.out (H4.out.imp id (fun h => by simpa using h))
        obtain ⟨b3, a3, cap3, e3, ho3, hb3, hb4, hk3⟩ := hm
        exact ⟨b3, a3, cap3, congrArg Ending.returned e3, ho3, hb3, hk3, hb4⟩
end Go.Proofs.YtaengjgmchpabaaGreat.Pk
end
section
/- The reference's Float and Text as bytes. -/
namespace Go.Proofs.YtaengjgmchpabaaGreat.Pk
open Go Go.RowKit Mem
attribute [local go_sem] run_bits run_frombits
theorem own_lit (w : World) (t : TypeId) (ht : t = 5) (v : Int) (x : Nat) (hv : v = (x : Int)) : NewB [x] w (.returned (.slice (some ⟨w.heap.size, 0, Option.none⟩) 1 1)) (w.alloc (.cells #[.int .u8 v] t)) := by
  subst hv ht
  exact ⟨w.heap.size, _, 1, rfl, own_new (l := [x]) (Nat.le_refl 1) (by decide) rfl rfl, Nat.le_refl _, (Kept.refl _ _).alloc _, by simp⟩
set_option maxHeartbeats 1000000 in
set_option maxRecDepth 100000 in
theorem refFloat_any (x : Nat) (w : World) : Calls Tryz.prog 96 #[.float .f64 x] w (NewB (fltB x) w) := by
  go_enter Tryz.func96, Tryz.ntmps96
  go_wp2_with (first | (go_at_call 103; refine (refCanon_any _ _).mono ?_; rintro e w' ⟨rfl, rfl⟩))
  refine (High_any (Nm.canon x) w).mono ?_
  rintro x' w1 ⟨b, a, cap, rfl, ho, hb, hk, hb2⟩
  have HO := Lib.hid ho
  have HK := Lib.hid hk
  clear ho hk
  go_wp2
  go_ret
  exact ⟨b, a, cap, rfl, HO.out, hb, HK.out, hb2⟩
set_option maxHeartbeats 1000000 in
set_option maxRecDepth 100000 in
theorem refText_any (b : Nat) (a : Option Addr) (cap : Nat) (t : List Nat) (w : World) (h : Src w b a cap t) (ht : t.length ≤ 32768) : Calls Tryz.prog 46 #[.slice a t.length cap] w (NewB (textB t) w) := by
  obtain ⟨i0, hi0, hz0, hz1, hz2⟩ := info_parts infoU8
  have HS := Lib.hid h
  have hil := (intB_len t.length).2
  clear h
  go_enter Tryz.func46, Tryz.ntmps46
  go_wp2_with fail
  refine (refInt_any t.length w (by omega) (by omega)).mono ?_
  rintro x' w1 ⟨b1, a1, cap1, rfl, ho, hb, hk, hb2⟩
  have HO := Lib.hid ho
  have HK := Lib.hid hk
  clear ho hk
  go_wp2_with (at_builtin; refine wpList_append_bytes rfl _ _ 25 rfl 5 i0 Tryz.underlying25 hi0 hz0 hz1 hz2 b1 a1 cap1 (intB t.length) _ rfl HO.out rfl b a cap t _ rfl (HS.out.kept HK.out (fun _ h => h)) rfl (by omega) ?_)
  intro b' a' cap' w' h2 h3 h4 h5
  have HM := Lib.hid (mine_append' (n := (intB t.length).length + t.length) rfl (by simp) hb HK.out (Kept.refl _ _) h2 h3 (by simpa using h4))
  clear h2 h3 h4 h5
  go_wp2
  go_ret
  obtain ⟨b3, a3, cap3, e3, ho3, hb3, hb4, hk3⟩ := HM.out
  exact ⟨b3, a3, cap3, congrArg Ending.returned e3, ho3, hb3, hk3, hb4⟩

end Go.Proofs.YtaengjgmchpabaaGreat.Pk
end
section
/- Cut out of SessEnc so that every seat fills it. -/
namespace Go.Proofs.YtaengjgmchpabaaGreat.Ss
open Go Go.RowKit Vl Kv Mem Nm
theorem take_flat {α : Type} [Inhabited α] {f : α → List Nat} {L : List α} {k : Nat} {z : α} (h : k < L.length) : (L.take (k + 1)).flatMap f = (L.take k).flatMap f ++ f (L.getD k z) := by
  rw [List.take_succ_eq_append_getElem h, List.flatMap_append]
  simp [h]
end Go.Proofs.YtaengjgmchpabaaGreat.Ss
end
section
/- Cut out of SessRefV so that every seat fills it. -/
namespace Go.Proofs.YtaengjgmchpabaaGreat.Ss
open Go Go.RowKit Vl Kv Mem Nm
attribute [local go_sem] run_bits run_frombits run_store_float
set_option maxHeartbeats 800000 in
set_option maxRecDepth 100000 in
theorem refValue_any (v : V) (hv : v.check = 0) (w : World) : Calls Tryz.prog 83 #[v.val] w (Pk.NewB (valB v) w) := by
  obtain ⟨i0, hi0, hz0, hz1, hz2⟩ := info_parts Pk.infoU8
  have hk := (check_zero hv).1
  have h32 := short_text hv
  have HV := Lib.hid (show valB v = Pk.intB v.kind ++ (if v.kind = 1 then Pk.fltB v.num else if v.kind = 2 then Pk.textB (bl v.text) else []) from rfl)
  have hi := (Pk.intB_len v.kind).2
  have hfl : (Pk.fltB v.num).length = 8 := rfl
  have htl := textB_len (bl v.text)
  have hbl := bl_length v.text
  have HA := Lib.hid (alloc_here (w := w) (Vobj v) rfl)
  have HK0 : Hid (Kept Mem.None w (w.alloc (Vobj v))) := (Kept.refl _ _).alloc _
  clear hv
  obtain ⟨k, n, t⟩ := v
  unfold Vobj at HA HK0
  dsimp only at HA HK0 hk HV h32 hi hfl htl hbl
  have kc := fun (w : World) (s : ByteArray) => run_bl w s
  rcases hk with rfl | rfl | rfl
  · go_enter Tryz.func83, Tryz.ntmps83
    go_wp2_with fail
    refine (Pk.refInt_any 0 _ (by omega) (by omega)).mono ?_
    rintro x w1 ⟨b, a, cap, rfl, ho, hb, hk, hb2⟩
    have hlen : (valB ⟨0, n, t⟩).length = (Pk.intB 0).length := by rw [HV.out]; simp
    have HO := Lib.hid (show OwnB 5 w1 b a cap (valB ⟨0, n, t⟩) by rw [HV.out]; simpa using ho)
    have HK := Lib.hid (HK0.out.trans hk)
    obtain ⟨c0, c1, c2, _⟩ := cells3 (hk.heap HA.out (fun h => h))
    have hs := HK0.out.size
    clear ho hk
    go_wp2_with fail
    go_ret
    exact ⟨b, a, cap, by rw [hlen]; rfl, HO.out, by omega, HK.out, hb2⟩
  · go_enter Tryz.func83, Tryz.ntmps83
    go_wp2_with fail
    refine (Pk.refInt_any 1 _ (by omega) (by omega)).mono ?_
    rintro x w1 ⟨b, a, cap, rfl, ho, hb, hk, hb2⟩
    have HO := Lib.hid ho
    have HK := Lib.hid (HK0.out.trans hk)
    obtain ⟨c0, c1, c2, _⟩ := cells3 (hk.heap HA.out (fun h => h))
    have hs := HK0.out.size
    clear ho hk
    go_wp2_with fail
    refine (Pk.refFloat_any n _).mono ?_
    rintro x w2 ⟨b2, a2, cap2, rfl, ho2, _, hk2, _⟩
    have HO1 := Lib.hid (HO.out.kept hk2 (fun _ h => h))
    have HO2 := Lib.hid ho2
    have HK2 := Lib.hid (HK.out.trans hk2)
    clear ho2 hk2 c0 c1 c2
    go_wp2_with (at_builtin; refine wpList_append_bytes rfl _ _ 25 rfl 5 i0 Tryz.underlying25 hi0 hz0 hz1 hz2 b a cap (Pk.intB 1) _ rfl HO1.out rfl b2 a2 cap2 (Pk.fltB n) _ rfl HO2.out.src rfl (by omega) ?_)
    intro b' a' cap' w' h2 h3 h4 h5
    have HM := Lib.hid (Pk.mine_append' (n := (Pk.intB 1).length + (Pk.fltB n).length) (l2 := valB ⟨1, n, t⟩) (by rw [HV.out]; rfl) (by simp) (show w.heap.size ≤ b by omega) HK2.out (Kept.refl _ _) h2 h3 (by simpa using h4))
    clear h2 h3 h4 h5
    go_wp2_with fail
    go_ret
    obtain ⟨b3, a3, cap3, e3, ho3, hb3, hb4, hk3⟩ := HM.out
    exact ⟨b3, a3, cap3, congrArg Ending.returned e3, ho3, hb3, hk3, hb4⟩
  · go_enter Tryz.func83, Tryz.ntmps83
    go_wp2_with fail
    refine (Pk.refInt_any 2 _ (by omega) (by omega)).mono ?_
    rintro x w1 ⟨b, a, cap, rfl, ho, hb, hk, hb2⟩
    have HO := Lib.hid ho
    have HK := Lib.hid (HK0.out.trans hk)
    obtain ⟨c0, c1, c2, _⟩ := cells3 (hk.heap HA.out (fun h => h))
    have hs := HK0.out.size
    clear ho hk
    go_wp2_with fail
    have HT := Lib.hid (Pk.refText_any w1.heap.size (some ⟨w1.heap.size, 0, none⟩) (grownCap w1 t.size 0 5) (bl t) (Lib.bytesWorld w1 5 t) (bytesW_src w1 t (by omega)).src (by omega))
    rw [hbl] at HT
    refine HT.out.mono ?_
    rintro x w2 ⟨b2, a2, cap2, rfl, ho2, _, hk2, _⟩
    have HO1 := Lib.hid (HO.out.kept ((kept_beh (bytesW_beh w1 t)).trans hk2) (fun _ h => h))
    have HO2 := Lib.hid ho2
    have HK2 := Lib.hid (HK.out.trans ((kept_beh (bytesW_beh w1 t)).trans hk2))
    clear ho2 hk2 c0 c1 c2
    go_wp2_with (at_builtin; refine wpList_append_bytes rfl _ _ 25 rfl 5 i0 Tryz.underlying25 hi0 hz0 hz1 hz2 b a cap (Pk.intB 2) _ rfl HO1.out rfl b2 a2 cap2 (Pk.textB (bl t)) _ rfl HO2.out.src rfl (by omega) ?_)
    intro b' a' cap' w' h2 h3 h4 h5
    have HM := Lib.hid (Pk.mine_append' (n := (Pk.intB 2).length + (Pk.textB (bl t)).length) (l2 := valB ⟨2, n, t⟩) (by rw [HV.out]; rfl) (by simp) (show w.heap.size ≤ b by omega) HK2.out (Kept.refl _ _) h2 h3 (by simpa using h4))
    clear h2 h3 h4 h5
    go_wp2_with fail
    go_ret
    obtain ⟨b3, a3, cap3, e3, ho3, hb3, hb4, hk3⟩ := HM.out
    exact ⟨b3, a3, cap3, congrArg Ending.returned e3, ho3, hb3, hk3, hb4⟩
set_option maxHeartbeats 800000 in
set_option maxRecDepth 100000 in
theorem refInts_any (b cap : Nat) (L : List Int) (w : World) (hc : ∀ i, i < L.length → w.cell? ⟨b, i, none⟩ = some (.int .i64 (L.getD i 0))) (hb : ∀ i, i < L.length → -9223372036854775808 ≤ L.getD i 0 ∧ L.getD i 0 ≤ 9223372036854775807) (hl : L.length ≤ 1000) :
    Calls Tryz.prog 42 #[.slice (some ⟨b, 0, none⟩) L.length cap] w (Pk.NewB (L.flatMap Pk.intB) w) := by
  obtain ⟨i0, hi0, hz0, hz1, hz2⟩ := info_parts Pk.infoU8
  have HC := Lib.hid hc
  have HB := Lib.hid hb
  have HS := Lib.hid (Pk.Mine.start w)
  clear hc hb
  go_enter Tryz.func42, Tryz.ntmps42
  go_wp2_with fail
  go_loopw [3, 4] (fun v i wr => ∃ k : Nat, k ≤ L.length ∧ i = .int .i64 k ∧ Hid (Pk.Mine w wr v ((L.take k).flatMap Pk.intB))) (fun _ i _ => L.length - (intOf i).toNat)
  case atStart => exact ⟨0, by omega, rfl, HS.out⟩
  case round =>
    obtain ⟨k, hk, rfl, hw⟩ := hrel
    obtain ⟨b1, a1, cap1, rfl, ho, hb1, hb2, hkk⟩ := hw.out
    have HO := Lib.hid ho
    have HK := Lib.hid hkk
    have hlen : ((L.take k).flatMap Pk.intB).length ≤ 10000 := by
      have := flat_len (f := Pk.intB) (n := 10) (L := L.take k) (fun a _ => (Pk.intB_len a).2)
      rw [List.length_take] at this
      omega
    by_cases hlt : k < L.length
    · have c0 := cellOn (beh_kept hkk) (HC.out k hlt)
      have hbn := HB.out k hlt
      have HE := Lib.hid (take_flat (f := Pk.intB) (z := (0 : Int)) hlt)
      generalize L.getD k 0 = n at *
      have hnl := (Pk.intB_len n).2
      clear ho hkk hw
      generalize (L.take k).flatMap Pk.intB = P at *
      go_wp2_with fail
      refine (Pk.refInt_any n _ (by omega) (by omega)).mono ?_
      rintro x w2 ⟨b2, a2, cap2, rfl, ho2, _, hk2, _⟩
      have HO1 := Lib.hid (HO.out.kept hk2 (fun _ h => h))
      have HO2 := Lib.hid ho2
      have HK2 := Lib.hid (HK.out.trans hk2)
      clear ho2 hk2 c0
      go_wp2_with (at_builtin; refine wpList_append_bytes rfl _ _ 25 rfl 5 i0 Tryz.underlying25 hi0 hz0 hz1 hz2 b1 a1 cap1 P _ rfl HO1.out rfl b2 a2 cap2 (Pk.intB n) _ rfl HO2.out.src rfl (by omega) ?_)
      intro b' a' cap' w' h2 h3 h4 h5
      have HM := Lib.hid (Pk.mine_append' (n := P.length + (Pk.intB n).length) (l2 := (L.take (k + 1)).flatMap Pk.intB) (by rw [HE.out]) (by simp) hb1 HK2.out (Kept.refl _ _) h2 h3 (by simpa using h4))
      clear h2 h3 h4 h5
      go_wp2_with fail
      go_roundw
      case rel => exact ⟨k + 1, by omega, by go_num, HM.out⟩
      case measure => simp [intOf]; omega
    · obtain rfl : k = L.length := by omega
      rw [List.take_length] at ho hw ⊢
      have HO := Lib.hid ho
      clear ho hkk
      go_wp2_with fail
      go_ret
      exact ⟨b1, a1, cap1, rfl, HO.out, hb1, HK.out, hb2⟩
end Go.Proofs.YtaengjgmchpabaaGreat.Ss
end
section
/- Bytes of a call's own that grow beside blocks of its own. -/
namespace Go.Proofs.YtaengjgmchpabaaGreat.Wr
open Go Go.RowKit Vl Kv Ss Cn Mem Lg Nm
/-- the call began in w0; l: its bytes; F: blocks -/
structure Ac (w0 W : World) (l : List Nat) (b cap : Nat) (a : Option Addr) (F : List (Nat × Obj)) : Prop where
  own : OwnB 5 W b a cap l
  lo : w0.heap.size ≤ b
  hi : b ≤ W.heap.size
  kept : Kept Mem.None w0 W
  box : ∀ n o, (n, o) ∈ F → W.heap[n]? = some o ∧ (a ≠ none → b ≠ n)
theorem Ac.on {w0 W W' : World} {l : List Nat} {b cap : Nat} {a : Option Addr} {F : List (Nat × Obj)} (h : Ac w0 W l b cap a F) (hb : Below W.heap.size W W') : Ac w0 W' l b cap a F :=
  ⟨h.own.kept (kept_beh hb) (fun _ h => h.elim), h.lo, Nat.le_trans h.hi hb.size, h.kept.trans (kept_beh hb), fun n o hn => ⟨Bh.box_on (h.box n o hn).1 hb, (h.box n o hn).2⟩⟩
theorem Ac.add {w0 W : World} {l : List Nat} {b cap : Nat} {a : Option Addr} {F : List (Nat × Obj)} (h : Ac w0 W l b cap a F) (o : Obj) : Ac w0 (W.alloc o) l b cap a ((W.heap.size, o) :: F) := by
  have h2 := h.on (below_alloc W o)
  refine ⟨h2.own, h2.lo, h2.hi, h2.kept, fun n x hn => ?_⟩
  rcases List.mem_cons.1 hn with e | hn
  · injection e with e1 e2
    subst e1 e2
    exact ⟨Bh.alloc_here _ rfl, fun ha => Nat.ne_of_lt (h.own.lt ha)⟩
  · exact h2.box n x hn
/-- behind an append -/
theorem Ac.app {w0 W w' : World} {l m : List Nat} {b cap b' cap' : Nat} {a a' : Option Addr} {F : List (Nat × Obj)} (h : Ac w0 W l b cap a F) (h2 : OwnB 5 w' b' a' cap' (l ++ m)) (h3 : Kept (Of a b) W w') (h4 : (b' = b ∧ (a' = none ∨ a ≠ none)) ∨ W.heap.size ≤ b') : ∃ b2, Ac w0 w' (l ++ m) b2 cap' a' F := by
  have hm := Pk.mine_append' (n := (l ++ m).length) (l2 := l ++ m) rfl rfl h.lo h.kept (Kept.refl _ _) h2 h3 h4
  have hk : Kept Mem.None w0 w' := by obtain ⟨_, _, _, _, _, _, _, hk⟩ := hm; exact hk
  have hs := h3.size
  by_cases ha' : a' = none
  · subst ha'
    exact ⟨w'.heap.size, h2.move _, hk.size, Nat.le_refl _, hk, fun n o hn => ⟨h3.heap (h.box n o hn).1 (fun e => (h.box n o hn).2 e.1 e.2.symm), fun e => absurd rfl e⟩⟩
  · have hlt := h2.lt ha'
    refine ⟨b', h2, ?_, Nat.le_of_lt hlt, hk, fun n o hn => ⟨h3.heap (h.box n o hn).1 (fun e => (h.box n o hn).2 e.1 e.2.symm), fun _ => ?_⟩⟩
    · have := h.lo; have := h.kept.size
      rcases h4 with ⟨h4, _⟩ | h4 <;> omega
    · have hb := h.box n o hn
      have hn2 := lt_of_heap hb.1
      rcases h4 with ⟨e, h4⟩ | h4
      · rw [e]; exact hb.2 (h4.resolve_left ha')
      · omega
theorem Ac.new {w0 w W : World} {l : List Nat} {b cap : Nat} {a : Option Addr} {F : List (Nat × Obj)} (h : Ac w0 W l b cap a F) (hk : Kept Mem.None w w0) : Pk.NewB l w (.returned (.slice a l.length cap)) W :=
  ⟨b, a, cap, rfl, h.own, by have := h.lo; have := hk.size; omega, hk.trans h.kept, h.hi⟩
theorem Ac.start {w0 W : World} {l : List Nat} {b cap : Nat} {a : Option Addr} (ho : OwnB 5 W b a cap l) (hb : w0.heap.size ≤ b) (hk : Kept Mem.None w0 W) (h2 : b ≤ W.heap.size) (F : List (Nat × Obj)) (hF : ∀ n o, (n, o) ∈ F → w0.heap[n]? = some o) : Ac w0 W l b cap a F :=
  ⟨ho, hb, h2, hk, fun n o hn => ⟨hk.heap (hF n o hn) (fun h => h), fun _ e => by have := lt_of_heap (hF n o hn); omega⟩⟩
end Go.Proofs.YtaengjgmchpabaaGreat.Wr
end
section
/- Two configurations, compared by ==. -/
namespace Go.Proofs.YtaengjgmchpabaaGreat.Cn
open Go Go.RowKit Bh
attribute [local irreducible] wpQuiet
theorem C.eq_iff (a b : C) : (a = b) ↔ (a.f = b.f ∧ a.w = b.w ∧ a.l = b.l ∧ a.x = b.x) := by
  obtain ⟨f, w, l, x⟩ := a
  obtain ⟨f', w', l', x'⟩ := b
  simp
set_option maxHeartbeats 400000 in
theorem conf_eq (f wt l x f' wt' l' x' : Int) (w : World) :
    (binOp .eql 24 (.agg #[.int .i64 f, .int .i64 wt, .int .i64 l, .int .i64 x]) (.agg #[.int .i64 f', .int .i64 wt', .int .i64 l', .int .i64 x'])).run Tryz.prog w = .ok (.bool (decide (C.mk f wt l x = C.mk f' wt' l' x'))) w := by
  rw [show decide (C.mk f wt l x = C.mk f' wt' l' x') = (decide (f = f') && decide (wt = wt') && decide (l = l') && decide (x = x')) by rw [Bool.eq_iff_iff]; simp [C.eq_iff, and_assoc]]
  by_cases h1 : f = f'
  · subst h1
    by_cases h2 : wt = wt'
    · subst h2
      by_cases h3 : l = l'
      · subst h3
        have h4 : (x == x') = decide (x = x') := by rw [Bool.eq_iff_iff]; simp
        have h5 : decide (x = x') = true ∨ decide (x = x') = false := by cases decide (x = x') <;> simp
        rcases h5 with h5 | h5
        · rw [h5] at h4 ⊢
          clear h5
          go_simp
        · rw [h5] at h4 ⊢
          clear h5
          go_simp
      · have h4 := beq_eq_false_iff_ne.2 h3
        rw [decide_eq_false h3]
        clear h3
        go_simp
    · have h4 := beq_eq_false_iff_ne.2 h2
      rw [decide_eq_false h2]
      clear h2
      go_simp
  · have h4 := beq_eq_false_iff_ne.2 h1
    rw [decide_eq_false h1]
    clear h1
    go_simp
end Go.Proofs.YtaengjgmchpabaaGreat.Cn
end
section
/- The keeper's Conf. -/
namespace Go.Proofs.YtaengjgmchpabaaGreat.Cn
open Go Go.RowKit Bh
attribute [local irreducible] wpQuiet
theorem C.dec (f wt l x f' wt' l' x' : Int) : decide (C.mk f wt l x = C.mk f' wt' l' x') = ((f == f') && (wt == wt') && (l == l') && (x == x')) := by
  rw [Bool.eq_iff_iff]
  simp [C.eq_iff, and_assoc]
set_option maxHeartbeats 800000 in
theorem keepConf_any (a b : C) (w : World) :
    Calls Tryz.prog 63 #[a.val, b.val] w fun e w' => e = .returned (.bool (decide (a = b))) ∧ Below w.heap.size w w' := by
  obtain ⟨f, wt, l, x⟩ := a
  obtain ⟨f', wt', l', x'⟩ := b
  have HD := Lib.hid (C.dec f wt l x f' wt' l' x')
  generalize decide (C.mk f wt l x = C.mk f' wt' l' x') = Q at *
  cases h1 : f == f'
  · go_enter Tryz.func63, Tryz.ntmps63
    go_wp2_with fail
    go_ret
    exact ⟨ret_bool (by rw [HD.out, h1]; simp), below_alloc2 _ _ _⟩
  · cases h2 : wt == wt'
    · go_enter Tryz.func63, Tryz.ntmps63
      go_wp2_with fail
      go_ret
      exact ⟨ret_bool (by rw [HD.out, h1, h2]; simp), below_alloc2 _ _ _⟩
    · cases h3 : l == l'
      · go_enter Tryz.func63, Tryz.ntmps63
        go_wp2_with fail
        go_ret
        exact ⟨ret_bool (by rw [HD.out, h1, h2, h3]; simp), below_alloc2 _ _ _⟩
      · go_enter Tryz.func63, Tryz.ntmps63
        go_wp2_with fail
        go_ret
        exact ⟨ret_bool (by rw [HD.out, h1, h2, h3]; simp), below_alloc2 _ _ _⟩
end Go.Proofs.YtaengjgmchpabaaGreat.Cn
end
