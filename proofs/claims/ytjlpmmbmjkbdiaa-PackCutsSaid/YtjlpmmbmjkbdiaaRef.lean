/- Walks of the reference's High and Int. -/
import Derived.Test.YtjlpmmbmjkbdiaaWInt
import Derived.Test.YtjlpmmbmjkbdiaaWFloat
namespace Go.Proofs.Ytjlpmmbmjkbdiaa.Pk
open Go Go.RowKit Mem
theorem shows_lit (w : World) (t : TypeId) (v : Int) (x : Nat) (hv : v = (x : Int)) : Src (w.alloc (.cells #[.int .u8 v] t)) w.heap.size (some ⟨w.heap.size, 0, none⟩) 1 [x] := by
  subst hv
  exact (shows_made (m := [x]) (cap := 1) (heap_alloc_new w _) rfl (Nat.le_refl 1) (by decide)).src
/-- bytes of its own that a loop has appended to: in a block that was not there when the call began -/
def Mine (w wr : World) (v : Value) (l : List Nat) : Prop := ∃ b a cap, v = .slice a l.length cap ∧ OwnB 5 wr b a cap l ∧ w.heap.size ≤ b ∧ b ≤ wr.heap.size ∧ Kept None w wr
theorem Mine.start (w : World) : Mine w w (.slice none 0 0) [] := ⟨w.heap.size, none, 0, rfl, OwnB.nil _ _ _, Nat.le_refl _, Nat.le_refl _, Kept.refl _ _⟩
/-- behind an append (in wa: the world in which it is done) -/
theorem mine_append {w wr wa w' : World} {b b' : Nat} {a a' : Option Addr} {cap' : Nat} {l : List Nat} (hb : w.heap.size ≤ b) (hk : Kept None w wr) (ha : Kept None wr wa) (h2 : OwnB 5 w' b' a' cap' l) (h3 : Kept (Of a b) wa w') (h4 : (b' = b ∧ (a' = none ∨ a ≠ none)) ∨ wa.heap.size ≤ b') :
    Mine w w' (.slice a' l.length cap') l := by
  have k1 : Kept None w w' := (hk.trans ha).trans' h3 (fun x hx => .inr (by rw [hx.2]; exact hb))
  by_cases hn : a' = none
  · subst hn
    exact ⟨w'.heap.size, none, cap', rfl, h2.move _, k1.size, Nat.le_refl _, k1⟩
  · have := (hk.trans ha).size
    exact ⟨b', a', cap', rfl, h2, by rcases h4 with ⟨rfl, _⟩ | h4 <;> omega, Nat.le_of_lt (h2.lt hn), k1⟩
theorem mine_append' {w wr wa w' : World} {b b' n : Nat} {a a' : Option Addr} {cap' : Nat} {l l2 : List Nat} (e : l = l2) (hn : n = l.length) (hb : w.heap.size ≤ b) (hk : Kept None w wr) (ha : Kept None wr wa) (h2 : OwnB 5 w' b' a' cap' l) (h3 : Kept (Of a b) wa w') (h4 : (b' = b ∧ (a' = none ∨ a ≠ none)) ∨ wa.heap.size ≤ b') :
    Mine w w' (.slice a' n cap') l2 := by
  subst e hn; exact mine_append hb hk ha h2 h3 h4
theorem high_up (X j : Nat) (hj : j < 8) : (X : Int) / 2 ^ (8 * j) % 256 = (((high8 X).getD (7 - j) 0 : Nat) : Int) := by
  have := high_byte X (7 - j) (by omega)
  rw [show 7 - (7 - j) = j by omega] at this
  exact this
theorem high_take (X j : Nat) (hj : j < 8) : (high8 X).take j ++ [(high8 X).getD j 0] = (high8 X).take (j + 1) := by
  have h : j < (high8 X).length := hj
  rw [List.take_succ_eq_append_getElem h]
  simp [h]
set_option maxHeartbeats 1000000 in
theorem High_any (X : Nat) (w : World) :
    Calls Try.prog 31 #[.int .u64 X, .int .i64 8] w (NewB (high8 X) w) := by
  obtain ⟨i0, hi, hz0, hz1, hz2⟩ := info_parts infoU8
  go_enter Try.func31, Try.ntmps31
  go_wp2
  go_loopw [5, 6] (fun v i wr => ∃ (k : Nat) (q : Int), k ≤ 8 ∧ q = (k : Int) - 1 ∧ i = .int .i64 q ∧ Hid (Mine w wr v ((high8 X).take (8 - k)))) (fun _ i _ => (intOf i + 1).toNat)
  case atStart => exact ⟨8, 7, by omega, by omega, rfl, Mine.start w⟩
  case round =>
    obtain ⟨k, q, hk, hq, rfl, hm⟩ := hrel
    rcases Nat.eq_zero_or_pos k with rfl | hk0
    · obtain ⟨b, a, cap, rfl, ho, hb, hb2, hkk⟩ := hm.out
      obtain rfl : q = -1 := by omega
      have HO := Lib.hid ho
      clear ho hq
      go_wp2
      go_ret
      exact ⟨b, a, cap, rfl, HO.out, hb, hkk, hb2⟩
    · obtain ⟨j, rfl⟩ : ∃ j, k = j + 1 := ⟨k - 1, by omega⟩
      obtain rfl : q = (j : Int) := by omega
      obtain ⟨b, a, cap, rfl, ho, hb, hb2, hkk⟩ := hm.out
      have HO := Lib.hid ho
      have HK := Lib.hid hkk
      have hE : Hid ((high8 X).take (8 - (j + 1)) ++ [(high8 X).getD (7 - j) 0] = (high8 X).take (8 - j)) := by
        have := high_take X (7 - j) (by omega)
        rw [show 8 - (j + 1) = 7 - j by omega, show 8 - j = 7 - j + 1 by omega]
        exact this
      have hl7 : ((high8 X).take (8 - (j + 1))).length ≤ 8 := by rw [List.length_take]; show min _ 8 ≤ _; omega
      have HB := Lib.hid (high_up X j (by omega))
      clear ho hkk hq hm
      generalize (high8 X).take (8 - (j + 1)) = L at *
      generalize (high8 X).getD (7 - j) 0 = y at *
      go_wp2_with (at_builtin; refine wpList_append_bytes rfl _ _ 28 rfl 5 i0 Try.underlying28 hi hz0 hz1 hz2 b a cap L _ rfl (HO.out.kept ((Kept.refl None _).alloc _) (fun _ h => h)) rfl wr.heap.size _ 1 [y] 1 rfl (shows_lit wr _ _ _ HB.out) rfl (by omega) ?_)
      intro b' a' cap' w' h2 h3 h4 h5
      have H2 := Lib.hid h2
      have H3 := Lib.hid h3
      have H4 := Lib.hid h4
      clear h2 h3 h4 h5
      go_wp2
      go_roundw
      case rel => exact ⟨j, (j : Int) - 1, by omega, by omega, rfl, by
        exact mine_append' hE.out (by simp) hb HK.out ((Kept.refl None _).alloc _) H2.out H3.out (H4.out.imp id (fun h => by simpa using h))⟩
      case measure => simp [intOf]

theorem zig_neg {n : Int} (h : n < 0) : (zig n : Int) = -n * 2 - 1 := by unfold zig; rw [if_neg (by omega)]; omega
theorem zig_pos {n : Int} (h : ¬ n < 0) : (zig n : Int) = n * 2 := by unfold zig; rw [if_pos (by omega)]; omega
set_option maxHeartbeats 1000000 in
theorem refInt_any (n : Int) (w : World) (h1 : -9223372036854775808 ≤ n) (h2 : n ≤ 9223372036854775807) :
    Calls Try.prog 32 #[.int .i64 n] w (NewB (intB n) w) := by
  obtain ⟨i0, hi, hz0, hz1, hz2⟩ := info_parts infoU8
  have hz := zig_lt h1 h2
  by_cases hn : n < 0
  all_goals
    go_enter Try.func32, Try.ntmps32
    go_wp2
    go_loopw [3, 4] (fun z v wr => ∃ (k Z : Nat) (q : Int) (pre : List Nat), Z ≤ 18446744073709551615 ∧ q = Z ∧ z = .int .u64 q ∧ Hid (Going n k Z pre ∧ Mine w wr v pre)) (fun z _ _ => (intOf z).toNat)
    case atStart => exact ⟨0, zig n, _, [], by omega, by first | (rw [zig_neg hn]; omega) | (rw [zig_pos (by omega)]), rfl, ⟨rfl, rfl, by simp⟩, Mine.start w⟩
    case round =>
      obtain ⟨k, Z, q, pre, hZ, hq, rfl, hw⟩ := hrel
      obtain rfl : q = (Z : Int) := hq
      obtain ⟨b, a, cap, rfl, ho, hb, hb2, hkk⟩ := hw.out.2
      have hpl := hw.out.1.1
      have HO := Lib.hid ho
      have HK := Lib.hid hkk
      by_cases hlt : 127 < Z
      · have hgn := Lib.hid (hw.out.1.next hlt hz)
        have hk8 : pre.length ≤ 8 := by have := hgn.out.1; omega
        clear ho hkk hpl
        go_wp2_with (at_builtin; refine wpList_append_bytes rfl _ _ 28 rfl 5 i0 Try.underlying28 hi hz0 hz1 hz2 b a cap pre _ rfl (HO.out.kept ((Kept.refl None _).alloc _) (fun _ h => h)) rfl wr.heap.size _ 1 [Z % 128 + 128] 1 rfl (shows_lit wr _ _ _ (by omega)) rfl (by omega) ?_)
        intro b' a' cap' w' h2 h3 h4 h5
        have H2 := Lib.hid h2
        have H3 := Lib.hid h3
        have H4 := Lib.hid h4
        clear h2 h3 h4 h5
        go_wp2
        go_roundw
        case rel => exact ⟨k + 1, Z / 128, _, pre ++ [Z % 128 + 128], by omega, by first | rfl | omega, rfl, hgn.out.2, mine_append' rfl (by simp) hb HK.out ((Kept.refl None _).alloc _) H2.out H3.out (H4.out.imp id (fun h => by simpa using h))⟩
        case measure => simp [intOf]; omega
      · have hd := Lib.hid (hw.out.1.done (by omega))
        have hZ2 : Z ≤ 127 := by omega
        have hk8 : pre.length ≤ 10 := by have h := (intB_len n).2; rw [hd.out] at h; simp at h; omega
        clear ho hkk hpl
        go_wp2_with (at_builtin; refine wpList_append_bytes rfl _ _ 28 rfl 5 i0 Try.underlying28 hi hz0 hz1 hz2 b a cap pre _ rfl (HO.out.kept ((Kept.refl None _).alloc _) (fun _ h => h)) rfl wr.heap.size _ 1 [Z] 1 rfl (shows_lit wr _ _ _ rfl) rfl (by omega) ?_)
        intro b' a' cap' w' h2 h3 h4 h5
        have H2 := Lib.hid h2
        have H3 := Lib.hid h3
        have H4 := Lib.hid h4
        clear h2 h3 h4 h5
        go_wp2
        go_ret
        have hm := mine_append' (n := pre.length + 1) (hd.out.symm) (by simp) hb HK.out ((Kept.refl None _).alloc _) H2.out H3.out (H4.out.imp id (fun h => by simpa using h))
        obtain ⟨b3, a3, cap3, e3, ho3, hb3, hb4, hk3⟩ := hm
        exact ⟨b3, a3, cap3, congrArg Ending.returned e3, ho3, hb3, hk3, hb4⟩
end Go.Proofs.Ytjlpmmbmjkbdiaa.Pk
