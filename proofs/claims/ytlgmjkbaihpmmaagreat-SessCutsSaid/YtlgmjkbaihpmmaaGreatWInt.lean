/- Walks of the Writer: Int, Text. -/
import Derived.Test.YtlgmjkbaihpmmaaGreatWriter2
namespace Go.Proofs.YtlgmjkbaihpmmaaGreat.Pk
open Go Go.RowKit Mem
/-- the array that begins with some bytes -/
def fillG (pre : List Nat) : Array Value := ((pre ++ List.replicate (10 - pre.length) 0).map byteV).toArray
theorem fillG_next (pre : List Nat) (h : pre.length < 10) (v : Int) (x : Nat) (hv : v = (x : Int)) : (fillG pre).setIfInBounds pre.length (.int .u8 v) = fillG (pre ++ [x]) := by
  subst hv
  unfold fillG
  rw [List.length_append]
  rw [show 10 - pre.length = (10 - (pre.length + [x].length)) + 1 by simp; omega, List.replicate_succ]
  rw [List.map_append, List.map_cons]
  apply Array.ext'
  simp [byteV]
theorem fillG_get (pre : List Nat) (h : pre.length < 10) : (fillG pre)[pre.length]? = some (.int .u8 0) := by
  unfold fillG
  obtain ⟨j, hj⟩ : ∃ j, 10 - pre.length = j + 1 := ⟨9 - pre.length, by omega⟩
  rw [hj]
  simp [byteV]
theorem fillG_take (pre : List Nat) : (fillG pre).toList.take pre.length = pre.map byteV := by
  unfold fillG
  simp
theorem low7 (Z : Nat) (hZ : Z < 18446744073709551616) : bits .or .u8 (bits .and .u64 (Z : Int) 127 % 256) 128 = ((Z % 128 + 128 : Nat) : Int) := by
  rw [and_127 Z hZ]
  have e : ((Z % 128 : Nat) : Int) % 256 = ((Z % 128 : Nat) : Int) := by omega
  rw [e, or8_128 _ (by omega)]
/-- where the loop stands: what is written, what is left -/
def Going (n : Int) (k Z : Nat) (pre : List Nat) : Prop := pre.length = k ∧ intB n = pre ++ groupsN (9 - k) Z ∧ Z * 128 ^ k ≤ zig n
theorem Going.next {n : Int} {k Z : Nat} {pre : List Nat} (h : Going n k Z pre) (hz : 127 < Z) (hn : zig n < 18446744073709551616) : k ≤ 8 ∧ Going n (k + 1) (Z / 128) (pre ++ [Z % 128 + 128]) := by
  obtain ⟨h1, h2, h3⟩ := h
  have hk := few hn h3 hz
  refine ⟨hk, by simp [h1], ?_, ?_⟩
  · rw [h2, show 9 - k = (9 - (k + 1)) + 1 by omega, groupsN, if_neg (by omega)]
    simp
  · refine Nat.le_trans ?_ h3
    rw [Nat.pow_succ, Nat.mul_comm (128 ^ k) 128, ← Nat.mul_assoc]
    exact Nat.mul_le_mul_right _ (Nat.div_mul_le_self _ _)
theorem Going.done {n : Int} {k Z : Nat} {pre : List Nat} (h : Going n k Z pre) (hz : Z ≤ 127) : intB n = pre ++ [Z] := by
  rw [h.2.1, groupsN_small _ _ hz]
/-- the head of the array, as a slice -/
theorem head10 (b k : Nat) (hk : k ≤ 9) : ∀ W, (Instr.sliceAt 90 (.pointer (some ⟨b, 0, none⟩)) none (some (.int .i64 ((k : Int) + 1))) none).run Tryz.prog W = .ok (.slice (some ⟨b, 0, none⟩) (k + 1) 10) W := fun W => by
  have hal : Tryz.prog.arrayLen 90 = 10 := by kernel_rfl
  have hel : Tryz.prog.elem 90 = 5 := by kernel_rfl
  rw [run_sliceAt_array_h W 90 ⟨b, 0, none⟩ (by kernel_rfl) .i64 ((k : Int) + 1) (by omega) (by rw [hal]; omega), hal, hel]
  have hs : (sizeOf 5).run Tryz.prog W = .ok 1 W := by kernel_rfl
  rw [hs]
  have e1 : ((k : Int) + 1).toNat = k + 1 := by omega
  unfold slicedAt
  rw [e1]
  show Result.ok _ W = _
  rw [if_neg (by omega)]
  simp [Addr.add]
set_option maxHeartbeats 1000000 in
theorem WInt_gen (bw : Nat) (n : Int) (w : World) (h1 : -9223372036854775808 ≤ n) (h2 : n ≤ 9223372036854775807) (Q : World → Prop) (hput : PutsNew bw w (intB n) Q) :
    Calls Tryz.prog 20 #[.pointer (some ⟨bw, 0, none⟩), .int .i64 n] w fun x w' => x = .returned (.tuple #[]) ∧ Q w' := by
  have HP := Lib.hid hput
  have hz := zig_lt h1 h2
  have h0 : (w.alloc (.cells (fillG []) 90)).heap[w.heap.size]? = some (.cells (fillG []) 90 (0, 0)) := heap_alloc_new w _
  have H0 := Lib.hid h0
  clear hput h0
  go_enter Tryz.func20, Tryz.ntmps20
  go_wp2_with (first | (go_at_call 44; refine (fold_any _ _ h1 h2).mono ?_; rintro e w' ⟨rfl, rfl⟩))
  go_loopw [5, 6] (fun z i wr => ∃ (k Z : Nat) (pre : List Nat), Z ≤ 18446744073709551615 ∧ k ≤ 9 ∧ i = .int .i64 k ∧ z = .int .u64 Z ∧ Hid (Going n k Z pre ∧ wr.heap[w.heap.size]? = some (.cells (fillG pre) 90 (0, 0)) ∧ Kept None w wr)) (fun z _ _ => (intOf z).toNat)
  case atStart => exact ⟨0, zig n, [], by omega, by omega, rfl, rfl, ⟨rfl, rfl, by simp⟩, H0.out, (Kept.refl _ _).alloc _⟩
  case round =>
    obtain ⟨k, Z, pre, hZ, hk, rfl, rfl, hw⟩ := hrel
    have hpl := Lib.hid hw.out.1.1
    have hc := (cell_heap hw.out.2.1 pre.length).trans (fillG_get pre (by have := hpl.out; omega))
    have hf := frozen_heap hw.out.2.1 pre.length
    rw [hpl.out] at hc hf
    by_cases hlt : 127 < Z
    · have hb := Lib.hid (low7 Z (by omega))
      have hgn := Lib.hid (hw.out.1.next hlt hz)
      have hk8 : k ≤ 8 := hgn.out.1
      go_wp2
      go_roundw
      case rel => exact ⟨k + 1, Z / 128, pre ++ [Z % 128 + 128], by omega, by omega, by go_num, by go_num, hgn.out.2, by rw [heap_set hw.out.2.1 k, ← hpl.out, fillG_next pre (by have := hpl.out; omega) _ _ hb.out], hw.out.2.2.setAt (.inr (Nat.le_refl _)) _ _⟩
      case measure => simp [intOf]; omega
    · have hd := Lib.hid (hw.out.1.done (by omega))
      have hZ2 : Z ≤ 127 := by omega
      have hsl := head10 w.heap.size k hk
      go_wp2_with fail
      have hpl2 : (pre ++ [Z]).length = k + 1 := by rw [List.length_append, hpl.out]; rfl
      refine (HP.out _ w.heap.size _ 10 (k + 1) (hw.out.2.2.setAt (.inr (Nat.le_refl _)) _ _) (Nat.le_refl _) ?_ ?_).mono ?_
      · rw [hd.out]
        refine shows_made (C := fillG (pre ++ [Z])) (t := 90) (f := (0, 0)) ?_ (fillG_take _) (by rw [hpl2]; omega) (by decide)
        rw [heap_set hw.out.2.1 k, ← hpl.out, fillG_next pre (by have := hpl.out; omega) _ Z rfl]
      · rw [hd.out, hpl2]
      rintro x w' ⟨rfl, h3⟩
      have H3 := Lib.hid h3
      clear h3
      go_wp2
      go_end0
      exact ⟨rfl, H3.out⟩
theorem WInt_any (bw : Nat) (S : Nat → Prop) (l : List Nat) (n : Int) (w : World) (h : WAt w bw S l) (h1 : -9223372036854775808 ≤ n) (h2 : n ≤ 9223372036854775807) (hlen : l.length ≤ 35184372088832) :
    Calls Tryz.prog 20 #[.pointer (some ⟨bw, 0, none⟩), .int .i64 n] w (Put bw S (l ++ intB n) w) :=
  WInt_gen bw n w h1 h2 _ (puts_new bw S l w h _ (intB_b8 n) (by have := (intB_len n).2; omega))

/-- a Writer that was told of a text that is too long -/
def WLong (w : World) (bw : Nat) : Prop := w.heap[bw]? = some (.cells #[.pointer none, .int .i64 0, .bool true] 58 (0, 0))
set_option maxHeartbeats 1000000 in
theorem WText_any (bw : Nat) (S : Nat → Prop) (l : List Nat) (w : World) (h : WAt w bw S l) (b2 : Nat) (a2 : Option Addr) (cap2 : Nat) (m : List Nat) (hs : Src w b2 a2 cap2 m) (hs3 : m ≠ [] → ¬ S b2) (hm : B8 m) (hm2 : m.length ≤ 16384) (hlen : l.length ≤ 35184372088832) :
    Calls Tryz.prog 21 #[.pointer (some ⟨bw, 0, none⟩), .slice a2 m.length cap2] w (Put bw S (l ++ textB m) w) := by
  have HA := Lib.hid h
  have HS := Lib.hid hs
  clear h hs
  go_enter Tryz.func21, Tryz.ntmps21
  go_wp2_with fail
  refine (WInt_any bw S l m.length w HA.out (by omega) (by omega) hlen).mono ?_
  rintro x w1 ⟨rfl, h1, h2⟩
  have H1 := Lib.hid h1
  clear h1
  go_wp2_with fail
  refine (put_any bw _ _ w1 H1.out b2 a2 cap2 m (HS.out.kept h2 hs3) (fun hm e => e.elim (hs3 hm) (fun h => by have := HS.out.lt hm; omega)) hm (by rw [List.length_append]; have := (intB_len m.length).2; omega)).mono ?_
  rintro x w2 ⟨rfl, h3, h4⟩
  go_wp2
  go_end0
  refine ⟨rfl, ?_, h2.trans' h4 (fun x hx => hx.elim .inl (fun h => .inr h.1))⟩
  rw [List.append_assoc] at h3
  have z1 := h2.size
  have z2 := h4.size
  refine h3.mono (fun k hk => ?_) (fun k hk => ?_)
  · rcases hk with (hk | hk) | hk
    · exact .inl hk
    · exact .inr ⟨hk.1, by omega⟩
    · exact .inr ⟨by omega, hk.2⟩
  · rcases hk with hk | hk
    · have := HA.out.2.1 k hk; omega
    · exact hk.2
end Go.Proofs.YtlgmjkbaihpmmaaGreat.Pk
