import Derived.Test.YtaengjgmchpabaaGreatMergeWr0
import Derived.Test.YtaengjgmchpabaaGreatMergeWr3
import Derived.Test.YtaengjgmchpabaaGreatPut
import Derived.Test.YtaengjgmchpabaaGreatMergeWr4
import Derived.LoopTactic
section
/- Walks of floats' bits and of Canon. -/
namespace Go.Proofs.YtaengjgmchpabaaGreat.Pk
open Go Go.RowKit Nm

theorem run_bits (a : Nat) (w : World) : (callFunc 100 #[.float .f64 a]).run Tryz.prog w = .ok (.value (.int .u64 a)) w := by
  rw [run_callFunc_extern (fn := Tryz.f100) (e := Extern.MathFloatBits.float64bits) Tryz.func100 (by kernel_rfl) (by kernel_rfl) (by kernel_rfl) (by kernel_rfl)]
  rfl
theorem run_frombits (n : Int) (w : World) : (callFunc 106 #[.int .u64 n]).run Tryz.prog w = .ok (.value (.float .f64 n.toNat)) w := by
  rw [run_callFunc_extern (fn := Tryz.f106) (e := Extern.MathFloatBits.float64frombits) Tryz.func106 (by kernel_rfl) (by kernel_rfl) (by kernel_rfl) (by kernel_rfl)]
  rfl
attribute [local go_sem] run_bits run_frombits

set_option maxHeartbeats 400000 in
theorem IsNaN_any (a : Nat) (w : World) :
    Calls Tryz.prog 113 #[.float .f64 a] w fun e w' => e = .returned (.bool (isNaN a)) ∧ w = w' := by
  go_enter Tryz.func113, Tryz.ntmps113
  go_wp2
  go_ret
  exact ⟨rfl, rfl⟩
set_option maxHeartbeats 400000 in
theorem nan_any (w : World) :
    Calls Tryz.prog 114 #[] w fun e w' => e = .returned (.float .f64 nanBits) ∧ w = w' := by
  go_enter Tryz.func114, Tryz.ntmps114
  go_wp2
  go_ret
  exact ⟨rfl, rfl⟩
set_option maxHeartbeats 400000 in
theorem refNaN_any (w : World) :
    Calls Tryz.prog 110 #[] w fun e w' => e = .returned (.float .f64 nanBits) ∧ w = w' := by
  go_enter Tryz.func110, Tryz.ntmps110
  go_wp2
  go_ret
  exact ⟨rfl, rfl⟩
set_option maxHeartbeats 400000 in
theorem Canon_any (a : Nat) (w : World) :
    Calls Tryz.prog 109 #[.float .f64 a] w fun e w' => e = .returned (.float .f64 (canon a)) ∧ w = w' := by
  cases h : isNaN a
  all_goals
    have h2 : (FloatKind.f64.format.order a a != some .eq) = _ := h
    go_enter Tryz.func109, Tryz.ntmps109
    go_wp2_with (first | (go_at_call 113; refine (IsNaN_any _ _).mono ?_; rintro e w' ⟨rfl, rfl⟩) | (go_at_call 114; refine (nan_any _).mono ?_; rintro e w' ⟨rfl, rfl⟩))
    go_ret
    exact ⟨by simp [canon, h], rfl⟩
set_option maxHeartbeats 400000 in
theorem refCanon_any (a : Nat) (w : World) :
    Calls Tryz.prog 103 #[.float .f64 a] w fun e w' => e = .returned (.float .f64 (canon a)) ∧ w = w' := by
  cases h : isNaN a
  all_goals
    have h2 : (FloatKind.f64.format.order a a != some .eq) = _ := h
    go_enter Tryz.func103, Tryz.ntmps103
    go_wp2_with (first | (go_at_call 110; refine (refNaN_any _).mono ?_; rintro e w' ⟨rfl, rfl⟩))
    go_ret
    exact ⟨by simp [canon, h], rfl⟩
end Go.Proofs.YtaengjgmchpabaaGreat.Pk
end
section
/- Walks of the Writer: Mark, Bytes. -/
namespace Go.Proofs.YtaengjgmchpabaaGreat.Pk
open Go Go.RowKit Mem
theorem WAt.lt {w : World} {bw : Nat} {S : Nat → Prop} {l : List Nat} (h : WAt w bw S l) : (∀ k, S k → k < w.heap.size) ∧ B8 l ∧ S bw := ⟨h.2.1, h.2.2.1, h.1⟩
theorem WAt.mono {w : World} {bw : Nat} {S T : Nat → Prop} {l : List Nat} (h : WAt w bw S l) (hs : ∀ k, S k → T k) (ht : ∀ k, T k → k < w.heap.size) : WAt w bw T l := by
  obtain ⟨h1, _, h8, h3⟩ := h
  refine ⟨hs _ h1, ht, h8, ?_⟩
  rcases h3 with ⟨T, h3 | ⟨bp, bd, a, cap, hh, hp, ho, sp, sd, n⟩⟩
  · exact ⟨T, .inl h3⟩
  · exact ⟨T, .inr ⟨bp, bd, a, cap, hh, hp, ho, hs _ sp, fun ha => hs _ (sd ha), n⟩⟩
theorem Put.later {bw : Nat} {S : Nat → Prop} {l : List Nat} {w w1 : World} {x : Ending} {w' : World} (h : Put bw S l w1 x w') (hk : Kept None w w1) (hlt : ∀ k, S k → k < w.heap.size) : Put bw S l w x w' := by
  obtain ⟨hx, h1, h2⟩ := h
  have := hk.size
  have := h2.size
  refine ⟨hx, h1.mono (fun k hk => hk.elim .inl (fun h => .inr ⟨by omega, h.2⟩)) (fun k hk => ?_), hk.ofNone.trans h2⟩
  rcases hk with hk | hk
  · have := hlt k hk; omega
  · exact hk.2
/-- put, of bytes in a block that is new -/
theorem put_new (bw : Nat) (S : Nat → Prop) (l : List Nat) (w w1 : World) (h : WAt w bw S l) (hk : Kept None w w1) (b2 : Nat) (hb : w.heap.size ≤ b2) (a2 : Option Addr) (cap2 n : Nat) (m : List Nat) (hs : Shows w1 b2 a2 cap2 m) (hn : n = m.length) (hm : B8 m) (hlen : l.length + n ≤ 70368744177664) :
    Calls Tryz.prog 70 #[.pointer (some ⟨bw, 0, none⟩), .slice a2 n cap2] w1 (Put bw S (l ++ m) w) := by
  subst hn
  refine (put_any bw S l w1 (h.kept hk (fun _ _ h => h)) b2 a2 cap2 m hs.src (fun _ e => by have := h.2.1 _ e; omega) hm hlen).mono fun x w' hp => ?_
  exact hp.later hk h.2.1
/-- whatever put makes of the bytes m in a block that is new: Q -/
def PutsNew (bw : Nat) (w : World) (m : List Nat) (Q : World → Prop) : Prop :=
  ∀ (w1 : World) (b2 : Nat) (a2 : Option Addr) (cap2 n : Nat), Kept None w w1 → w.heap.size ≤ b2 → Shows w1 b2 a2 cap2 m → n = m.length →
    Calls Tryz.prog 70 #[.pointer (some ⟨bw, 0, none⟩), .slice a2 n cap2] w1 fun x w' => x = .returned (.tuple #[]) ∧ Q w'
theorem puts_new (bw : Nat) (S : Nat → Prop) (l : List Nat) (w : World) (h : WAt w bw S l) (m : List Nat) (hm : B8 m) (hlen : l.length + m.length ≤ 70368744177664) :
    PutsNew bw w m fun w' => WAt w' bw (Grow S w w') (l ++ m) ∧ Kept S w w' := by
  intro w1 b2 a2 cap2 n hk hb hs hn
  exact put_new bw S l w w1 h hk b2 hb a2 cap2 n m hs hn hm (by omega)
/-- the head of an array that the call has made -/
theorem shows_made {w : World} {b : Nat} {C : Array Value} {t : TypeId} {f : Nat × Nat} {m : List Nat} {cap : Nat} (h : w.heap[b]? = some (.cells C t f)) (hC : C.toList.take m.length = m.map byteV) (h1 : m.length ≤ cap) (h2 : cap ≤ 9223372036854775807) : Shows w b (some ⟨b, 0, none⟩) cap m := by
  refine ⟨h1, h2, .inr ⟨0, rfl, fun i hi => ?_⟩⟩
  rw [Nat.zero_add, cell_heap h i]
  have e : (C.toList.take m.length)[i]? = (m.map byteV)[i]? := by rw [hC]
  rw [List.getElem?_take_of_lt hi] at e
  rw [← Array.getElem?_toList, e]
  simp [byteV, hi]
/-- what Bytes answers -/
def BytesPost (l : List Nat) (w : World) (x : Ending) (w' : World) : Prop :=
  ∃ b a cap, x = .returned (.tuple #[.slice a l.length cap, .int .i64 0]) ∧ OwnB 5 w' b a cap l ∧ w.heap.size ≤ b ∧ b ≤ w'.heap.size ∧ Kept None w w'
set_option maxHeartbeats 1000000 in
theorem WBytes_any (bw : Nat) (S : Nat → Prop) (l : List Nat) (w : World) (h : WAt w bw S l) (hlen : l.length ≤ 35184372088832) :
    Calls Tryz.prog 34 #[.pointer (some ⟨bw, 0, none⟩)] w (BytesPost l w) := by
  obtain ⟨_, _, h8, h3⟩ := h
  rcases h3 with ⟨T, ⟨hh, rfl⟩ | ⟨bp, bd, a, cap, hh, hp, ho, sp, sd, n⟩⟩
  · have c2 := cell_heap hh 2
    simp at c2
    have HH := Lib.hid hh
    clear hh
    go_enter Tryz.func34, Tryz.ntmps34
    go_wp2_with (first | (go_at_call 68; refine (written_nil bw w HH.out).mono ?_; rintro x w' ⟨rfl, rfl⟩) | (go_at_call 67; refine (Clone_nil _).mono ?_; rintro e w' ⟨rfl, rfl⟩))
    go_ret2
    exact ⟨w.heap.size, none, 0, rfl, OwnB.nil _ _ _, Nat.le_refl _, Nat.le_refl _, Kept.refl _ _⟩
  · have c2 := cell_heap hh 2
    simp at c2
    have HH := Lib.hid hh
    have HP := Lib.hid hp
    have HO := Lib.hid ho
    clear hh hp ho
    go_enter Tryz.func34, Tryz.ntmps34
    go_wp2_with fail
    refine (written_some bw bp a cap l w HH.out HP.out HO.out.shows.1).mono ?_
    rintro x w1 ⟨rfl, n1, rfl⟩
    go_wp2_with fail
    refine (Clone_any bd a cap l (w.drewN n1) (HO.out.src.heap rfl) hlen).mono ?_
    rintro x w3 ⟨b3, a3, cap3, rfl, ho, hb3, k3, hb4⟩
    have HO3 := Lib.hid ho
    clear ho
    go_wp2
    go_ret2
    exact ⟨b3, a3, cap3, rfl, HO3.out, hb3, hb4, k3.heap2 rfl rfl rfl rfl⟩
end Go.Proofs.YtaengjgmchpabaaGreat.Pk
end
section
/- Walks of the Writer: Int, Text. -/
namespace Go.Proofs.YtaengjgmchpabaaGreat.Pk
open Go Go.RowKit Mem
/-- the array that begins with some bytes -/
def fillG (pre : List Nat) : Array Value := ((pre ++ List.replicate (10 - pre.length) 0).map byteV).toArray
theorem fillG_next (pre : List Nat) (h : pre.length < 10) (v : Int) (x : Nat) (hv : v = (x : Int)) : (fillG pre).setIfInBounds pre.length (.int .u8 v) = fillG (pre ++ [x]) := by
  subst hv
  unfold fillG
  rw [List.length_append]
  rw [show 10 - pre.length = (10 - (pre.length + [x].length)) + 1 by simp; omega, List.replicate_succ]
  rw [List.map_append, List.map_cons]
  apply Array.ext'
  simp [byteV]
theorem fillG_get (pre : List Nat) (h : pre.length < 10) : (fillG pre)[pre.length]? = some (.int .u8 0) := by
  unfold fillG
  obtain ⟨j, hj⟩ : ∃ j, 10 - pre.length = j + 1 := ⟨9 - pre.length, by omega⟩
  rw [hj]
  simp [byteV]
theorem fillG_take (pre : List Nat) : (fillG pre).toList.take pre.length = pre.map byteV := by
  unfold fillG
  simp
theorem low7 (Z : Nat) (hZ : Z < 18446744073709551616) : bits .or .u8 (bits .and .u64 (Z : Int) 127 % 256) 128 = ((Z % 128 + 128 : Nat) : Int) := by
  rw [and_127 Z hZ]
  have e : ((Z % 128 : Nat) : Int) % 256 = ((Z % 128 : Nat) : Int) := by omega
  rw [e, or8_128 _ (by omega)]
/-- where the loop stands: what is written, what is left -/
def Going (n : Int) (k Z : Nat) (pre : List Nat) : Prop := pre.length = k ∧ intB n = pre ++ groupsN (9 - k) Z ∧ Z * 128 ^ k ≤ zig n
theorem Going.next {n : Int} {k Z : Nat} {pre : List Nat} (h : Going n k Z pre) (hz : 127 < Z) (hn : zig n < 18446744073709551616) : k ≤ 8 ∧ Going n (k + 1) (Z / 128) (pre ++ [Z % 128 + 128]) := by
  obtain ⟨h1, h2, h3⟩ := h
  have hk := few hn h3 hz
  refine ⟨hk, by simp [h1], ?_, ?_⟩
  · rw [h2, show 9 - k = (9 - (k + 1)) + 1 by omega, groupsN, if_neg (by omega)]
    simp
  · refine Nat.le_trans ?_ h3
    rw [Nat.pow_succ, Nat.mul_comm (128 ^ k) 128, ← Nat.mul_assoc]
    exact Nat.mul_le_mul_right _ (Nat.div_mul_le_self _ _)
theorem Going.done {n : Int} {k Z : Nat} {pre : List Nat} (h : Going n k Z pre) (hz : Z ≤ 127) : intB n = pre ++ [Z] := by
  rw [h.2.1, groupsN_small _ _ hz]
/-- the head of the array, as a slice -/
theorem head10 (b k : Nat) (hk : k ≤ 9) : ∀ W, (Instr.sliceAt 104 (.pointer (some ⟨b, 0, none⟩)) none (some (.int .i64 ((k : Int) + 1))) none).run Tryz.prog W = .ok (.slice (some ⟨b, 0, none⟩) (k + 1) 10) W := fun W => by
  have hal : Tryz.prog.arrayLen 104 = 10 := by kernel_rfl
  have hel : Tryz.prog.elem 104 = 5 := by kernel_rfl
  rw [run_sliceAt_array_h W 104 ⟨b, 0, none⟩ (by kernel_rfl) .i64 ((k : Int) + 1) (by omega) (by rw [hal]; omega), hal, hel]
  have hs : (sizeOf 5).run Tryz.prog W = .ok 1 W := by kernel_rfl
  rw [hs]
  have e1 : ((k : Int) + 1).toNat = k + 1 := by omega
  unfold slicedAt
  rw [e1]
  show Result.ok _ W = _
  rw [if_neg (by omega)]
  simp [Addr.add]
set_option maxHeartbeats 1000000 in
theorem WInt_gen (bw : Nat) (n : Int) (w : World) (h1 : -9223372036854775808 ≤ n) (h2 : n ≤ 9223372036854775807) (Q : World → Prop) (hput : PutsNew bw w (intB n) Q) :
    Calls Tryz.prog 35 #[.pointer (some ⟨bw, 0, none⟩), .int .i64 n] w fun x w' => x = .returned (.tuple #[]) ∧ Q w' := by
  have HP := Lib.hid hput
  have hz := zig_lt h1 h2
  have h0 : (w.alloc (.cells (fillG []) 104)).heap[w.heap.size]? = some (.cells (fillG []) 104 (0, 0)) := heap_alloc_new w _
  have H0 := Lib.hid h0
  clear hput h0
  go_enter Tryz.func35, Tryz.ntmps35
  go_wp2_with (first | (go_at_call 69; refine (fold_any _ _ h1 h2).mono ?_; rintro e w' ⟨rfl, rfl⟩))
  go_loopw [5, 6] (fun z i wr => ∃ (k Z : Nat) (pre : List Nat), Z ≤ 18446744073709551615 ∧ k ≤ 9 ∧ i = .int .i64 k ∧ z = .int .u64 Z ∧ Hid (Going n k Z pre ∧ wr.heap[w.heap.size]? = some (.cells (fillG pre) 104 (0, 0)) ∧ Kept None w wr)) (fun z _ _ => (intOf z).toNat)
  case atStart => exact ⟨0, zig n, [], by omega, by omega, rfl, rfl, ⟨rfl, rfl, by simp⟩, H0.out, (Kept.refl _ _).alloc _⟩
  case round =>
    obtain ⟨k, Z, pre, hZ, hk, rfl, rfl, hw⟩ := hrel
    have hpl := Lib.hid hw.out.1.1
    have hc := (cell_heap hw.out.2.1 pre.length).trans (fillG_get pre (by have := hpl.out; omega))
    have hf := frozen_heap hw.out.2.1 pre.length
    rw [hpl.out] at hc hf
    by_cases hlt : 127 < Z
    · have hb := Lib.hid (low7 Z (by omega))
      have hgn := Lib.hid (hw.out.1.next hlt hz)
      have hk8 : k ≤ 8 := hgn.out.1
      go_wp2
      go_roundw
      case rel => exact ⟨k + 1, Z / 128, pre ++ [Z % 128 + 128], by omega, by omega, by go_num, by go_num, hgn.out.2, by rw [heap_set hw.out.2.1 k, ← hpl.out, fillG_next pre (by have := hpl.out; omega) _ _ hb.out], hw.out.2.2.setAt (.inr (Nat.le_refl _)) _ _⟩
      case measure => simp [intOf]; omega
    · have hd := Lib.hid (hw.out.1.done (by omega))
      have hZ2 : Z ≤ 127 := by omega
      have hsl := head10 w.heap.size k hk
      go_wp2_with fail
      have hpl2 : (pre ++ [Z]).length = k + 1 := by rw [List.length_append, hpl.out]; rfl
      refine (HP.out _ w.heap.size _ 10 (k + 1) (hw.out.2.2.setAt (.inr (Nat.le_refl _)) _ _) (Nat.le_refl _) ?_ ?_).mono ?_
      · rw [hd.out]
        refine shows_made (C := fillG (pre ++ [Z])) (t := 104) (f := (0, 0)) ?_ (fillG_take _) (by rw [hpl2]; omega) (by decide)
        rw [heap_set hw.out.2.1 k, ← hpl.out, fillG_next pre (by have := hpl.out; omega) _ Z rfl]
      · rw [hd.out, hpl2]
      rintro x w' ⟨rfl, h3⟩
      have H3 := Lib.hid h3
      clear h3
      go_wp2
      go_end0
      exact ⟨rfl, H3.out⟩
theorem WInt_any (bw : Nat) (S : Nat → Prop) (l : List Nat) (n : Int) (w : World) (h : WAt w bw S l) (h1 : -9223372036854775808 ≤ n) (h2 : n ≤ 9223372036854775807) (hlen : l.length ≤ 35184372088832) :
    Calls Tryz.prog 35 #[.pointer (some ⟨bw, 0, none⟩), .int .i64 n] w (Put bw S (l ++ intB n) w) :=
  WInt_gen bw n w h1 h2 _ (puts_new bw S l w h _ (intB_b8 n) (by have := (intB_len n).2; omega))

/-- a Writer that was told of a text that is too long -/
def WLong (w : World) (bw : Nat) : Prop := ∃ T : TypeId, w.heap[bw]? = some (.cells #[.pointer none, .int .i64 0, .bool true] T (0, 0))
set_option maxHeartbeats 1000000 in
theorem WText_any (bw : Nat) (S : Nat → Prop) (l : List Nat) (w : World) (h : WAt w bw S l) (b2 : Nat) (a2 : Option Addr) (cap2 : Nat) (m : List Nat) (hs : Src w b2 a2 cap2 m) (hs3 : m ≠ [] → ¬ S b2) (hm : B8 m) (hm2 : m.length ≤ 16384) (hlen : l.length ≤ 35184372088832) :
    Calls Tryz.prog 39 #[.pointer (some ⟨bw, 0, none⟩), .slice a2 m.length cap2] w (Put bw S (l ++ textB m) w) := by
  have HA := Lib.hid h
  have HS := Lib.hid hs
  clear h hs
  go_enter Tryz.func39, Tryz.ntmps39
  go_wp2_with fail
  refine (WInt_any bw S l m.length w HA.out (by omega) (by omega) hlen).mono ?_
  rintro x w1 ⟨rfl, h1, h2⟩
  have H1 := Lib.hid h1
  clear h1
  go_wp2_with fail
  refine (put_any bw _ _ w1 H1.out b2 a2 cap2 m (HS.out.kept h2 hs3) (fun hm e => e.elim (hs3 hm) (fun h => by have := HS.out.lt hm; omega)) hm (by rw [List.length_append]; have := (intB_len m.length).2; omega)).mono ?_
  rintro x w2 ⟨rfl, h3, h4⟩
  go_wp2
  go_end0
  refine ⟨rfl, ?_, h2.trans' h4 (fun x hx => hx.elim .inl (fun h => .inr h.1))⟩
  rw [List.append_assoc] at h3
  have z1 := h2.size
  have z2 := h4.size
  refine h3.mono (fun k hk => ?_) (fun k hk => ?_)
  · rcases hk with (hk | hk) | hk
    · exact .inl hk
    · exact .inr ⟨hk.1, by omega⟩
    · exact .inr ⟨by omega, hk.2⟩
  · rcases hk with hk | hk
    · have := HA.out.2.1 k hk; omega
    · exact hk.2
end Go.Proofs.YtaengjgmchpabaaGreat.Pk
end
section
/- Walks of the Writer: Float. -/
namespace Go.Proofs.YtaengjgmchpabaaGreat.Pk
open Go Go.RowKit Mem
/-- the array behind k rounds -/
def fillC (x k : Nat) : Array Value := (((high8 x).take k ++ List.replicate (8 - k) 0).map byteV).toArray
theorem fillC_next (x k : Nat) (hk : k < 8) (v : Int) (hv : v = (((high8 x).getD k 0 : Nat) : Int)) : (fillC x k).setIfInBounds k (.int .u8 v) = fillC x (k + 1) := by
  subst hv
  rcases k with _ | _ | _ | _ | _ | _ | _ | _ | k <;> first | rfl | omega
theorem fillC_get (x k : Nat) (hk : k < 8) : (fillC x k)[k]? = some (.int .u8 0) := by
  rcases k with _ | _ | _ | _ | _ | _ | _ | _ | k <;> first | rfl | omega
theorem high_byte (X k : Nat) (hk : k < 8) : (X : Int) / 2 ^ (8 * (7 - k)) % 256 = (((high8 X).getD k 0 : Nat) : Int) := by
  rcases k with _ | _ | _ | _ | _ | _ | _ | _ | k <;> simp [high8] <;> omega
attribute [local go_sem] run_bits run_frombits
set_option maxHeartbeats 1000000 in
theorem WFloat_gen (bw : Nat) (x : Nat) (w : World) (Q : World → Prop) (hput : PutsNew bw w (fltB x) Q) :
    Calls Tryz.prog 102 #[.pointer (some ⟨bw, 0, none⟩), .float .f64 x] w fun x w' => x = .returned (.tuple #[]) ∧ Q w' := by
  have HP := Lib.hid hput
  have h0 : (w.alloc (.cells (fillC 0 0) 138)).heap[w.heap.size]? = some (.cells (fillC 0 0) 138 (0, 0)) := heap_alloc_new w _
  have H0 := Lib.hid h0
  clear hput h0
  go_enter Tryz.func102, Tryz.ntmps102
  go_wp2_with (first | (go_at_call 109; refine (Canon_any _ _).mono ?_; rintro e w' ⟨rfl, rfl⟩))
  go_loopw [10] (fun i wr => ∃ k : Nat, k ≤ 8 ∧ i = .int .i64 k ∧ Hid (wr.heap[w.heap.size]? = some (.cells (fillC (Nm.canon x) k) 138 (0, 0)) ∧ Kept None w wr)) (fun i _ => 8 - (intOf i).toNat)
  case atStart => exact ⟨0, by omega, rfl, H0.out, (Kept.refl _ _).alloc _⟩
  case round =>
    obtain ⟨k, hk, rfl, hw⟩ := hrel
    by_cases hlt : k < 8
    · have hc := (cell_heap hw.out.1 k).trans (fillC_get _ k hlt)
      have hf := frozen_heap hw.out.1 k
      have hb := Lib.hid (high_byte (Nm.canon x) k hlt)
      go_wp2
      go_roundw
      case rel => exact ⟨k + 1, by omega, by go_num, by rw [heap_set hw.out.1 k, fillC_next _ _ hlt _ hb.out], hw.out.2.setAt (.inr (Nat.le_refl _)) _ _⟩
      case measure => simp [intOf]; omega
    · obtain rfl : k = 8 := by omega
      go_wp2_with fail
      refine (HP.out wr w.heap.size _ 8 8 hw.out.2 (Nat.le_refl _) (shows_made hw.out.1 rfl (Nat.le_refl 8) (by decide)) rfl).mono ?_
      rintro x w' ⟨rfl, h1⟩
      have H1 := Lib.hid h1
      clear h1
      go_wp2
      go_end0
      exact ⟨rfl, H1.out⟩
theorem WFloat_any (bw : Nat) (S : Nat → Prop) (l : List Nat) (x : Nat) (w : World) (h : WAt w bw S l) (hlen : l.length ≤ 35184372088832) :
    Calls Tryz.prog 102 #[.pointer (some ⟨bw, 0, none⟩), .float .f64 x] w (Put bw S (l ++ fltB x) w) :=
  WFloat_gen bw x w _ (puts_new bw S l w h _ (high8_b8 _) (by show _ + 8 ≤ _; omega))
end Go.Proofs.YtaengjgmchpabaaGreat.Pk
end
section
/- A Writer of the call's own. -/
namespace Go.Proofs.YtaengjgmchpabaaGreat.Pk
open Go Go.RowKit Mem
attribute [local go_sem] run_bits run_frombits
theorem WAt.new {T : TypeId} (w : World) : WAt (w.alloc (.cells #[.pointer none, .int .i64 0, .bool false] T)) w.heap.size (Only w.heap.size) [] :=
  ⟨rfl, fun k hk => by cases hk; simp, B8.nil, T, .inl ⟨heap_alloc_new w _, rfl⟩⟩
/-- A Writer of the call's own (w: the world in which the call began). -/
def OwnW (w wr : World) (bw : Nat) (l : List Nat) : Prop := ∃ S, WAt wr bw S l ∧ (∀ k, S k → w.heap.size ≤ k) ∧ Kept None w wr
theorem OwnW.new {T : TypeId} (w wr : World) (h : Kept None w wr) : OwnW w (wr.alloc (.cells #[.pointer none, .int .i64 0, .bool false] T)) wr.heap.size [] :=
  ⟨_, WAt.new wr, fun k hk => by cases hk; exact h.size, h.alloc _⟩
theorem OwnW.put {w wr w' : World} {bw : Nat} {S : Nat → Prop} {l : List Nat} {x : Ending} (hs : ∀ k, S k → w.heap.size ≤ k) (hk : Kept None w wr) (h : Put bw S l wr x w') : x = .returned (.tuple #[]) ∧ OwnW w w' bw l := by
  obtain ⟨hx, h1, h2⟩ := h
  have := hk.size
  exact ⟨hx, _, h1, fun k hk => hk.elim (hs k) (fun h => by omega), hk.trans' h2 (fun x hx => .inr (hs x hx))⟩
theorem OwnW.kept {w wr w' : World} {bw : Nat} {l : List Nat} (h : OwnW w wr bw l) (hk : Kept None wr w') : OwnW w w' bw l := by
  obtain ⟨S, h1, h2, h3⟩ := h
  exact ⟨S, h1.kept hk (fun _ _ h => h), h2, h3.trans hk⟩
theorem OwnW.keeps {w wr : World} {bw : Nat} {l : List Nat} (h : OwnW w wr bw l) : Kept None w wr ∧ B8 l := by obtain ⟨S, h1, h2, h3⟩ := h; exact ⟨h3, h1.2.2.1⟩
theorem WInt_own (w wr : World) (bw : Nat) (l : List Nat) (n : Int) (h : OwnW w wr bw l) (h1 : -9223372036854775808 ≤ n) (h2 : n ≤ 9223372036854775807) (hlen : l.length ≤ 35184372088832) :
    Calls Tryz.prog 35 #[.pointer (some ⟨bw, 0, none⟩), .int .i64 n] wr fun x w' => x = .returned (.tuple #[]) ∧ OwnW w w' bw (l ++ intB n) := by
  obtain ⟨S, hw, hs, hk⟩ := h
  exact (WInt_any bw S l n wr hw h1 h2 hlen).mono fun x w' hp => OwnW.put hs hk hp
theorem WFloat_own (w wr : World) (bw : Nat) (l : List Nat) (x : Nat) (h : OwnW w wr bw l) (hlen : l.length ≤ 35184372088832) :
    Calls Tryz.prog 102 #[.pointer (some ⟨bw, 0, none⟩), .float .f64 x] wr fun x' w' => x' = .returned (.tuple #[]) ∧ OwnW w w' bw (l ++ fltB x) := by
  obtain ⟨S, hw, hs, hk⟩ := h
  exact (WFloat_any bw S l x wr hw hlen).mono fun x w' hp => OwnW.put hs hk hp
/-- what Bytes answers, of a Writer of the call's own -/
def BytesOwn (w wr : World) (bw : Nat) (l : List Nat) (x : Ending) (w' : World) : Prop :=
  ∃ b a cap, x = .returned (.tuple #[.slice a l.length cap, .int .i64 0]) ∧ OwnB 5 w' b a cap l ∧ wr.heap.size ≤ b ∧ b ≤ w'.heap.size ∧ OwnW w w' bw l ∧ Kept None wr w'
theorem WBytes_own (w wr : World) (bw : Nat) (l : List Nat) (h : OwnW w wr bw l) (hlen : l.length ≤ 35184372088832) :
    Calls Tryz.prog 34 #[.pointer (some ⟨bw, 0, none⟩)] wr (BytesOwn w wr bw l) := by
  have h0 := h
  obtain ⟨S, hw, hs, hk⟩ := h
  exact (WBytes_any bw S l wr hw hlen).mono fun x w' ⟨b, a, cap, hx, ho, hb, hb2, hk2⟩ => ⟨b, a, cap, hx, ho, hb, hb2, h0.kept hk2, hk2⟩
end Go.Proofs.YtaengjgmchpabaaGreat.Pk
end
section
/- Walks of the Reader: Int, Mark, Float, Text. -/
namespace Go.Proofs.YtaengjgmchpabaaGreat.Pk
open Go Go.RowKit Mem

/-- what Int answers -/
def IntPost (br bs : Nat) (l : List Nat) (e : Int) (w : World) (x : Ending) (w' : World) : Prop :=
  match rdInt l with
  | some (n, r) => x = .returned (.int .i64 n) ∧ RAt w' br bs r e ∧ Kept (Only br) w w'
  | none => Fell br bs (keep e 3) (.int .i64 0) w x w'
theorem intPost_none {br bs : Nat} {l : List Nat} {e : Int} {w : World} {x : Ending} {w' : World} (h : dec 0 0 l = none) (hp : Fell br bs (keep e 3) (.int .i64 0) w x w') : IntPost br bs l e w x w' := by
  unfold IntPost rdInt; rw [h]; exact hp
theorem intPost_some {br bs : Nat} {l r : List Nat} {z : Nat} {e : Int} {w : World} {x : Ending} {w' : World} (h : dec 0 0 l = some (z, r)) (hx : x = .returned (.int .i64 (unzig z))) (hr : RAt w' br bs r e) (hk : Kept (Only br) w w') : IntPost br bs l e w x w' := by
  unfold IntPost rdInt; rw [h]; exact ⟨hx, hr, hk⟩
theorem drop_get {l : List Nat} {k : Nat} (h : k < l.length) : l.drop k = l.getD k 0 :: l.drop (k + 1) := by
  rw [List.drop_eq_getElem_cons h]; simp [h]
theorem acc_next {k Z y : Nat} (hk : k ≤ 9) (hZ : Z < 128 ^ k) (hy : k = 9 → y ≤ 1) : bits .or .u64 (Z : Int) (IntKind.u64.wrap (((y % 128 : Nat) : Int) * 2 ^ (7 * (k : Int)).toNat)) = ((Z + 128 ^ k * (y % 128) : Nat) : Int) ∧ Z + 128 ^ k * (y % 128) < 128 ^ (k + 1) ∧ Z + 128 ^ k * (y % 128) < 18446744073709551616 := by
  have e1 : (7 * (k : Int)).toNat = 7 * k := by omega
  have hp : (2 : Nat) ^ (7 * k) = 128 ^ k := by rw [Nat.pow_mul]
  have h9 : 128 ^ k ≤ 128 ^ 9 := Nat.pow_le_pow_right (by decide) hk
  rw [show 128 ^ 9 = 9223372036854775808 from rfl] at h9
  have h3 : Z + 128 ^ k * (y % 128) < 128 ^ (k + 1) := by
    rw [Nat.pow_succ]
    have : 128 ^ k * (y % 128) ≤ 128 ^ k * 127 := Nat.mul_le_mul_left _ (by omega)
    omega
  have h4 : Z + 128 ^ k * (y % 128) < 18446744073709551616 := by
    by_cases e : k = 9
    · have := hy e
      subst e
      rw [show 128 ^ 9 = 9223372036854775808 from rfl] at hZ ⊢
      omega
    · have h5 : 128 ^ (k + 1) ≤ 128 ^ 9 := Nat.pow_le_pow_right (by decide) (by omega)
      rw [show 128 ^ 9 = 9223372036854775808 from rfl] at h5
      omega
  have e2 : IntKind.u64.wrap (((y % 128 : Nat) : Int) * 2 ^ (7 * (k : Int)).toNat) = ((2 ^ (7 * k) * (y % 128) : Nat) : Int) := by
    have e3 : ((y % 128 : Nat) : Int) * 2 ^ (7 * (k : Int)).toNat = ((2 ^ (7 * k) * (y % 128) : Nat) : Int) := by
      rw [e1, Int.natCast_mul, Int.natCast_pow, Int.mul_comm]; rfl
    rw [e3, hp]
    have hT : 128 ^ k * (y % 128) < 18446744073709551616 := by omega
    generalize 128 ^ k * (y % 128) = T at hT
    simp [IntKind.wrap, IntKind.bits, IntKind.signed]
    omega
  rw [e2, or_high _ _ _ (by rw [hp]; exact hZ) (by rw [hp]; omega) (by omega), hp]
  exact ⟨rfl, h3, h4⟩
theorem acc_walk {k Z y : Nat} (hk : k ≤ 9) (hZ : Z < 128 ^ k) (hy : k = 9 → y ≤ 1) (hy2 : y < 256) : bits .or .u64 (Z : Int) (IntKind.u64.wrap (IntKind.u64.wrap (bits .and .u8 (y : Int) 127) * 2 ^ (7 * k))) = ((Z + 128 ^ k * (y % 128) : Nat) : Int) ∧ Z + 128 ^ k * (y % 128) < 128 ^ (k + 1) ∧ Z + 128 ^ k * (y % 128) < 18446744073709551616 := by
  have h := acc_next hk hZ hy
  have e : IntKind.u64.wrap ((y % 128 : Nat) : Int) = ((y % 128 : Nat) : Int) := by
    have : y % 128 < 128 := by omega
    generalize y % 128 = T at this
    simp [IntKind.wrap, IntKind.bits, IntKind.signed]
    omega
  rw [show (7 * (k : Int)).toNat = 7 * k by omega] at h
  rw [and8_127 y hy2, e]
  exact h
theorem unfold_eq (q : Int) (z : Nat) (w : World) (hq : q = z) (h2 : z < 18446744073709551616) :
    Calls Tryz.prog 84 #[.int .u64 q] w fun e w' => e = .returned (.int .i64 (unzig z)) ∧ w = w' := by
  subst hq; exact unfold_any z w h2
/-- where the rest begins -/
theorem rest_at (bs off cap n : Nat) : ∃ o2, (if cap = n then some (⟨bs, off, none⟩ : Addr) else some ⟨bs, off + n, none⟩) = some ⟨bs, o2, none⟩ ∧ (o2 = off + n ∨ cap = n) := by
  by_cases h : cap = n
  · exact ⟨off, by rw [if_pos h], .inr h⟩
  · exact ⟨off + n, by rw [if_neg h], .inl rfl⟩
/-- the Reader behind n bytes -/
theorem rest_R {w : World} {br bs off o2 cap n : Nat} {l : List Nat} {e : Int} (hh : w.heap[br]? = some (.cells #[.slice (some ⟨bs, off, none⟩) l.length cap, .int .i64 e] 111 (0, 0)))
    (hs : Shows w bs (some ⟨bs, off, none⟩) cap l) (h8 : B8 l) (hne : br ≠ bs) (he : e ≠ 0 → l = []) (hn : n ≤ l.length) (ho : o2 = off + n ∨ cap = n) :
    RAt (w.setCell ⟨br, 0, none⟩ (.slice (some ⟨bs, o2, none⟩) (l.length - n) (cap - n))) br bs (l.drop n) e ∧ Kept (Only br) w (w.setCell ⟨br, 0, none⟩ (.slice (some ⟨bs, o2, none⟩) (l.length - n) (cap - n))) := by
  have k : Kept (Only br) w (w.setCell ⟨br, 0, none⟩ (.slice (some ⟨bs, o2, none⟩) (l.length - n) (cap - n))) := (Kept.refl _ _).setAt (.inl Only.self) _ _
  refine ⟨⟨some ⟨bs, o2, none⟩, cap - n, ?_, (fits_rest hs hn ho).kept k (fun _ => not_self hne), h8.drop _, hne, fun h => by rw [he h]; simp⟩, k⟩
  rw [heap_set hh 0]
  simp
set_option maxHeartbeats 1000000 in
set_option maxRecDepth 100000 in
theorem RInt_any (br bs : Nat) (l : List Nat) (e : Int) (w : World) (h : RAt w br bs l e) (hl : l.length ≤ 35184372088832) :
    Calls Tryz.prog 73 #[.pointer (some ⟨br, 0, none⟩)] w (IntPost br bs l e w) := by
  have HR := Lib.hid h
  obtain ⟨a, cap, hh, hs, h8, hne, he⟩ := h
  have c0 := cell_heap hh 0
  have f0 := frozen_heap hh 0
  simp at c0
  have HH := Lib.hid hh
  have H8 := Lib.hid h8
  have HE := Lib.hid he
  clear hh he
  rcases hs.2.2 with ⟨rfl, rfl, rfl⟩ | ⟨off, rfl, hc⟩
  · clear hs
    go_enter Tryz.func73, Tryz.ntmps73
    go_wp2
    refine wp_loop_rounds 1 ?_
    rw [rounds_succ]
    go_wp2_with (first | (go_at_call 85; refine (fail_any br bs [] e _ _ HR.out).mono ?_; rintro x w' ⟨rfl, h1, h2⟩))
    go_ret
    exact intPost_none rfl ⟨rfl, h1, h2⟩
  · have h1 := hs.1
    have h2 := hs.2.1
    have HS := Lib.hid hs
    have HC := Lib.hid hc
    clear hs hc h8
    go_enter Tryz.func73, Tryz.ntmps73
    go_wp2
    go_loop [3, 11] (fun z i => ∃ k Z : Nat, k ≤ l.length ∧ k ≤ 9 ∧ i = .int .i64 k ∧ z = .int .u64 Z ∧ Hid (Z < 128 ^ k ∧ dec 0 0 l = dec k Z (l.drop k))) (fun _ i => l.length - (intOf i).toNat)
    case atStart => exact ⟨0, 0, by omega, by omega, rfl, rfl, by decide, by simp⟩
    case round =>
      obtain ⟨k, Z, hk, hk9, rfl, rfl, hz⟩ := hrel
      by_cases hlt : k < l.length
      · have hcell := HC.out k hlt
        have hd := Lib.hid (drop_get hlt)
        have hy := H8.out.get k
        generalize l.getD k 0 = y at *
        rcases Nat.lt_or_ge 1 y with hy1 | hy1
        · by_cases hk8 : k ≤ 8
          · have hk9' : ((k : Int) == 9) = false := beq_eq_false_iff_ne.2 (by omega)
            have HN := Lib.hid (acc_walk (Z := Z) (y := y) hk9 hz.out.1 (by omega) hy)
            by_cases hy2 : 128 ≤ y
            · go_wp2
              go_round
              case rel => exact ⟨k + 1, Z + 128 ^ k * (y % 128), by omega, by omega, by go_num, by rw [HN.out.1], HN.out.2.1, by rw [hz.out.2, hd.out, dec, if_neg (by omega), if_pos hy2]⟩
              case measure => simp [intOf]; omega
            · have hy0 : ((y : Int) == 0) = false := beq_eq_false_iff_ne.2 (by omega)
              have hn1 : k + 1 ≤ l.length := hlt
              obtain ⟨o2, hA, hB⟩ := rest_at bs off cap (k + 1)
              have HB := Lib.hid hB
              clear hB
              go_wp2_with (first | (go_at_call 84; refine (unfold_eq _ _ _ HN.out.1 HN.out.2.2).mono ?_; rintro e w' ⟨rfl, rfl⟩))
              go_ret
              obtain ⟨r1, r2⟩ := rest_R HH.out HS.out H8.out hne HE.out hn1 HB.out
              refine intPost_some ?_ rfl r1 r2
              rw [hz.out.2, hd.out, dec, if_neg (by omega), if_neg (by omega), if_neg (by omega), show y % 128 = y by omega]
          · have hk9' : ((k : Int) == 9) = true := beq_iff_eq.2 (by omega)
            have K9 := Lib.hid (show k = 9 by omega)
            clear hk8
            go_wp2_with (first | (go_at_call 85; refine (fail_any br bs l e _ _ HR.out).mono ?_; rintro x w' ⟨rfl, h1, h2⟩))
            go_ret
            refine intPost_none ?_ ⟨rfl, h1, h2⟩
            rw [hz.out.2, hd.out, dec, if_pos ⟨K9.out, hy1⟩]
        · have HN := Lib.hid (acc_walk (Z := Z) (y := y) hk9 hz.out.1 (by omega) hy)
          obtain ⟨q9, hk9', HQ⟩ : ∃ q, ((k : Int) == 9) = q ∧ Hid True := ⟨_, rfl, trivial⟩
          have hy2 : decide (1 < (y : Int)) = false := by simp; omega
          rcases Nat.eq_zero_or_pos y with hy3 | hy3
          · have hy0 : ((y : Int) == 0) = true := by simpa using hy3
            have HY := Lib.hid hy3
            have hyu : y ≤ 0 := by omega
            clear hy3
            rcases Nat.eq_zero_or_pos k with hk0 | hk0
            · have hkz : k ≤ 0 := by omega
              have hk99 : ((k : Int) == 9) = false := beq_eq_false_iff_ne.2 (by omega)
              clear hk9' hk0
              have hn1 : k + 1 ≤ l.length := hlt
              obtain ⟨o2, hA, hB⟩ := rest_at bs off cap (k + 1)
              have HB := Lib.hid hB
              clear hB
              go_wp2_with (first | (go_at_call 84; refine (unfold_eq _ _ _ HN.out.1 HN.out.2.2).mono ?_; rintro e w' ⟨rfl, rfl⟩))
              go_ret
              obtain ⟨r1, r2⟩ := rest_R HH.out HS.out H8.out hne HE.out hn1 HB.out
              refine intPost_some ?_ rfl r1 r2
              rw [hz.out.2, hd.out, dec, if_neg (by omega), if_neg (by omega), if_neg (by omega), show y % 128 = y by omega]
            · cases q9
              all_goals
                go_wp2_with (first | (go_at_call 85; refine (fail_any br bs l e _ _ HR.out).mono ?_; rintro x w' ⟨rfl, h1, h2⟩))
                go_ret
                refine intPost_none ?_ ⟨rfl, h1, h2⟩
                rw [hz.out.2, hd.out, dec, if_neg (by omega), if_neg (by omega), if_pos ⟨HY.out, hk0⟩]
          · have hy0 : ((y : Int) == 0) = false := beq_eq_false_iff_ne.2 (by omega)
            cases q9
            all_goals
              have hn1 : k + 1 ≤ l.length := hlt
              obtain ⟨o2, hA, hB⟩ := rest_at bs off cap (k + 1)
              have HB := Lib.hid hB
              clear hB
              go_wp2_with (first | (go_at_call 84; refine (unfold_eq _ _ _ HN.out.1 HN.out.2.2).mono ?_; rintro e w' ⟨rfl, rfl⟩))
              go_ret
              obtain ⟨r1, r2⟩ := rest_R HH.out HS.out H8.out hne HE.out hn1 HB.out
              refine intPost_some ?_ rfl r1 r2
              rw [hz.out.2, hd.out, dec, if_neg (by omega), if_neg (by omega), if_neg (by omega), show y % 128 = y by omega]
      · obtain rfl : k = l.length := by omega
        go_wp2_with (first | (go_at_call 85; refine (fail_any br bs l e _ _ HR.out).mono ?_; rintro x w' ⟨rfl, h1, h2⟩))
        go_ret
        refine intPost_none ?_ ⟨rfl, h1, h2⟩
        rw [hz.out.2, List.drop_length]; rfl
end Go.Proofs.YtaengjgmchpabaaGreat.Pk
end
