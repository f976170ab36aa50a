/- The walk of want. -/
import Derived.Test.YtjlpmmbmjkbdiaaRef2
namespace Go.Proofs.Ytjlpmmbmjkbdiaa.Pk
open Go Go.RowKit Mem
/-- a text that is too long -/
def It.long (x : It) : Bool := !kq x.K 0 && !kq x.K 1 && !kq x.K 2 && decide (16384 < x.t.length)
def wantB (L : List It) : List Nat := (L.map (fun x => if x.long then [] else x.v.enc)).flatten
def wantOk (L : List It) : Bool := L.all (fun x => !x.long)
theorem wantB_take {L : List It} {k : Nat} (h : k < L.length) : wantB (L.take (k + 1)) = wantB (L.take k) ++ (if (L.getD k It.none).long then [] else (L.getD k It.none).v.enc) := by
  rw [List.take_succ_eq_append_getElem h]
  unfold wantB
  rw [List.map_append, List.flatten_append]
  simp [h]
theorem wantOk_take {L : List It} {k : Nat} (h : k < L.length) : wantOk (L.take (k + 1)) = (wantOk (L.take k) && !(L.getD k It.none).long) := by
  rw [List.take_succ_eq_append_getElem h]
  unfold wantOk
  rw [List.all_append]
  simp [h]
theorem wantB_ok {L : List It} (h : wantOk L = true) : wantB L = encs L := by
  unfold wantOk at h
  unfold wantB encs
  congr 1
  refine List.map_congr_left fun x hx => ?_
  have := List.all_eq_true.1 h x hx
  simp at this
  simp [this]
theorem It.fits {w : World} {x : It} (hx : x.ok w) (h : x.long = false) : x.v.enc.length ≤ 16394 := by
  unfold It.v
  split
  · exact enc_len (v := .int x.N) hx.2.1
  · split
    · exact enc_len (v := .mark x.I) trivial
    · split
      · exact enc_len (v := .flt x.X) hx.2.2.1
      · rename_i q0 q1 q2
        refine enc_len (v := .text x.t) ⟨?_, hx.2.2.2.2⟩
        unfold It.long at h
        simp only [Bool.not_eq_true] at q0 q1 q2
        rw [q0, q1, q2] at h
        simp at h
        omega
theorem wantB_len {w : World} {L : List It} (h : ∀ x ∈ L, x.ok w) : (wantB L).length ≤ L.length * 16394 := by
  induction L with
  | nil => simp [wantB]
  | cons x L ih =>
    have h1 := ih (fun y hy => h y (List.mem_cons_of_mem _ hy))
    have h2 : (if x.long then [] else x.v.enc).length ≤ 16394 := by
      cases hl : x.long
      · simpa using It.fits (h x (List.mem_cons_self ..)) hl
      · simp
    have e : wantB (x :: L) = (if x.long then [] else x.v.enc) ++ wantB L := by unfold wantB; simp
    rw [e, List.length_append, List.length_cons]
    omega
/-- what want answers -/
def WantPost (L : List It) (w : World) (x : Ending) (w' : World) : Prop :=
  ∃ b a cap, x = .returned (.tuple #[.slice a (wantB L).length cap, .bool (wantOk L)]) ∧ OwnB 5 w' b a cap (wantB L) ∧ w.heap.size ≤ b ∧ b ≤ w'.heap.size ∧ Kept Mem.None w w'
set_option maxHeartbeats 8000000 in
set_option maxRecDepth 100000 in
theorem want_any (a : Option Addr) (cap : Nat) (L : List It) (w : World) (hi : Items w a L) (hL : L.length ≤ 200) (ht : ∀ x ∈ L, x.t.length ≤ 32768) :
    Calls Try.prog 14 #[.slice a L.length cap] w (WantPost L w) := by
  obtain ⟨i0, hi0, hz0, hz1, hz2⟩ := info_parts infoU8
  have HI := Lib.hid hi
  have HT := Lib.hid ht
  clear hi ht
  go_enter Try.func14, Try.ntmps14
  go_wp2
  go_loopw [4, 5, 6] (fun v ok i wr => ∃ k : Nat, k ≤ L.length ∧ i = .int .i64 k ∧ ok = .bool (wantOk (L.take k)) ∧ Hid (Mine w wr v (wantB (L.take k)))) (fun _ _ i _ => L.length - (intOf i).toNat)
  case atStart => exact ⟨0, by omega, rfl, rfl, Mine.start w⟩
  case round =>
    obtain ⟨k, hk, rfl, rfl, hw⟩ := hrel
    obtain ⟨bm, am, capm, rfl, ho, hb, hb2, hkk⟩ := hw.out
    have HO := Lib.hid ho
    have HK := Lib.hid hkk
    by_cases hlt : k < L.length
    · obtain ⟨b, off, rfl, hc⟩ := (HI.out.kept hkk).2.2 (by omega)
      obtain ⟨c0, c1, c2, c3, c4⟩ := hc k hlt
      have HX := Lib.hid ((HI.out.get hlt).kept hkk)
      have hxt : (L.getD k It.none).t.length ≤ 32768 := HT.out _ (by simp [hlt])
      have HE := Lib.hid (wantB_take hlt)
      have HOK := Lib.hid (wantOk_take hlt)
      have hwl : (wantB (L.take k)).length ≤ 3278800 := by
        have h1 := wantB_len (w := w) (L := L.take k) (fun x hx => HI.out.1 x (List.mem_of_mem_take hx))
        rw [List.length_take] at h1
        have : min k L.length ≤ 200 := by omega
        have := Nat.mul_le_mul_right 16394 this
        omega
      have hN1 := HX.out.2.1.1
      have hN2 := HX.out.2.1.2
      clear hc ho hkk hw
      generalize L.getD k It.none = x at *
      generalize wantB (L.take k) = W at *
      generalize wantOk (L.take k) = ok at *
      obtain ⟨W2, hW2⟩ : ∃ W2, wantB (L.take (k + 1)) = W2 := ⟨_, rfl⟩
      obtain ⟨ok2, hok2⟩ : ∃ ok2, wantOk (L.take (k + 1)) = ok2 := ⟨_, rfl⟩
      rw [hW2] at HE
      rw [hok2] at HOK
      have HW2 := Lib.hid hW2
      have HOK2 := Lib.hid hok2
      clear hW2 hok2
      cases q0 : kq x.K 0
      · cases q1 : kq x.K 1
        · cases q2 : kq x.K 2
          · by_cases hlong : 16384 < x.t.length
            · have hl : x.long = true := by unfold It.long; rw [q0, q1, q2]; simp; exact hlong
              have HQ : Hid (W2 = W ∧ ok2 = false) := ⟨by rw [HE.out, hl]; simp, by rw [HOK.out, hl]; simp⟩
              clear hl HE HOK
              unfold kq at q0 q1 q2
              go_wp2
              go_roundw
              case rel => exact ⟨k + 1, by omega, by go_num, by rw [HOK2.out, HQ.out.2], by rw [HW2.out, HQ.out.1]; exact ⟨bm, am, capm, rfl, HO.out, hb, hb2, HK.out⟩⟩
              case measure => simp [intOf]; omega
            · have hl : x.long = false := by unfold It.long; rw [q0, q1, q2]; simp; omega
              have hv : x.v.enc = textB x.t := by unfold It.v; rw [q0, q1, q2]; rfl
              have HQ : Hid (W2 = W ++ textB x.t ∧ ok2 = ok) := ⟨by rw [HE.out, hl, hv]; rfl, by rw [HOK.out, hl]; simp⟩
              have hel : (textB x.t).length ≤ 32778 := by unfold textB; rw [List.length_append]; have := (intB_len x.t.length).2; omega
              clear hl hv HE HOK
              unfold kq at q0 q1 q2
              go_wp2_with fail
              refine (refText_any x.tb x.ta x.tc x.t wr HX.out.2.2.2.1 hxt).mono ?_
              rintro x' w5 ⟨b5, a5, cap5, rfl, ho5, hb5, hk5, hb52⟩
              have HO5 := Lib.hid ho5
              have HK5 := Lib.hid hk5
              clear ho5 hk5
              go_wp2_with (at_builtin; refine wpList_append_bytes rfl _ _ 28 rfl 5 i0 Try.underlying28 hi0 hz0 hz1 hz2 bm am capm W _ rfl (HO.out.kept HK5.out (fun _ h => h)) rfl b5 a5 cap5 (textB x.t) _ rfl HO5.out.src rfl (by omega) ?_)
              intro b' a' cap' w' h2 h3 h4 h5
              have HM := Lib.hid (mine_append' (n := W.length + (textB x.t).length) HQ.out.1.symm (by simp) hb HK.out HK5.out h2 h3 (by simpa using h4))
              clear h2 h3 h4 h5
              go_wp2
              go_roundw
              case rel => exact ⟨k + 1, by omega, by go_num, by rw [HOK2.out, HQ.out.2], by rw [HW2.out]; exact HM.out⟩
              case measure => simp [intOf]; omega
          · have hl : x.long = false := by unfold It.long; rw [q0, q1, q2]; rfl
            have hv : x.v.enc = fltB x.X := by unfold It.v; rw [q0, q1, q2]; rfl
            have HQ : Hid (W2 = W ++ fltB x.X ∧ ok2 = ok) := ⟨by rw [HE.out, hl, hv]; rfl, by rw [HOK.out, hl]; simp⟩
            have hel : (fltB x.X).length ≤ 8 := Nat.le_refl 8
            clear hl hv HE HOK
            unfold kq at q0 q1 q2
            go_wp2_with fail
            refine (refFloat_any x.X wr).mono ?_
            rintro x' w5 ⟨b5, a5, cap5, rfl, ho5, hb5, hk5, hb52⟩
            have HO5 := Lib.hid ho5
            have HK5 := Lib.hid hk5
            clear ho5 hk5
            go_wp2_with (at_builtin; refine wpList_append_bytes rfl _ _ 28 rfl 5 i0 Try.underlying28 hi0 hz0 hz1 hz2 bm am capm W _ rfl (HO.out.kept HK5.out (fun _ h => h)) rfl b5 a5 cap5 (fltB x.X) _ rfl HO5.out.src rfl (by omega) ?_)
            intro b' a' cap' w' h2 h3 h4 h5
            have HM := Lib.hid (mine_append' (n := W.length + (fltB x.X).length) HQ.out.1.symm (by simp) hb HK.out HK5.out h2 h3 (by simpa using h4))
            clear h2 h3 h4 h5
            go_wp2
            go_roundw
            case rel => exact ⟨k + 1, by omega, by go_num, by rw [HOK2.out, HQ.out.2], by rw [HW2.out]; exact HM.out⟩
            case measure => simp [intOf]; omega
        · have hl : x.long = false := by unfold It.long; rw [q0, q1]; rfl
          have hv : x.v.enc = markB x.I := by unfold It.v; rw [q0, q1]; rfl
          have HQ : Hid (W2 = W ++ markB x.I ∧ ok2 = ok) := ⟨by rw [HE.out, hl, hv]; rfl, by rw [HOK.out, hl]; simp⟩
          have hel : (markB x.I).length ≤ 1 := Nat.le_refl 1
          clear hl hv HE HOK
          unfold kq at q0 q1
          go_wp2_with fail
          refine (refMark_any x.I wr).mono ?_
          rintro x' w5 ⟨b5, a5, cap5, rfl, ho5, hb5, hk5, hb52⟩
          have HO5 := Lib.hid ho5
          have HK5 := Lib.hid hk5
          clear ho5 hk5
          go_wp2_with (at_builtin; refine wpList_append_bytes rfl _ _ 28 rfl 5 i0 Try.underlying28 hi0 hz0 hz1 hz2 bm am capm W _ rfl (HO.out.kept HK5.out (fun _ h => h)) rfl b5 a5 cap5 (markB x.I) _ rfl HO5.out.src rfl (by omega) ?_)
          intro b' a' cap' w' h2 h3 h4 h5
          have HM := Lib.hid (mine_append' (n := W.length + (markB x.I).length) HQ.out.1.symm (by simp) hb HK.out HK5.out h2 h3 (by simpa using h4))
          clear h2 h3 h4 h5
          go_wp2
          go_roundw
          case rel => exact ⟨k + 1, by omega, by go_num, by rw [HOK2.out, HQ.out.2], by rw [HW2.out]; exact HM.out⟩
          case measure => simp [intOf]; omega
      · have hl : x.long = false := by unfold It.long; rw [q0]; rfl
        have hv : x.v.enc = intB x.N := by unfold It.v; rw [q0]; rfl
        have HQ : Hid (W2 = W ++ intB x.N ∧ ok2 = ok) := ⟨by rw [HE.out, hl, hv]; rfl, by rw [HOK.out, hl]; simp⟩
        have hel := (intB_len x.N).2
        clear hl hv HE HOK
        unfold kq at q0
        go_wp2_with fail
        refine (refInt_any x.N wr hN1 hN2).mono ?_
        rintro x' w5 ⟨b5, a5, cap5, rfl, ho5, hb5, hk5, hb52⟩
        have HO5 := Lib.hid ho5
        have HK5 := Lib.hid hk5
        clear ho5 hk5
        go_wp2_with (at_builtin; refine wpList_append_bytes rfl _ _ 28 rfl 5 i0 Try.underlying28 hi0 hz0 hz1 hz2 bm am capm W _ rfl (HO.out.kept HK5.out (fun _ h => h)) rfl b5 a5 cap5 (intB x.N) _ rfl HO5.out.src rfl (by omega) ?_)
        intro b' a' cap' w' h2 h3 h4 h5
        have HM := Lib.hid (mine_append' (n := W.length + (intB x.N).length) HQ.out.1.symm (by simp) hb HK.out HK5.out h2 h3 (by simpa using h4))
        clear h2 h3 h4 h5
        go_wp2
        go_roundw
        case rel => exact ⟨k + 1, by omega, by go_num, by rw [HOK2.out, HQ.out.2], by rw [HW2.out]; exact HM.out⟩
        case measure => simp [intOf]; omega
    · obtain rfl : k = L.length := by omega
      have e1 : wantB (L.take L.length) = wantB L := by rw [List.take_length]
      have e2 : wantOk (L.take L.length) = wantOk L := by rw [List.take_length]
      rw [e1] at HO ⊢
      rw [e2]
      clear e1 e2 ho hw hkk
      go_wp2
      go_ret2
      exact ⟨bm, am, capm, rfl, HO.out, hb, hb2, HK.out⟩
end Go.Proofs.Ytjlpmmbmjkbdiaa.Pk
