/- DiskFull's walk. -/
import Derived.Test.YtaogpchjkbcjoaaTrips4
import Derived.Laws.MakeOwn
import Derived.Laws.OwnMore
namespace Go.Proofs.Ytaogpchjkbcjoaa.Dk
open Go Go.RowKit Mem Kp
theorem made_zeros (N : Nat) : (madeCells (Value.int .u8 0).cells (N * 1)).toList = (List.replicate N 0).map byteV := by
  rw [Nat.mul_one, List.map_replicate]
  exact toList_madeCells_one (.int .u8 0) N
theorem made_own (w : World) (n : Nat) (hn : n ≤ 1048576) : OwnB 5 (w.alloc (.cells (madeCells (Value.int .u8 0).cells (n * 1)) 5)) w.heap.size (some ⟨w.heap.size, 0, none⟩) n (List.replicate n 0) := by
  refine own_new (by simp) (by unfold maxLen; omega) (by simp [size_madeCells]) ?_
  rw [made_zeros, List.length_replicate, List.take_of_length_le (by simp)]
theorem made_own' (w : World) (n : Nat) (hn : n ≤ 1048576) : OwnB 5 (w.alloc (.cells (madeCells #[.int .u8 0] n) 5)) w.heap.size (some ⟨w.heap.size, 0, none⟩) n (List.replicate n 0) := by
  have := made_own w n hn
  rw [Nat.mul_one] at this
  exact this
theorem zeros_b8 (n : Nat) : B8 (List.replicate n 0) := by
  intro y hy; rw [List.eq_of_mem_replicate hy]; decide
theorem new_app (r : Nat) (a : List Nat) : ∃ f c, (St.new r).append a = (⟨r, f, 0, false, 0, 0⟩, c) ∧ f.length ≤ r ∧ ((c = 0 ∧ f = a ∧ a.length ≤ r) ∨ (c = 5 ∧ f = [] ∧ ¬ a.length ≤ r)) := by
  by_cases h : a.length ≤ r
  · refine ⟨a, 0, ?_, h, .inl ⟨rfl, rfl, h⟩⟩
    rw [St.append_ok rfl (by show 0 + a.length ≤ r; omega) (by show (0 : Nat) ≠ 1; decide)]; rfl
  · refine ⟨[], 5, ?_, Nat.zero_le _, .inr ⟨rfl, rfl, h⟩⟩
    rw [St.append_full rfl (by show r < 0 + a.length; omega)]; rfl
theorem rep_app (r : Nat) (f b : List Nat) : ∃ g c, (⟨r, f, 0, false, 0, 0⟩ : St).replace b = (⟨r, g, if c = 0 then b.length else 0, false, 0, 0⟩, c) ∧ ((c = 0 ∧ g = b ∧ b.length ≤ r) ∨ (c = 5 ∧ g = f ∧ ¬ b.length ≤ r)) := by
  by_cases h : b.length ≤ r
  · refine ⟨b, 0, ?_, .inl ⟨rfl, rfl, h⟩⟩
    rw [St.replace_ok rfl h (by show (0 : Nat) ≠ 1; decide)]; rfl
  · refine ⟨f, 5, ?_, .inr ⟨rfl, rfl, h⟩⟩
    rw [St.replace_full rfl (by show r < b.length; omega)]; rfl
set_option maxHeartbeats 8000000 in
theorem DiskFull_any (room : Int) (ba : Nat) (aa : Option Addr) (ca : Nat) (a : List Nat) (bb : Nat) (ab : Option Addr) (cb : Nat) (b : List Nat) (w : World) (hs : Src w ba aa ca a) (h8 : B8 a) (hs2 : Src w bb ab cb b) (h82 : B8 b) (_hr0 : -9223372036854775808 ≤ room) (_hr1 : room ≤ 9223372036854775807) :
    Calls Try.prog 7 #[.int .i64 room, .slice aa a.length ca, .slice ab b.length cb] w fun e w' => e = .returned (.bool true) ∧ Kept None w w' := by
  obtain ⟨i0, hi, hz0, hz1, hz2⟩ := info_parts infoU8
  have HS := Lib.hid hs
  have H8 := Lib.hid h8
  have HS2 := Lib.hid hs2
  have H82 := Lib.hid h82
  have hal := hs.len
  have hbl := hs2.len
  clear hs h8 hs2 h82
  by_cases hneg : room < 0
  · have d0 : decide (room < 0) = true := by simpa using hneg
    go_enter Try.func7, Try.ntmps7
    go_wp2
    go_ret
    exact ⟨rfl, Kept.refl _ _⟩
  · have d0 : decide (room < 0) = false := by simpa using hneg
    by_cases hrb : 200 < room
    · have d1 : decide (200 < room) = true := by simpa using hrb
      go_enter Try.func7, Try.ntmps7
      go_wp2
      go_ret
      exact ⟨rfl, Kept.refl _ _⟩
    · have d1 : decide (200 < room) = false := by simpa using hrb
      by_cases hbig : 300 < a.length
      · have d2 : decide (300 < a.length) = true := by simpa using hbig
        have d2' : decide ((300 : Int) < (a.length : Int)) = true := decide_eq_true (by omega)
        go_enter Try.func7, Try.ntmps7
        go_wp2
        go_ret
        exact ⟨rfl, Kept.refl _ _⟩
      · have d2 : decide (300 < a.length) = false := by simpa using hbig
        have d2' : decide ((300 : Int) < (a.length : Int)) = false := decide_eq_false (by omega)
        by_cases hbig2 : 300 < b.length
        · have d3 : decide (300 < b.length) = true := by simpa using hbig2
          have d3' : decide ((300 : Int) < (b.length : Int)) = true := decide_eq_true (by omega)
          go_enter Try.func7, Try.ntmps7
          go_wp2
          go_ret
          exact ⟨rfl, Kept.refl _ _⟩
        · have d3 : decide (300 < b.length) = false := by simpa using hbig2
          have d3' : decide ((300 : Int) < (b.length : Int)) = false := decide_eq_false (by omega)
          obtain ⟨r, rfl⟩ : ∃ r : Nat, room = (r : Int) := ⟨room.toNat, by omega⟩
          have hr : r ≤ 200 := by omega
          have hla : a.length ≤ 300 := by omega
          have hlb : b.length ≤ 300 := by omega
          clear hneg hrb hbig hbig2
          obtain ⟨f, c1, hap, hfr, hcase⟩ := new_app r a
          obtain ⟨g, c2, hrp, hcase2⟩ := rep_app r f b
          obtain ⟨N, hN⟩ : ∃ N, N = f.length := ⟨_, rfl⟩
          have hNr : N ≤ r := by omega
          have hmin : min (N : Int) (r : Int) = (N : Int) := by omega
          have hmk : ∀ W : World, (Instr.makeSlice 30 (.int .i64 ((r : Int) + 1 - (N : Int))) (.int .i64 ((r : Int) + 1 - (N : Int)))).run Try.prog W = .ok (.slice (some ⟨W.heap.size, 0, none⟩) (r + 1 - N) (r + 1 - N)) (W.alloc (.cells (madeCells (Value.int .u8 0).cells ((r + 1 - N) * 1)) 5)) := by
            intro W
            have h := run_make (P := Try.prog) W 30 5 i0 _ Try.underlying30 hi hz0 .i64 .i64 ((r : Int) + 1 - (N : Int)) ((r : Int) + 1 - (N : Int)) (by omega) (by omega) (by rw [hz2]; omega) (by omega)
            rw [show ((r : Int) + 1 - (N : Int)).toNat = r + 1 - N by omega, hz1] at h
            exact h
          have hmk2 : ∀ W : World, (Instr.makeSlice 30 (.int .i64 ((r : Int) + 1)) (.int .i64 ((r : Int) + 1))).run Try.prog W = .ok (.slice (some ⟨W.heap.size, 0, none⟩) (r + 1) (r + 1)) (W.alloc (.cells (madeCells (Value.int .u8 0).cells ((r + 1) * 1)) 5)) := by
            intro W
            have h := run_make (P := Try.prog) W 30 5 i0 _ Try.underlying30 hi hz0 .i64 .i64 ((r : Int) + 1) ((r : Int) + 1) (by omega) (by omega) (by rw [hz2]; omega) (by omega)
            rw [show ((r : Int) + 1).toNat = r + 1 by omega, hz1] at h
            exact h
          have HN := Lib.hid hN
          have HAP := Lib.hid hap
          have HRP := Lib.hid hrp
          have hca : (c1 = 0 ∧ decide ((a.length : Int) ≤ (r : Int)) = true ∧ decide (a.length ≤ r) = true) ∨ (c1 = 5 ∧ decide ((a.length : Int) ≤ (r : Int)) = false ∧ decide (a.length ≤ r) = false) := by
            rcases hcase with ⟨e1, _, e2⟩ | ⟨e1, _, e2⟩
            · exact .inl ⟨e1, decide_eq_true (by omega), decide_eq_true e2⟩
            · exact .inr ⟨e1, decide_eq_false (by omega), decide_eq_false e2⟩
          have hcb : (c2 = 0 ∧ g.length = b.length ∧ decide ((b.length : Int) ≤ (r : Int)) = true ∧ decide (b.length ≤ r) = true) ∨ (c2 = 5 ∧ g.length = N ∧ decide ((b.length : Int) ≤ (r : Int)) = false ∧ decide (b.length ≤ r) = false) := by
            rcases hcase2 with ⟨e1, e3, e2⟩ | ⟨e1, e3, e2⟩
            · exact .inl ⟨e1, by rw [e3], decide_eq_true (by omega), decide_eq_true e2⟩
            · exact .inr ⟨e1, by rw [e3, hN], decide_eq_false (by omega), decide_eq_false e2⟩
          have HCB := Lib.hid hcb
          clear hcase hcase2 hN hap hrp hcb
          have hNN : ((N : Int) != (N : Int)) = false := by simp
          have hNN' : ((N : Int) == (N : Int)) = true := by simp
          have hbb' : ((b.length : Int) == (b.length : Int)) = true := by simp
          go_enter Try.func7, Try.ntmps7
          go_wp2_with fail
          refine (New_own w w (Kept.refl _ _) r (by omega) None none_lt).mono ?_
          rintro x w1 ⟨d, rfl, h1, _⟩
          have H1 := Lib.hid h1
          clear h1
          go_wp2_with fail
          refine (Append_own w _ _ d _ H1.out ba aa ca a (HS.out.kept H1.out.kept (fun _ h => h)) (fun h => .inl (HS.out.lt h)) H8.out (by omega)).mono ?_
          rw [HAP.out]
          rintro x w2 ⟨rfl, h2, _⟩
          have H2 := Lib.hid h2
          clear h2
          rcases hca with ⟨rfl, q1, q2⟩ | ⟨rfl, q1, q2⟩
          all_goals
            go_wp2_with fail
            refine (Size_own w _ _ d _ H2.out).mono ?_
            rintro x w3 ⟨rfl, rfl⟩
            simp only []
            rw [← HN.out]
            go_wp2_with fail
            refine (Trip_own w _ _ d _ H2.out 1 0 (by decide) (by decide) (by decide) (by decide)).mono ?_
            rintro x w4 ⟨rfl, h4, _⟩
            have H4 : Hid (Own w w4 None d ⟨r, f, 0, false, 1, 0⟩) := h4
            clear h4
            go_wp2_with fail
            have H5 := Lib.hid (H4.out.add ((Kept.refl _ _).alloc (.cells (madeCells #[.int .u8 0] (r + 1 - N)) 5)) w4.heap.size (Nat.le_refl _) (by simp))
            have hrl : (List.replicate (r + 1 - N) 0).length = r + 1 - N := List.length_replicate
            have hap := Append_own w _ _ d _ H5.out w4.heap.size (some ⟨w4.heap.size, 0, none⟩) (r + 1 - N) (List.replicate (r + 1 - N) 0) (made_own' w4 (r + 1 - N) (by omega)).src (fun _ => .inr (.inr rfl)) (zeros_b8 _) (by omega)
            rw [hrl, St.append_full rfl (by show r < f.length + (List.replicate (r + 1 - N) 0).length; rw [hrl, ← HN.out]; omega)] at hap
            refine hap.mono ?_
            clear hap hrl
            rintro x w6 ⟨rfl, h6, _⟩
            have H6 : Hid (Own w w6 None d ⟨r, f, 0, false, 1, 0⟩) := h6.drop (fun _ h => h.elim)
            clear h6 H5
            go_wp2_with fail
            have H7 := Lib.hid (H6.out.add ((Kept.refl _ _).alloc (.cells (madeCells #[.int .u8 0] (r + 1)) 5)) w6.heap.size (Nat.le_refl _) (by simp))
            have hrl : (List.replicate (r + 1) 0).length = r + 1 := List.length_replicate
            have hap := Replace_own w _ _ d _ H7.out w6.heap.size (some ⟨w6.heap.size, 0, none⟩) (r + 1) (List.replicate (r + 1) 0) (made_own' w6 (r + 1) (by omega)).src (fun _ => .inr (.inr rfl)) (zeros_b8 _) (by omega)
            rw [hrl, St.replace_full rfl (by show r < (List.replicate (r + 1) 0).length; rw [hrl]; omega)] at hap
            refine hap.mono ?_
            clear hap hrl
            rintro x w8 ⟨rfl, h8, _⟩
            have H8' : Hid (Own w w8 None d ⟨r, f, 0, false, 1, 0⟩) := h8.drop (fun _ h => h.elim)
            clear h8 H7
            go_wp2_with fail
            refine (Size_own w _ _ d _ H8'.out).mono ?_
            rintro x w9 ⟨rfl, rfl⟩
            simp only []
            rw [← HN.out]
            go_wp2_with fail
            refine (Off_own w _ _ d _ H8'.out).mono ?_
            rintro x w9 ⟨rfl, rfl⟩
            go_wp2_with fail
            refine (Trip_own w _ _ d _ H8'.out 0 0 (by decide) (by decide) (by decide) (by decide)).mono ?_
            rintro x w9 ⟨rfl, h9, _⟩
            have H9 : Hid (Own w w9 None d ⟨r, f, 0, false, 0, 0⟩) := h9
            clear h9
            go_wp2_with fail
            refine (Replace_own w _ _ d _ H9.out bb ab cb b (HS2.out.kept H9.out.kept (fun _ h => h)) (fun h => .inl (HS2.out.lt h)) H82.out (by omega)).mono ?_
            rw [HRP.out]
            rintro x w10 ⟨rfl, h10, _⟩
            have H10 := Lib.hid h10
            clear h10
            rcases HCB.out with ⟨rfl, e1, e2, e3⟩ | ⟨rfl, e1, e2, e3⟩
            all_goals
              have HE := Lib.hid e1
              clear e1
              go_wp2_with fail
              refine (Size_own w _ _ d _ H10.out).mono ?_
              rintro x w11 ⟨rfl, rfl⟩
              simp only []
              rw [HE.out]
              go_wp2_with fail
              refine (wakes_any _).mono ?_
              rintro x w12 ⟨rfl, hk12⟩
              have HK := Lib.hid (H10.out.kept.trans hk12)
              clear hk12
              go_wp2
              go_ret
              exact ⟨rfl, HK.out⟩
end Go.Proofs.Ytaogpchjkbcjoaa.Dk
