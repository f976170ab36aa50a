/- DiskTrips' walk. -/
import Derived.Test.YtaogpchjkbcjoaaTorn4
namespace Go.Proofs.Ytaogpchjkbcjoaa.Dk
open Go Go.RowKit Mem Kp
/-- where a disk with a trip stands, when k writes have been asked for, i bytes among them -/
structure Tp (N : Nat) (l : List Nat) (k i : Nat) (st : St) : Prop where
  room : st.room = 65536
  off : st.off = decide (0 < N ∧ N ≤ k)
  on : st.off = false → st.armed = N - k ∧ st.file = l.take i
  some_ : ∃ m, m ≤ i ∧ st.file = l.take m
def Hit (N k : Nat) : Prop := 0 < N ∧ N ≤ k
theorem take_any (l : List Nat) (n q : Nat) : ∃ m, m ≤ n ∧ (l.take n).take q = l.take m := ⟨min q n, Nat.min_le_right _ _, List.take_take⟩
theorem tp_append {N : Nat} {l : List Nat} {k i : Nat} {st : St} (h : Tp N l k i st) (hi : i < l.length) (hl : l.length ≤ 300) :
    (Hit N (k + 1) → (st.append [l.getD i 0]).2 = 4) ∧ (¬ Hit N (k + 1) → (st.append [l.getD i 0]).2 = 0) ∧ Tp N l (k + 1) (i + 1) (st.append [l.getD i 0]).1 := by
  have ho := h.off
  cases hoff : st.off with
  | true =>
    rw [hoff] at ho
    have hh : 0 < N ∧ N ≤ k := by simpa using ho.symm
    rw [St.append_off hoff]
    obtain ⟨m, hm, hf⟩ := h.some_
    exact ⟨fun _ => rfl, fun hn => absurd ⟨hh.1, by omega⟩ hn, h.room, by show st.off = _; rw [hoff]; simp; omega, (fun e => by rw [hoff] at e; cases e), m, by omega, hf⟩
  | false =>
    rw [hoff] at ho
    have hn : ¬ (0 < N ∧ N ≤ k) := by simpa using ho.symm
    obtain ⟨ha, hf⟩ := h.on hoff
    have hr := h.room
    have hlen : st.file.length = i := by rw [hf, List.length_take]; omega
    have hfit : st.file.length + [l.getD i 0].length ≤ st.room := by show st.file.length + 1 ≤ st.room; omega
    have hnew : st.file ++ [l.getD i 0] = l.take (i + 1) := by
      rw [hf, List.take_succ_eq_append_getElem hi]; simp [hi]
    by_cases hlast : st.armed = 1
    · rw [St.append_last hoff hfit hlast]
      have hH : 0 < N ∧ N ≤ k + 1 := by omega
      refine ⟨fun _ => rfl, fun hn => absurd hH hn, hr, ?_, (fun e => by cases e), ?_⟩
      · show true = _; simp; omega
      · show ∃ m, m ≤ i + 1 ∧ (st.file ++ [l.getD i 0]).take _ = l.take m
        rw [hnew]
        exact take_any l (i + 1) _
    · rw [St.append_ok hoff hfit hlast]
      have hH : ¬ (0 < N ∧ N ≤ k + 1) := by omega
      refine ⟨fun hh => absurd hh hH, fun _ => rfl, hr, ?_, fun _ => ⟨?_, hnew⟩, i + 1, Nat.le_refl _, hnew⟩
      · show st.off = _; rw [hoff]; simp; omega
      · show st.armed - 1 = N - (k + 1); omega
theorem tp_sync {N : Nat} {l : List Nat} {k i : Nat} {st : St} (h : Tp N l k i st) :
    (Hit N (k + 1) → st.sync.2 = 4) ∧ (¬ Hit N (k + 1) → st.sync.2 = 0) ∧ Tp N l (k + 1) i st.sync.1 := by
  have ho := h.off
  cases hoff : st.off with
  | true =>
    rw [hoff] at ho
    have hh : 0 < N ∧ N ≤ k := by simpa using ho.symm
    rw [St.sync_off hoff]
    exact ⟨fun _ => rfl, fun hn => absurd ⟨hh.1, by omega⟩ hn, h.room, by show st.off = _; rw [hoff]; simp; omega, (fun e => by rw [hoff] at e; cases e), h.some_⟩
  | false =>
    rw [hoff] at ho
    have hn : ¬ (0 < N ∧ N ≤ k) := by simpa using ho.symm
    obtain ⟨ha, hf⟩ := h.on hoff
    have hr := h.room
    by_cases hlast : st.armed = 1
    · rw [St.sync_last hoff hlast]
      have hH : 0 < N ∧ N ≤ k + 1 := by omega
      refine ⟨fun _ => rfl, fun hn => absurd hH hn, hr, ?_, (fun e => by cases e), ?_⟩
      · show true = _; simp; omega
      · show ∃ m, m ≤ i ∧ st.file.take _ = l.take m
        rw [hf]
        exact take_any l i _
    · rw [St.sync_ok hoff hlast]
      have hH : ¬ (0 < N ∧ N ≤ k + 1) := by omega
      refine ⟨fun hh => absurd hh hH, fun _ => rfl, hr, ?_, fun _ => ⟨?_, hf⟩, h.some_⟩
      · show st.off = _; rw [hoff]; simp; omega
      · show st.armed - 1 = N - (k + 1); omega
theorem tp_start {n keep : Int} {l : List Nat} : Tp n.toNat l 0 0 ((St.new 65536).trip n keep) := by
  refine ⟨rfl, ?_, fun _ => ⟨by show n.toNat = _; omega, rfl⟩, 0, Nat.le_refl _, rfl⟩
  show false = _
  simp
/-- behind all writes: switched off, and on again -/
theorem tp_end {N : Nat} {l : List Nat} {k i : Nat} {st : St} (h : Tp N l k i st) (ok : st.Ok) (hi : i ≤ l.length) (hl : l.length ≤ 300) :
    ∃ m, m ≤ l.length ∧ ((st.trip 0 0).start).file = l.take m ∧ ((st.trip 0 0).start).off = false ∧ (((st.trip 0 0).start).append [120]).2 = 0 := by
  obtain ⟨m, hm, hf⟩ := h.some_
  have hr := h.room
  have e : ((st.trip 0 0).start).file = st.file ∧ ((st.trip 0 0).start).armed = 0 ∧ ((st.trip 0 0).start).room = 65536 := by
    unfold St.trip
    cases hoff : st.off with
    | true => exact ⟨rfl, (ok.still hoff).1, hr⟩
    | false => exact ⟨rfl, rfl, hr⟩
  refine ⟨m, by omega, by rw [e.1, hf], rfl, ?_⟩
  rw [St.append_ok rfl (by rw [e.1, e.2.2, hf, List.length_take]; show _ + 1 ≤ _; omega) (by rw [e.2.1]; decide)]
theorem one_of {l : List Nat} {i : Nat} (h : i < l.length) : (l.drop i).take 1 = [l.getD i 0] := by
  have e : l.drop i = l[i] :: l.drop (i + 1) := List.drop_eq_getElem_cons h
  rw [e]
  show [l[i]] = _
  simp [h]
set_option maxHeartbeats 8000000 in
theorem DiskTrips_any (n keep : Int) (bl : Nat) (al : Option Addr) (cl : Nat) (l : List Nat) (sy : Bool) (w : World) (hs : Src w bl al cl l) (h8 : B8 l) (hn0 : -9223372036854775808 ≤ n) (hn1 : n ≤ 9223372036854775807) (hk0 : -9223372036854775808 ≤ keep) (hk1 : keep ≤ 9223372036854775807) :
    Calls Try.prog 6 #[.int .i64 n, .int .i64 keep, .slice al l.length cl, .bool sy] w fun e w' => e = .returned (.bool true) ∧ Kept None w w' := by
  have kc := fun (w : World) (C : Array Value) (n c : Nat) => Lib.run_convert_bytes_const (P := Try.prog) w 30 5 C n c Try.underlying30 Try.underlying5
  have HS := Lib.hid hs
  have H8 := Lib.hid h8
  have hll := hs.len
  clear hs h8
  by_cases hbig : 300 < l.length
  · have d1 : decide (300 < l.length) = true := by simpa using hbig
    have d1' : decide ((300 : Int) < (l.length : Int)) = true := decide_eq_true (by omega)
    go_enter Try.func6, Try.ntmps6
    go_wp2
    go_ret
    exact ⟨rfl, Kept.refl _ _⟩
  · have d1 : decide (300 < l.length) = false := by simpa using hbig
    have d1' : decide ((300 : Int) < (l.length : Int)) = false := decide_eq_false (by omega)
    have hl : l.length ≤ 300 := by omega
    clear hbig
    go_enter Try.func6, Try.ntmps6
    go_wp2_with fail
    refine (New_own w w (Kept.refl _ _) 65536 (by decide) None none_lt).mono ?_
    rintro x w1 ⟨d, rfl, h1, _⟩
    have H1 := Lib.hid h1
    clear h1
    go_wp2_with fail
    refine (Trip_own w _ _ d _ H1.out n keep hn0 hn1 hk0 hk1).mono ?_
    rintro x w2 ⟨rfl, h2, _⟩
    have H2 := Lib.hid h2
    clear h2
    go_wp2
    go_loopw [11, 12] (fun q i wr => ∃ (k j : Nat) (st : St), j ≤ l.length ∧ k ≤ 2 * j ∧ q = .int .i64 k ∧ i = .int .i64 j ∧ Hid (Own w wr None d st ∧ Tp n.toNat l k j st)) (fun _ i _ => l.length - (intOf i).toNat)
    case atStart => exact ⟨0, 0, _, by omega, by omega, rfl, rfl, H2.out, tp_start⟩
    case round =>
      obtain ⟨k, j, st, hj, hk, rfl, rfl, hw⟩ := hrel
      by_cases hlt : j < l.length
      · obtain ⟨off, rfl, hc⟩ := HS.out.at_ (by omega)
        have hsh : Shows w bl (some ⟨bl, off, Option.none⟩) cl l := by
          rcases HS.out with h | h
          · exact h
          · rw [h.1] at hlt; simp at hlt
        have hcap := hsh.1
        have hcap2 := hsh.2.1
        have hcn : ¬ cl = j := by omega
        have hp1 := (fits_part (lo := j) (hi := j + 1) (o2 := off + j) hsh (by omega) (by omega) (.inl rfl)).1
        rw [show j + 1 - j = 1 by omega, one_of hlt] at hp1
        have HP := Lib.hid hp1
        have H81 : Hid (B8 [l.getD j 0]) := fun y hy => by
          obtain rfl : y = l.getD j 0 := by simpa using hy
          exact H8.out.get j
        have hb : bl < w.heap.size := HS.out.lt (by intro e; rw [e] at hlt; simp at hlt)
        have hap := Append_own w _ _ d st hw.out.1 bl (some ⟨bl, off + j, none⟩) (cl - j) [l.getD j 0] (HP.out.src.kept hw.out.1.kept (fun _ h => h)) (fun _ => .inl hb) H81.out (by simp)
        obtain ⟨t1, t2, t3⟩ := tp_append hw.out.2 hlt hl
        have HA := Lib.hid hap
        have HT3 := Lib.hid t3
        clear hc hsh hp1 hap
        generalize (st.append [l.getD j 0]).1 = st2 at *
        generalize (st.append [l.getD j 0]).2 = c2 at *
        have hcase : (decide (0 < n) = true ∧ decide (n ≤ (k : Int) + 1) = true ∧ c2 = 4) ∨ (decide (0 < n) = false ∧ c2 = 0) ∨ (decide (0 < n) = true ∧ decide (n ≤ (k : Int) + 1) = false ∧ c2 = 0) := by
          by_cases h0 : 0 < n
          · by_cases h1 : n ≤ (k : Int) + 1
            · exact .inl ⟨decide_eq_true h0, decide_eq_true h1, t1 ⟨by omega, by omega⟩⟩
            · exact .inr (.inr ⟨decide_eq_true h0, decide_eq_false h1, t2 (fun h => h1 (by have := h.2; omega))⟩)
          · exact .inr (.inl ⟨decide_eq_false h0, t2 (fun h => h0 (by have := h.1; omega))⟩)
        clear t1 t2
        rcases hcase with ⟨g1, g2, rfl⟩ | ⟨g1, rfl⟩ | ⟨g1, g2, rfl⟩
        all_goals
          go_wp2_with fail
          refine HA.out.mono ?_
          rintro x w3 ⟨rfl, h3, _⟩
          have H3 := Lib.hid h3
          clear h3
          cases sy
          · go_wp2
            go_roundw
            case rel => exact ⟨k + 1, j + 1, st2, by omega, by omega, by go_num, by go_num, H3.out, HT3.out⟩
            case measure => simp [intOf]; omega
          · have hsy := Lib.hid (Sync_own w _ _ d st2 H3.out)
            obtain ⟨s1, s2, s3⟩ := tp_sync HT3.out
            have HT4 := Lib.hid s3
            clear s3
            generalize st2.sync.1 = st4 at *
            generalize st2.sync.2 = c4 at *
            have hcase2 : (decide (0 < n) = true ∧ decide (n ≤ (k : Int) + 1 + 1) = true ∧ c4 = 4) ∨ (decide (0 < n) = false ∧ c4 = 0) ∨ (decide (0 < n) = true ∧ decide (n ≤ (k : Int) + 1 + 1) = false ∧ c4 = 0) := by
              by_cases h0 : 0 < n
              · by_cases h1 : n ≤ (k : Int) + 1 + 1
                · exact .inl ⟨decide_eq_true h0, decide_eq_true h1, s1 ⟨by omega, by omega⟩⟩
                · exact .inr (.inr ⟨decide_eq_true h0, decide_eq_false h1, s2 (fun h => h1 (by have := h.2; omega))⟩)
              · exact .inr (.inl ⟨decide_eq_false h0, s2 (fun h => h0 (by have := h.1; omega))⟩)
            clear s1 s2
            rcases hcase2 with ⟨f1, f2, rfl⟩ | ⟨f1, rfl⟩ | ⟨f1, f2, rfl⟩
            all_goals first | (exfalso; rw [g1] at f1; cases f1; done) | (exfalso; have := of_decide_eq_true g2; have := of_decide_eq_false f2; omega) | skip
            all_goals
              go_wp2_with fail
              refine hsy.out.mono ?_
              rintro x w4 ⟨rfl, h4, _⟩
              have H4 := Lib.hid h4
              clear h4
              go_wp2
              go_roundw
              case rel => exact ⟨k + 1 + 1, j + 1, st4, by omega, by omega, by go_num, by go_num, H4.out, HT4.out⟩
              case measure => simp [intOf]; omega
      · obtain rfl : j = l.length := by omega
        have hoff := Lib.hid hw.out.2.off
        obtain ⟨m, hm, e1, e2, e3⟩ := tp_end hw.out.2 hw.out.1.ok (Nat.le_refl _) hl
        have HO := Lib.hid hw.out.1
        have HE1 := Lib.hid e1
        have HE2 := Lib.hid e2
        have HE3 := Lib.hid e3
        clear hw e1 e2 e3
        have hcase : (decide (0 < n) = true ∧ decide (n ≤ (k : Int)) = true ∧ st.off = true) ∨ (decide (0 < n) = false ∧ st.off = false) ∨ (decide (0 < n) = true ∧ decide (n ≤ (k : Int)) = false ∧ st.off = false) := by
          rw [hoff.out]
          by_cases h0 : 0 < n
          · by_cases h1 : n ≤ (k : Int)
            · exact .inl ⟨decide_eq_true h0, decide_eq_true h1, decide_eq_true ⟨by omega, by omega⟩⟩
            · exact .inr (.inr ⟨decide_eq_true h0, decide_eq_false h1, decide_eq_false (fun h => h1 (by have := h.2; omega))⟩)
          · exact .inr (.inl ⟨decide_eq_false h0, decide_eq_false (fun h => h0 (by have := h.1; omega))⟩)
        have HOFF := Lib.hid (Off_own w _ _ d st HO.out)
        generalize st.off = so at *
        have hmc : (l.take m).length = m := by rw [List.length_take]; omega
        have hlcap : Hid (Src w bl al cl (l.take m)) := by
          rcases HS.out with h | h
          · exact .inl (fits_left h hm)
          · exact .inr ⟨by rw [h.1]; simp, h.2⟩
        have hmcl : m ≤ cl := by
          rcases HS.out with h | h
          · have := h.1; omega
          · rw [h.1] at hm; simp at hm; omega
        rcases hcase with ⟨g1, g2, rfl⟩ | ⟨g1, rfl⟩ | ⟨g1, g2, rfl⟩
        all_goals
          go_wp2_with fail
          refine HOFF.out.mono ?_
          rintro x w3 ⟨rfl, rfl⟩
          go_wp2_with fail
          refine (Trip_own w _ _ d _ HO.out 0 0 (by decide) (by decide) (by decide) (by decide)).mono ?_
          rintro x w4 ⟨rfl, h4, _⟩
          have H4 := Lib.hid h4
          clear h4
          go_wp2_with fail
          refine (Start_own w _ _ d _ H4.out).mono ?_
          rintro x w5 ⟨rfl, h5, _⟩
          have H5 := Lib.hid h5
          clear h5
          go_wp2_with fail
          refine (Read_own w _ _ d _ H5.out HE2.out).mono ?_
          rintro x w6 ⟨b6, a6, c6, rfl, ho6, _, h6, _⟩
          have H6 := Lib.hid h6
          rw [HE1.out] at ho6 ⊢
          have HO6 := Lib.hid ho6
          rw [hmc]
          clear h6 ho6
          go_wp2_with fail
          have hcmp := KBytes_any b6 a6 c6 (l.take m) bl al cl (l.take m) w6 HO6.out.src (hlcap.out.kept H6.out.kept (fun _ h => h)) (by omega) (by omega)
          rw [hmc] at hcmp
          refine hcmp.mono ?_
          clear hcmp
          rintro x w7 ⟨rfl, n7, rfl⟩
          rw [same_refl]
          obtain ⟨w7, hW⟩ : ∃ W, W = w6.drewN n7 := ⟨_, rfl⟩
          rw [← hW]
          have H7 : Hid (Own w w7 None d (st.trip 0 0).start) := by rw [hW]; exact H6.out.same ((Kept.refl _ _).drewN n7)
          clear hW
          go_wp2_with fail
          have H8' := Lib.hid (H7.out.add ((Kept.refl _ _).alloc (.cells #[.int .u8 120] 5 (1, 2))) w7.heap.size (Nat.le_refl _) (by simp))
          refine (Append_own w _ _ d _ H8'.out w7.heap.size (some ⟨w7.heap.size, 0, none⟩) 1 [120] (shows_made (m := [120]) (cap := 1) (heap_alloc_new w7 _) rfl (Nat.le_refl 1) (by decide)).src (fun _ => .inr (.inr rfl)) (by intro y hy; simp at hy; omega) (by decide)).mono ?_
          rw [HE3.out]
          rintro x w8 ⟨rfl, h8, _⟩
          have H9 := Lib.hid h8
          clear h8
          go_wp2_with fail
          refine (wakes_any _).mono ?_
          rintro x w9 ⟨rfl, hk9⟩
          have HK := Lib.hid (H9.out.kept.trans hk9)
          clear hk9
          go_wp2
          go_ret
          exact ⟨rfl, HK.out⟩
end Go.Proofs.Ytaogpchjkbcjoaa.Dk
