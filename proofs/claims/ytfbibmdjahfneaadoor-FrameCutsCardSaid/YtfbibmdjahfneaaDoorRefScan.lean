/- The walk of the reference's Scan. -/
import Derived.Test.YtfbibmdjahfneaaDoorRefFirst
import Derived.Test.YtfbibmdjahfneaaDoorOwnList
namespace Go.Proofs.YtfbibmdjahfneaaDoor.Fr
open Go Go.RowKit Mem Kp
def ScanPost (l : List Nat) (w : World) (x : Ending) (w' : World) : Prop := ∃ b a cap R, x = .returned (.tuple #[.slice a R.length cap, .int .i64 (scanB l).2]) ∧ OwnRows w w' b a cap R ∧ bytesOf R = (scanB l).1
/-- how far a scan has come -/
def Come (l : List Nat) (n : Nat) (acc : List (List Nat)) : Prop := l = seals acc ++ l.drop n ∧ n = (seals acc).length ∧ Fit acc
theorem come_start (l : List Nat) : Come l 0 [] := ⟨rfl, rfl, fun _ h => (List.not_mem_nil h).elim⟩
theorem Come.next {l : List Nat} {n m : Nat} {acc : List (List Nat)} {p : List Nat} (h8 : B8 l) (h : Come l n acc) (hf : firstB (l.drop n) = some (p, m)) : Come l (n + m) (acc ++ [p]) := by
  obtain ⟨h1, h2, h3⟩ := h
  obtain ⟨e1, e2, e3, e4⟩ := first_sound (h8.drop n) hf
  refine ⟨?_, by rw [seals_snoc, List.length_append, seal_len, ← h2, e1], ?_⟩
  · rw [seals_snoc, List.append_assoc, ← List.drop_drop, ← e3, ← h1]
  · intro q hq
    rcases List.mem_append.1 hq with hq | hq
    · exact h3 q hq
    · obtain rfl : q = p := by simpa using hq
      exact ⟨e4, e2⟩
theorem Come.end_ {l : List Nat} {n : Nat} {acc : List (List Nat)} (h : Come l n acc) (hf : firstB (l.drop n) = none) : scanB l = (acc, n) := by
  obtain ⟨h1, h2, h3⟩ := h
  rw [h1, scan_seals h3 hf, ← h2]
theorem Come.le {l : List Nat} {n : Nat} {acc : List (List Nat)} (h : Come l n acc) : n ≤ l.length ∧ acc.length ≤ n := by
  have e := congrArg List.length h.1
  rw [List.length_append, ← h.2.1] at e
  have := seals_len_le acc
  exact ⟨by omega, by rw [h.2.1]; exact this⟩
theorem come_step {l : List Nat} {n m : Nat} {p : List Nat} (h8 : B8 l) (hf : firstB (l.drop n) = some (p, m)) : 9 ≤ m := by
  have := (first_sound (h8.drop n) hf).1; omega
set_option maxHeartbeats 4000000 in
theorem refScan_any (b : Nat) (a : Option Addr) (cap : Nat) (l : List Nat) (w : World) (h : Src w b a cap l) (h8 : B8 l) (hl : l.length ≤ 1048576) :
    Calls Tryd.prog 20 #[.slice a l.length cap] w (ScanPost l w) := by
  obtain ⟨i0, hi, hz0, hz1, hz2⟩ := info_parts infoRow
  have HS := Lib.hid h
  have H8 := Lib.hid h8
  clear h h8
  by_cases h0 : l = []
  · subst h0
    have hend : scanB ([] : List Nat) = ([], 0) := rfl
    have HE := Lib.hid hend
    have hfst : ∀ (a' : Option Addr) (cap' : Nat), a' ≠ none ∨ cap' = 0 → Calls Tryd.prog 15 #[.slice a' 0 cap'] w (FirstPost [] w) := by
      intro a' cap' h
      have := refFirst_any b a' cap' [] w (by
        by_cases hn : a' = none
        · subst hn
          obtain rfl : cap' = 0 := h.elim (fun h => absurd rfl h) id
          exact .inl ⟨Nat.le_refl _, by decide, .inl ⟨rfl, rfl, rfl⟩⟩
        · exact .inr ⟨rfl, hn⟩) B8.nil (by simp)
      exact this
    have HF := Lib.hid hfst
    clear hfst hend
    cases a with
    | none =>
      obtain rfl := HS.out.bare.2
      go_enter Tryd.func20, Tryd.ntmps20
      go_wp2
      go_loopw [4, 5] (fun v at_ wr => at_ = .int .i64 0 ∧ v = .slice none 0 0 ∧ wr = w) (fun _ _ _ => 0)
      case atStart => exact ⟨rfl, rfl, rfl⟩
      case round =>
        obtain ⟨rfl, rfl, rfl⟩ := hrel
        go_wp2_with fail
        refine (HF.out _ _ (.inr rfl)).mono ?_
        rintro x w1 ⟨rfl, hk1⟩
        have HK1 := Lib.hid hk1
        clear hk1
        go_wp2
        go_ret2
        exact ⟨_, none, 0, [], rfl, (OwnRows.start _).on HK1.out, rfl⟩
    | some ad =>
      go_enter Tryd.func20, Tryd.ntmps20
      go_wp2
      go_loopw [4, 5] (fun v at_ wr => at_ = .int .i64 0 ∧ v = .slice none 0 0 ∧ wr = w) (fun _ _ _ => 0)
      case atStart => exact ⟨rfl, rfl, rfl⟩
      case round =>
        obtain ⟨rfl, rfl, rfl⟩ := hrel
        by_cases hc : cap = 0
        · subst hc
          go_wp2_with fail
          refine (HF.out _ _ (.inl (by simp))).mono ?_
          rintro x w1 ⟨rfl, hk1⟩
          have HK1 := Lib.hid hk1
          clear hk1
          go_wp2
          go_ret2
          exact ⟨_, none, 0, [], rfl, (OwnRows.start _).on HK1.out, rfl⟩
        · go_wp2_with fail
          refine (HF.out _ _ (.inl (by simp))).mono ?_
          rintro x w1 ⟨rfl, hk1⟩
          have HK1 := Lib.hid hk1
          clear hk1
          go_wp2
          go_ret2
          exact ⟨_, none, 0, [], rfl, (OwnRows.start _).on HK1.out, rfl⟩
  · obtain ⟨off, rfl, hc⟩ := HS.out.at_ (List.length_pos_iff.2 h0)
    have hsh : Hid (Shows w b (some ⟨b, off, Option.none⟩) cap l) := by
      rcases HS.out with h | h
      · exact h
      · exact absurd h.1 h0
    have hcap := hsh.out.1
    have hcap2 := hsh.out.2.1
    clear hc
    go_enter Tryd.func20, Tryd.ntmps20
    go_wp2
    go_loopw [4, 5] (fun v at_ wr => ∃ (n br cr : Nat) (ar : Option Addr) (R : List Row), n ≤ l.length ∧ R.length ≤ 1048576 ∧ at_ = .int .i64 n ∧ v = .slice ar R.length cr ∧ Hid (Come l n (bytesOf R) ∧ OwnRows w wr br ar cr R)) (fun _ at_ _ => l.length - (intOf at_).toNat)
    case atStart => exact ⟨0, w.heap.size, 0, Option.none, [], by omega, by simp, rfl, rfl, come_start l, OwnRows.start w⟩
    case round =>
      obtain ⟨n, br, cr, ar, R, hn, hR, rfl, rfl, hw⟩ := hrel
      obtain ⟨o2, hA, hB⟩ := rest_at b off cap n
      have hrest : Hid (Shows wr b (some ⟨b, o2, Option.none⟩) (cap - n) (l.drop n)) := (fits_rest hsh.out hn hB).kept hw.out.2.kept (fun _ h => h)
      have hlr : (l.drop n).length = l.length - n := List.length_drop
      have hfirst := refFirst_any b (some ⟨b, o2, Option.none⟩) (cap - n) (l.drop n) wr hrest.out.src (H8.out.drop n) (by omega)
      rw [hlr] at hfirst
      cases hf : firstB (l.drop n) with
      | none =>
        have hp : FirstPost (l.drop n) wr = fun x w' => x = .returned (.tuple #[.slice none 0 0, .int .i64 0, .bool false]) ∧ Kept None wr w' := by unfold FirstPost; rw [hf]
        rw [hp] at hfirst
        have HF := Lib.hid hfirst
        have HEND := Lib.hid (hw.out.1.end_ hf)
        clear hfirst hp hf hB
        go_wp2_with fail
        refine HF.out.mono ?_
        rintro x w1 ⟨rfl, hk1⟩
        have HK1 := Lib.hid hk1
        clear hk1
        go_wp2
        go_ret2
        refine ⟨br, ar, cr, R, ?_, hw.out.2.on HK1.out, by rw [HEND.out]⟩
        rw [HEND.out]
        rfl
      | some pm =>
        obtain ⟨p, m⟩ := pm
        have hp : FirstPost (l.drop n) wr = fun x w' => ∃ b a cap, x = .returned (.tuple #[.slice a p.length cap, .int .i64 m, .bool true]) ∧ OwnB 5 w' b a cap p ∧ wr.heap.size ≤ b ∧ b ≤ w'.heap.size ∧ Kept None wr w' := by unfold FirstPost; rw [hf]
        rw [hp] at hfirst
        have HF := Lib.hid hfirst
        have hnext := hw.out.1.next H8.out hf
        have hm := come_step H8.out hf
        have hnm := hnext.le
        have hnm1 := hnm.1
        have hnm2 : R.length + 1 ≤ n + m := by have := hnm.2; simpa [bytesOf] using this
        have HN := Lib.hid hnext
        have hcn : ¬ cap = n := by omega
        obtain rfl : o2 = off + n := by omega
        clear hfirst hp hf hB hA hnext hnm
        go_wp2_with fail
        refine HF.out.mono ?_
        rintro x w1 ⟨b1, a1, c1, rfl, ho1, hb1, hb12, hk1⟩
        have HO1 := Lib.hid ho1
        have HK1 := Lib.hid hk1
        have HR1 := Lib.hid (hw.out.2.on hk1).outer
        clear hk1 ho1
        go_wp2_with (at_builtin; refine wpList_append_val rfl _ _ 35 rfl 22 i0 (.slice none 0 0) 24 Tryd.underlying35 hi hz0 hz1 hz2 rfl br ar cr (R.map Row.val) R.length rfl (HR1.out.kept ((Kept.refl None _).alloc _) (fun _ h => h)) (by simp) ⟨w1.heap.size, 0, none⟩ 1 (.slice a1 p.length c1) rfl (cell_heap (heap_alloc_new w1 _) 0) rfl rfl (by omega) (by omega) ?_)
        intro b2 a2 c2 w2 h2 h3 h4
        have HNX := Lib.hid (hw.out.2.next HK1.out HO1.out hb1 ((Kept.refl None _).alloc _) h2 h3 (by simpa using h4))
        clear h2 h3 h4
        go_wp2
        go_roundw
        case rel => exact ⟨n + m, b2, c2, a2, R ++ [⟨b1, a1, c1, p⟩], by omega, by simp; omega, by go_num, by simp, by simpa [bytesOf] using HN.out, HNX.out⟩
        case measure => simp [intOf]; omega
end Go.Proofs.YtfbibmdjahfneaaDoor.Fr
