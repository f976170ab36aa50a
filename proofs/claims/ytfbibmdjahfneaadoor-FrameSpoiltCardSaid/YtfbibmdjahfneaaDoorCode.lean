/- The contracts of package frame: Sum, Scan (Seal, First stand in the texts below). -/
import Derived.Test.YtfbibmdjahfneaaDoorFirst3
namespace Go.Proofs.YtfbibmdjahfneaaDoor.Fr
open Go Go.RowKit Mem Kp
theorem Sum_any (b : Nat) (a : Option Addr) (cap : Nat) (l : List Nat) (w : World) (h : Src w b a cap l) (h8 : B8 l) (hl : l.length ≤ 35184372088832) (hT : Tab w := by first | assumption | exact tabH (by assumption) | exact tabK (by assumption) (by assumption)) :
    Calls Tryd.prog 16 #[.slice a l.length cap] w fun e w' => e = .returned (.int .u32 (crc l)) ∧ w = w' := Sum_tab b a cap l w h h8 (by omega) hT
theorem apart_next {w wr : World} {b : Nat} {a : Option Addr} {cap : Nat} {R : List Row} (h : OwnRows w wr b a cap R) (hA : Apart R) {b1 : Nat} (hb : wr.heap.size ≤ b1) (a1 : Option Addr) (c1 : Nat) (p : List Nat) : Apart (R ++ [⟨b1, a1, c1, p⟩]) := by
  refine List.pairwise_append.2 ⟨hA, List.pairwise_singleton _ _, fun r hr s hs hn _ => ?_⟩
  obtain rfl : s = ⟨b1, a1, c1, p⟩ := by simpa using hs
  have := (h.inner r hr).1.lt hn
  show r.b ≠ b1
  omega
set_option maxHeartbeats 4000000 in
theorem Scan_any (b : Nat) (a : Option Addr) (cap : Nat) (l : List Nat) (w : World) (h : Src w b a cap l) (h8 : B8 l) (hl : l.length ≤ 1048576) (hT : Tab w := by first | assumption | exact tabH (by assumption) | exact tabK (by assumption) (by assumption)) :
    Calls Tryd.prog 19 #[.slice a l.length cap] w (FramesPost l w) := by
  obtain ⟨i0, hi, hz0, hz1, hz2⟩ := info_parts infoRow
  have HS := Lib.hid h
  have H8 := Lib.hid h8
  have HT := Lib.hid hT
  clear h h8 hT
  by_cases h0 : l = []
  · subst h0
    have hend : scanB ([] : List Nat) = ([], 0) := rfl
    have HE := Lib.hid hend
    have hfst : ∀ (a' : Option Addr) (cap' : Nat), a' ≠ none ∨ cap' = 0 → Calls Tryd.prog 14 #[.slice a' 0 cap'] w (FindPost [] w) := by
      intro a' cap' h
      have := First_any b a' cap' [] w (by
        by_cases hn : a' = none
        · subst hn
          obtain rfl : cap' = 0 := h.elim (fun h => absurd rfl h) id
          exact .inl ⟨Nat.le_refl _, by decide, .inl ⟨rfl, rfl, rfl⟩⟩
        · exact .inr ⟨rfl, hn⟩) B8.nil (by simp)
      exact this
    have HF := Lib.hid hfst
    clear hfst hend
    cases a with
    | none =>
      obtain rfl := HS.out.bare.2
      go_enter Tryd.func19, Tryd.ntmps19
      go_wp2
      go_loopw [2, 3] (fun v at_ wr => at_ = .int .i64 0 ∧ v = .slice none 0 0 ∧ wr = w) (fun _ _ _ => 0)
      case atStart => exact ⟨rfl, rfl, rfl⟩
      case round =>
        obtain ⟨rfl, rfl, rfl⟩ := hrel
        go_wp2_with fail
        refine (HF.out _ _ (.inr rfl)).mono ?_
        rintro x w1 ⟨rfl, hk1⟩
        have HK1 := Lib.hid hk1
        clear hk1
        go_wp2
        go_ret2
        exact ⟨_, none, 0, [], rfl, (OwnRows.start _).on HK1.out, List.Pairwise.nil, rfl⟩
    | some ad =>
      go_enter Tryd.func19, Tryd.ntmps19
      go_wp2
      go_loopw [2, 3] (fun v at_ wr => at_ = .int .i64 0 ∧ v = .slice none 0 0 ∧ wr = w) (fun _ _ _ => 0)
      case atStart => exact ⟨rfl, rfl, rfl⟩
      case round =>
        obtain ⟨rfl, rfl, rfl⟩ := hrel
        by_cases hc : cap = 0
        · subst hc
          go_wp2_with fail
          refine (HF.out _ _ (.inl (by simp))).mono ?_
          rintro x w1 ⟨rfl, hk1⟩
          have HK1 := Lib.hid hk1
          clear hk1
          go_wp2
          go_ret2
          exact ⟨_, none, 0, [], rfl, (OwnRows.start _).on HK1.out, List.Pairwise.nil, rfl⟩
        · go_wp2_with fail
          refine (HF.out _ _ (.inl (by simp))).mono ?_
          rintro x w1 ⟨rfl, hk1⟩
          have HK1 := Lib.hid hk1
          clear hk1
          go_wp2
          go_ret2
          exact ⟨_, none, 0, [], rfl, (OwnRows.start _).on HK1.out, List.Pairwise.nil, rfl⟩
  · obtain ⟨off, rfl, hc⟩ := HS.out.at_ (List.length_pos_iff.2 h0)
    have hsh : Hid (Shows w b (some ⟨b, off, Option.none⟩) cap l) := by
      rcases HS.out with h | h
      · exact h
      · exact absurd h.1 h0
    have hcap := hsh.out.1
    have hcap2 := hsh.out.2.1
    clear hc
    go_enter Tryd.func19, Tryd.ntmps19
    go_wp2
    go_loopw [2, 3] (fun v at_ wr => ∃ (n br cr : Nat) (ar : Option Addr) (R : List Row), n ≤ l.length ∧ R.length ≤ 1048576 ∧ at_ = .int .i64 n ∧ v = .slice ar R.length cr ∧ Hid (Come l n (bytesOf R) ∧ OwnRows w wr br ar cr R ∧ Apart R)) (fun _ at_ _ => l.length - (intOf at_).toNat)
    case atStart => exact ⟨0, w.heap.size, 0, Option.none, [], by omega, by simp, rfl, rfl, come_start l, OwnRows.start w, List.Pairwise.nil⟩
    case round =>
      obtain ⟨n, br, cr, ar, R, hn, hR, rfl, rfl, hw⟩ := hrel
      obtain ⟨o2, hA, hB⟩ := rest_at b off cap n
      have hrest : Hid (Shows wr b (some ⟨b, o2, Option.none⟩) (cap - n) (l.drop n)) := (fits_rest hsh.out hn hB).kept hw.out.2.1.kept (fun _ h => h)
      have hlr : (l.drop n).length = l.length - n := List.length_drop
      have hfirst := First_any b (some ⟨b, o2, Option.none⟩) (cap - n) (l.drop n) wr hrest.out.src (H8.out.drop n) (by omega) (HT.out.kept hw.out.2.1.kept)
      rw [hlr] at hfirst
      cases hf : firstB (l.drop n) with
      | none =>
        rw [findPost_none hf] at hfirst
        have HF := Lib.hid hfirst
        have HEND := Lib.hid (hw.out.1.end_ hf)
        clear hfirst hf hB
        go_wp2_with fail
        refine HF.out.mono ?_
        rintro x w1 ⟨rfl, hk1⟩
        have HK1 := Lib.hid hk1
        clear hk1
        go_wp2
        go_ret2
        refine ⟨br, ar, cr, R, ?_, hw.out.2.1.on HK1.out, hw.out.2.2, by rw [HEND.out]⟩
        rw [HEND.out]
        rfl
      | some pm =>
        obtain ⟨p, m⟩ := pm
        rw [findPost_some hf] at hfirst
        have HF := Lib.hid hfirst
        have hnext := hw.out.1.next H8.out hf
        have hm := come_step H8.out hf
        have hnm := hnext.le
        have hnm1 := hnm.1
        have hnm2 : R.length + 1 ≤ n + m := by have := hnm.2; simpa [bytesOf] using this
        have HN := Lib.hid hnext
        have hcn : ¬ cap = n := by omega
        obtain rfl : o2 = off + n := by omega
        clear hfirst hf hB hA hnext hnm
        go_wp2_with fail
        refine HF.out.mono ?_
        rintro x w1 ⟨b1, a1, c1, rfl, ho1, hb1, hb12, hk1⟩
        have HO1 := Lib.hid ho1
        have HK1 := Lib.hid hk1
        have HR1 := Lib.hid (hw.out.2.1.on hk1).outer
        have HAP := Lib.hid (apart_next hw.out.2.1 hw.out.2.2 hb1 a1 c1 p)
        clear hk1 ho1
        go_wp2_with (at_builtin; refine wpList_append_val rfl _ _ 35 rfl 22 i0 (.slice none 0 0) 24 Tryd.underlying35 hi hz0 hz1 hz2 rfl br ar cr (R.map Row.val) R.length rfl (HR1.out.kept ((Kept.refl None _).alloc _) (fun _ h => h)) (by simp) ⟨w1.heap.size, 0, none⟩ 1 (.slice a1 p.length c1) rfl (cell_heap (heap_alloc_new w1 _) 0) rfl rfl (by omega) (by omega) ?_)
        intro b2 a2 c2 w2 h2 h3 h4
        have HNX := Lib.hid (hw.out.2.1.next HK1.out HO1.out hb1 ((Kept.refl None _).alloc _) h2 h3 (by simpa using h4))
        clear h2 h3 h4
        go_wp2
        go_roundw
        case rel => exact ⟨n + m, b2, c2, a2, R ++ [⟨b1, a1, c1, p⟩], by omega, by simp; omega, by go_num, by simp, by simpa [bytesOf] using HN.out, HNX.out, HAP.out⟩
        case measure => simp [intOf]; omega
end Go.Proofs.YtfbibmdjahfneaaDoor.Fr
