/- slices.Clone of bytes; slices.Grow of nil, slices.Concat of two, over entries. -/
import Derived.Test.YtaifjkilmdnfbaaLogKeepB
import Derived.Lib.AppendZeros
namespace Go.Proofs.Ytaifjkilmdnfbaa.Lg
open Go Go.RowKit Vl Kv Ss Cn Mem Li Nm
attribute [local go_sem] Kp.eq_nil
attribute [local go_sem] Nm.run_bits Nm.run_frombits run_store_float
attribute [local irreducible] wpQuiet
set_option maxHeartbeats 400000 in
theorem cloneBytes_any (b : Nat) (a : Option Addr) (cap : Nat) (l : List Nat) (w : World) (h : Src w b a cap l) (hl : l.length ≤ 35184372088832) :
    Calls Try.prog 63 #[.slice a l.length cap] w (Kp.NewB l w) := by
  obtain ⟨i0, hi, hz0, hz1, hz2⟩ := info_parts Kp.infoU8
  have HS := Lib.hid h
  cases a with
  | none =>
    obtain ⟨rfl, rfl⟩ := h.bare
    clear h
    go_enter Try.func63, Try.ntmps63
    go_wp2
    go_ret
    exact ⟨w.heap.size, none, 0, rfl, .inl ⟨rfl, rfl, rfl⟩, Nat.le_refl _, Kept.refl _ _, Nat.le_refl _⟩
  | some ad =>
    have own0 : OwnB 5 (w.alloc (.cells #[] 5)) w.heap.size (some ⟨w.heap.size, 0, none⟩) 0 [] := own_new (Nat.le_refl _) (by decide) rfl rfl
    clear h
    go_enter Try.func63, Try.ntmps63
    go_wp2_with (at_builtin; refine wpList_append_bytes rfl _ _ 24 rfl 5 i0 Try.underlying24 hi hz0 hz1 hz2 _ _ _ [] 0 rfl own0 rfl b _ cap l _ rfl (HS.out.kept ((Kept.refl None _).alloc _) (fun _ h => h)) rfl (by omega) ?_)
    intro b' a' cap' w' h2 h3 h4 h5
    try simp only [List.nil_append] at h2
    have HO := Lib.hid h2
    clear h2
    go_wp2
    go_ret
    have k0 : Kept None w (w.alloc (.cells #[] 5)) := (Kept.refl _ _).alloc _
    have hsz : (w.alloc (.cells #[] 5)).heap.size = w.heap.size + 1 := by simp
    have k1 : Kept None w w' := k0.trans' h3 (fun k hk => .inr (by rw [hk.2]; exact Nat.le_refl _))
    have hb' : w.heap.size ≤ b' := by rcases h4 with ⟨rfl, _⟩ | h4 <;> omega
    refine ⟨b', a', cap', rfl, HO.out, hb', k1, ?_⟩
    by_cases ha : a' = none
    · rcases h4 with ⟨rfl, _⟩ | h4
      · exact k1.size
      · exact (h5 ha).elim
    · exact Nat.le_of_lt (HO.out.lt ha)
set_option maxHeartbeats 800000 in
set_option maxRecDepth 100000 in
theorem growEnts_any (n : Nat) (hn : n ≤ 200000) (w : World) :
    Calls Try.prog 69 #[.slice none 0 0, .int .i64 n] w fun e w' => ∃ b' a' cap', e = .returned (.slice a' 0 cap') ∧ Made 40 w w' b' a' cap' ([] : List E) := by
  by_cases h0 : n = 0
  · subst h0
    go_enter Try.func69, Try.ntmps69
    go_wp2
    go_ret
    exact ⟨w.heap.size, none, 0, rfl, Made.nil _ _⟩
  · have hpos : 0 < n := by omega
    have d1 : decide ((0 : Int) < (n : Int)) = true := decide_eq_true (by omega)
    have d2 : decide ((n : Int) < 0) = false := decide_eq_false (by omega)
    have w1 : wrap64 (n : Int) = n := by unfold wrap64; omega
    clear h0
    have hge := Lib.hid (grownCap_ge w n 0 40)
    have hcm := Lib.hid (grownCap_le_maxLen w n 0 40 (by unfold maxLen; omega))
    have hr := Lib.hid (Lib.run_append_nil_zeros (P := Try.prog) w 25 3 25 40 _ _ .i64 .i64 Try.underlying25 Try.underlying3 rfl rfl n hpos (by decide) (by omega) (by show n * 152 ≤ _; omega))
    go_enter Try.func69, Try.ntmps69
    go_wp2_with (at_builtin; refine Lib.wpList_append_run _ rfl _ _ _ _ rfl _ _ rfl rfl _ _ hr.out ?_)
    go_ret
    refine ⟨w.heap.size, _, _, rfl, (own_newC (k := 16) (n := 0) (cs := []) rfl (Nat.zero_le _) hcm.out ?_ rfl).heap rfl, Nat.le_refl _, ((Beh.start w).alloc _).drew⟩
    have := hge.out
    rw [Array.size_append, size_zeroCells, size_zeroCells]
    show n * 16 + (grownCap w n 0 40 - n) * 16 = _
    omega
/-- what two lists have, the first k of them -/
def pre2 (A B : List E) : Nat → List E
  | 0 => []
  | 1 => A
  | _ => A ++ B
def nth2 (A B : List E) : Nat → List E
  | 0 => A
  | _ => B
theorem pre2_len (A B : List E) (hA : A.length ≤ 100000) (hB : B.length ≤ 100000) (k : Nat) : (pre2 A B k).length ≤ 200000 := by
  match k with
  | 0 => exact Nat.zero_le _
  | 1 => show A.length ≤ _; omega
  | _ + 2 => show (A ++ B).length ≤ _; rw [List.length_append]; omega
theorem pre2_next (A B : List E) (k : Nat) (hk : k < 2) : pre2 A B (k + 1) = pre2 A B k ++ nth2 A B k := by
  match k, hk with
  | 0, _ => rfl
  | 1, _ => rfl
set_option maxHeartbeats 1600000 in
set_option maxRecDepth 100000 in
theorem concatEnts_any (B0 : Nat) (a1 a2 : Option Addr) (c1 c2 : Nat) (L1 L2 : List E) (w : World)
    (hh : w.heap[B0]? = some (.cells #[.slice a1 L1.length c1, .slice a2 L2.length c2] 25))
    (h1 : EntAt w a1 c1 L1) (h2 : EntAt w a2 c2 L2) (l1 : L1.length ≤ 100000) (l2 : L2.length ≤ 100000) :
    Calls Try.prog 62 #[.slice (some ⟨B0, 0, none⟩) 2 2] w fun e w' => ∃ b' a' cap', e = .returned (.slice a' (L1 ++ L2).length cap') ∧ Made 40 w w' b' a' cap' (L1 ++ L2) := by
  have HI : Hid (∀ wq, Beh w wq → ∀ k, k < 2 → ∃ a c, wq.cell? ⟨B0, k, none⟩ = some (.slice a (nth2 L1 L2 k).length c) ∧ EntAt wq a c (nth2 L1 L2 k)) := fun wq hq k hk => by
    have hb := hq.box hh
    match k, hk with
    | 0, _ => exact ⟨a1, c1, by simp [World.cell?, hb, nth2], h1.below hq⟩
    | 1, _ => exact ⟨a2, c2, by simp [World.cell?, hb, nth2], h2.below hq⟩
  have HN := Lib.hid (pre2_next L1 L2)
  have HPL := Lib.hid (pre2_len L1 L2 l1 l2)
  have HNL : Hid (∀ k, (nth2 L1 L2 k).length ≤ 100000) := fun k => by unfold nth2; split <;> assumption
  have HE := Lib.hid (show pre2 L1 L2 2 = L1 ++ L2 from rfl)
  clear h1 h2 hh
  rw [← HE.out]
  clear HE
  go_enter Try.func62, Try.ntmps62
  go_wp2
  go_loopw [3, 5, 11] (fun s _ i wr => ∃ (k m : Nat), k ≤ 2 ∧ i = .int .i64 k ∧ s = .int .i64 m ∧ m ≤ 200000 ∧ Hid (m = (pre2 L1 L2 k).length) ∧ Hid (Beh w wr)) (fun _ _ i _ => 2 - (intOf i).toNat)
  case atStart => exact ⟨0, 0, by omega, rfl, rfl, by omega, rfl, Beh.start _⟩
  case round =>
    obtain ⟨k, m, hk, rfl, rfl, hm, hm2, HB⟩ := hrel
    by_cases hlt : k < 2
    · obtain ⟨a, c, hc, _⟩ := HI.out _ HB.out k hlt
      have hn := HNL.out k
      have hp := HPL.out (k + 1)
      have hnext := Lib.hid (HN.out k hlt)
      obtain ⟨n, hn2⟩ : ∃ n, (nth2 L1 L2 k).length = n := ⟨_, rfl⟩
      have HM : Hid (m + n = (pre2 L1 L2 (k + 1)).length) := by show _ = _; rw [hnext.out, List.length_append, ← hm2.out, hn2]
      have hm3 : m + n ≤ 200000 := by rw [HM.out]; exact hp
      rw [hn2] at hc hn
      clear hn2 hp hm2
      have d0 : decide ((m : Int) + (n : Int) < 0) = false := decide_eq_false (by omega)
      have w0 : wrap64 ((m : Int) + (n : Int)) = (m : Int) + n := by unfold wrap64; omega
      go_wp2
      go_roundw
      case rel => exact ⟨k + 1, m + n, by omega, by go_num, by go_num, by omega, HM.out, HB.out⟩
      case measure => simp [intOf]; omega
    · obtain rfl : k = 2 := by omega
      go_wp2_with (first | (go_at_call 69; refine (growEnts_any _ (by omega) _).mono ?_; rintro e w' ⟨b', a', cap', rfl, hmade⟩))
      have HM1 := Lib.hid (hmade.from HB.out)
      clear hmade
      go_loopw [6, 8, 27] (fun s _ i wr => ∃ (k : Nat) (b : Nat) (a : Option Addr) (cap : Nat), k ≤ 2 ∧ i = .int .i64 k ∧ s = .slice a (pre2 L1 L2 k).length cap ∧ Hid (Made 40 w wr b a cap (pre2 L1 L2 k))) (fun _ _ i _ => 2 - (intOf i).toNat)
      case atStart => exact ⟨0, b', a', cap', by omega, rfl, rfl, HM1.out⟩
      case round =>
        obtain ⟨k, b, a, cap, hk, rfl, rfl, HM⟩ := hrel
        by_cases hlt : k < 2
        · obtain ⟨a2, c2, hc, hp2⟩ := HI.out _ HM.out.beh k hlt
          have HP2 := Lib.hid hp2
          have hnext := Lib.hid (HN.out k hlt)
          have hn := HNL.out k
          have hm := HPL.out k
          clear hp2
          go_wp2_with (at_builtin; refine wpList_append_cells rfl _ _ _ rfl 40 16 _ _ 152 Try.underlying25 rfl rfl rfl rfl rfl b a cap _ (Li.flat (pre2 L1 L2 k)) rfl HM.out.own a2 c2 _ (Li.flat (nth2 L1 L2 k)) rfl HP2.out.src flat_one (by omega) (by omega) ?_; intro b' a' cap' w' h2 h3 h4 h5; (have HM3 := Lib.hid (HM.out.more h2 h3 h4)); clear h2 h3 h4 h5)
          go_roundw
          case rel => exact ⟨k + 1, b', a', cap', by omega, by go_num, by rw [hnext.out, List.length_append], by show Made _ _ _ _ _ _ _; rw [hnext.out]; exact HM3.out⟩
          case measure => simp [intOf]; omega
        · obtain rfl : k = 2 := by omega
          go_wp2
          go_ret
          exact ⟨b, a, cap, rfl, HM.out⟩
end Go.Proofs.Ytaifjkilmdnfbaa.Lg
