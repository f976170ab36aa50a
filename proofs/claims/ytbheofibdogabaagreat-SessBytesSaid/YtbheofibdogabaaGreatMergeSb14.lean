import Derived.Test.YtbheofibdogabaaGreatMergeSb13
import Derived.Lib.AppendZeros
import Derived.Test.YtbheofibdogabaaGreatMergeSb3
import Derived.Test.YtbheofibdogabaaGreatMergeSb11
section
/- slices.Grow of nil, slices.Concat of three, over pairs. -/
namespace Go.Proofs.YtbheofibdogabaaGreat.Kv
open Go Go.RowKit Vl Nm Mem
attribute [local go_sem] run_bits run_frombits run_store_float

set_option maxHeartbeats 800000 in
set_option maxRecDepth 100000 in
theorem grow_any (n : Nat) (hn : n ≤ 100000) (w : World) :
    Calls Tryz.prog 121 #[.slice none 0 0, .int .i64 n] w fun e w' => ∃ b' a' cap', e = .returned (.slice a' 0 cap') ∧ Made w w' b' a' cap' [] := by
  by_cases h0 : n = 0
  · subst h0
    go_enter Tryz.func121, Tryz.ntmps121
    go_wp2
    go_ret
    exact ⟨w.heap.size, none, 0, rfl, OwnC.nil _ _ _ _, Nat.le_refl _, Beh.start _⟩
  · have hpos : 0 < n := by omega
    have d1 : decide ((0 : Int) < (n : Int)) = true := decide_eq_true (by omega)
    have d2 : decide ((n : Int) < 0) = false := decide_eq_false (by omega)
    have w1 : wrap64 (n : Int) = n := by unfold wrap64; omega
    clear h0
    have hge := Lib.hid (grownCap_ge w n 0 61)
    have hcm := Lib.hid (grownCap_le_maxLen w n 0 61 (by unfold maxLen; omega))
    have hr := Lib.hid (Lib.run_append_nil_zeros (P := Tryz.prog) w 22 3 22 61 _ _ .i64 .i64 Tryz.underlying22 Tryz.underlying3 rfl rfl n hpos (by decide) (by omega) (by show n * 48 ≤ _; omega))
    go_enter Tryz.func121, Tryz.ntmps121
    go_wp2_with (at_builtin; refine Lib.wpList_append_run _ rfl _ _ _ _ rfl _ _ rfl rfl _ _ hr.out ?_)
    go_ret
    refine ⟨w.heap.size, _, _, rfl, (own_newC (k := 4) (n := 0) (cs := []) rfl (Nat.zero_le _) hcm.out ?_ rfl).heap rfl, Nat.le_refl _, ((Beh.start w).alloc _).drew⟩
    have := hge.out
    rw [Array.size_append, size_zeroCells, size_zeroCells]
    show n * 4 + (grownCap w n 0 61 - n) * 4 = _
    omega
/-- what three lists have, the first k of them -/
def pre (A B C : List Pr) : Nat → List Pr
  | 0 => []
  | 1 => A
  | 2 => A ++ B
  | _ => A ++ B ++ C
theorem pre_len (A B C : List Pr) (hA : A.length ≤ 1000) (hB : B.length ≤ 1000) (hC : C.length ≤ 1000) (k : Nat) : (pre A B C k).length ≤ 3000 := by
  match k with
  | 0 => exact Nat.zero_le _
  | 1 => show A.length ≤ _; omega
  | 2 => show (A ++ B).length ≤ _; rw [List.length_append]; omega
  | _ + 3 => show (A ++ B ++ C).length ≤ _; rw [List.length_append, List.length_append]; omega
theorem Made.from {w0 w w' : World} {b : Nat} {a : Option Addr} {cap : Nat} {L : List Pr} (h : Beh w0 w) (m : Made w w' b a cap L) : Made w0 w' b a cap L := ⟨m.own, Nat.le_trans h.size m.new, h.trans m.beh⟩
/-- more pairs appended to one's own -/
theorem Made.more {w0 w w' : World} {b b' : Nat} {a a' : Option Addr} {cap cap' : Nat} {L M : List Pr} (m : Made w0 w b a cap L) (h2 : OwnC 61 4 w' b' a' cap' (L.length + M.length) (flat L ++ flat M)) (h3 : Kept (Of a b) w w') (h4 : (b' = b ∧ (a' = none ∨ a ≠ none)) ∨ w.heap.size ≤ b') : Made w0 w' b' a' cap' (L ++ M) := by
  refine ⟨?_, ?_, (m.beh.below.trans (h3.below m.beh.size ?_) : Below _ _ _)⟩
  · show OwnC _ 4 w' b' a' cap' (L ++ M).length (flat (L ++ M))
    rw [List.length_append, flat_append]; exact h2
  · have := m.new
    have := m.beh.size
    rcases h4 with ⟨h4, _⟩ | h4 <;> omega
  · exact fun k hk => by have := hk.2; have := m.new; omega
def nth (A B C : List Pr) : Nat → List Pr
  | 0 => A
  | 1 => B
  | _ => C
theorem pre_next (A B C : List Pr) (k : Nat) (hk : k < 3) : pre A B C (k + 1) = pre A B C k ++ nth A B C k := by
  match k, hk with
  | 0, _ => rfl
  | 1, _ => rfl
  | 2, _ => rfl
set_option maxHeartbeats 1600000 in
set_option maxRecDepth 100000 in
theorem concat_any (B0 : Nat) (a1 a2 a3 : Option Addr) (c1 c2 c3 : Nat) (L1 L2 L3 : List Pr) (w : World)
    (hh : w.heap[B0]? = some (.cells #[.slice a1 L1.length c1, .slice a2 L2.length c2, .slice a3 L3.length c3] 22))
    (h1 : PairsAt w a1 c1 L1) (h2 : PairsAt w a2 c2 L2) (h3 : PairsAt w a3 c3 L3) (l1 : L1.length ≤ 1000) (l2 : L2.length ≤ 1000) (l3 : L3.length ≤ 1000) :
    Calls Tryz.prog 109 #[.slice (some ⟨B0, 0, none⟩) 3 3] w fun e w' => ∃ b' a' cap', e = .returned (.slice a' (L1 ++ L2 ++ L3).length cap') ∧ Made w w' b' a' cap' (L1 ++ L2 ++ L3) := by
  have HI : Hid (∀ wq, Beh w wq → ∀ k, k < 3 → ∃ a c, wq.cell? ⟨B0, k, none⟩ = some (.slice a (nth L1 L2 L3 k).length c) ∧ PairsAt wq a c (nth L1 L2 L3 k)) := fun wq hq k hk => by
    have hb := hq.box hh
    match k, hk with
    | 0, _ => exact ⟨a1, c1, by simp [World.cell?, hb, nth], h1.below hq⟩
    | 1, _ => exact ⟨a2, c2, by simp [World.cell?, hb, nth], h2.below hq⟩
    | 2, _ => exact ⟨a3, c3, by simp [World.cell?, hb, nth], h3.below hq⟩
  have HN := Lib.hid (pre_next L1 L2 L3)
  have HPL := Lib.hid (pre_len L1 L2 L3 l1 l2 l3)
  have HNL : Hid (∀ k, (nth L1 L2 L3 k).length ≤ 1000) := fun k => by unfold nth; split <;> assumption
  have HE := Lib.hid (show pre L1 L2 L3 3 = L1 ++ L2 ++ L3 from rfl)
  clear h1 h2 h3 hh
  rw [← HE.out]
  clear HE
  go_enter Tryz.func109, Tryz.ntmps109
  go_wp2
  go_loopw [3, 5, 11] (fun s _ i wr => ∃ (k m : Nat), k ≤ 3 ∧ i = .int .i64 k ∧ s = .int .i64 m ∧ m ≤ 3000 ∧ Hid (m = (pre L1 L2 L3 k).length) ∧ Hid (Beh w wr)) (fun _ _ i _ => 3 - (intOf i).toNat)
  case atStart => exact ⟨0, 0, by omega, rfl, rfl, by omega, rfl, Beh.start _⟩
  case round =>
    obtain ⟨k, m, hk, rfl, rfl, hm, hm2, HB⟩ := hrel
    by_cases hlt : k < 3
    · obtain ⟨a, c, hc, _⟩ := HI.out _ HB.out k hlt
      have hn := HNL.out k
      have hp := HPL.out (k + 1)
      have hnext := Lib.hid (HN.out k hlt)
      obtain ⟨n, hn2⟩ : ∃ n, (nth L1 L2 L3 k).length = n := ⟨_, rfl⟩
      have HM : Hid (m + n = (pre L1 L2 L3 (k + 1)).length) := by show _ = _; rw [hnext.out, List.length_append, ← hm2.out, hn2]
      have hm3 : m + n ≤ 3000 := by rw [HM.out]; exact hp
      rw [hn2] at hc hn
      clear hn2 hp hm2
      have d0 : decide ((m : Int) + (n : Int) < 0) = false := decide_eq_false (by omega)
      have w0 : wrap64 ((m : Int) + (n : Int)) = (m : Int) + n := by unfold wrap64; omega
      go_wp2
      go_roundw
      case rel => exact ⟨k + 1, m + n, by omega, by go_num, by go_num, by omega, HM.out, HB.out⟩
      case measure => simp [intOf]; omega
    · obtain rfl : k = 3 := by omega
      go_wp2_with (first | (go_at_call 121; refine (grow_any _ (by omega) _).mono ?_; rintro e w' ⟨b', a', cap', rfl, hmade⟩))
      have HM1 := Lib.hid (hmade.from HB.out)
      clear hmade
      go_loopw [6, 8, 27] (fun s _ i wr => ∃ (k : Nat) (b : Nat) (a : Option Addr) (cap : Nat), k ≤ 3 ∧ i = .int .i64 k ∧ s = .slice a (pre L1 L2 L3 k).length cap ∧ Hid (Made w wr b a cap (pre L1 L2 L3 k))) (fun _ _ i _ => 3 - (intOf i).toNat)
      case atStart => exact ⟨0, b', a', cap', by omega, rfl, rfl, HM1.out⟩
      case round =>
        obtain ⟨k, b, a, cap, hk, rfl, rfl, HM⟩ := hrel
        by_cases hlt : k < 3
        · obtain ⟨a2, c2, hc, hp2⟩ := HI.out _ HM.out.beh k hlt
          have HP2 := Lib.hid hp2
          have hnext := Lib.hid (HN.out k hlt)
          have hn := HNL.out k
          have hm := HPL.out k
          clear hp2
          go_wp2_with (at_builtin; refine wpList_append_cells rfl _ _ _ rfl 61 4 _ _ 48 Tryz.underlying22 rfl rfl rfl rfl rfl b a cap _ (flat (pre L1 L2 L3 k)) rfl HM.out.own a2 c2 _ (flat (nth L1 L2 L3 k)) rfl HP2.out.src flat_one (by omega) (by omega) ?_; intro b' a' cap' w' h2 h3 h4 h5; (have HM3 := Lib.hid (HM.out.more h2 h3 h4)); clear h2 h3 h4 h5)
          go_roundw
          case rel => exact ⟨k + 1, b', a', cap', by omega, by go_num, by rw [hnext.out, List.length_append], by show Made _ _ _ _ _ _; rw [hnext.out]; exact HM3.out⟩
          case measure => simp [intOf]; omega
        · obtain rfl : k = 3 := by omega
          go_wp2
          go_ret
          exact ⟨b, a, cap, rfl, HM.out⟩
end Go.Proofs.YtbheofibdogabaaGreat.Kv
end
section
/- Package value: Check, Same. -/
namespace Go.Proofs.YtbheofibdogabaaGreat.Vl
open Go Go.RowKit Go.Proofs.YtbheofibdogabaaGreat.Nm
attribute [local go_sem] run_bits run_frombits run_store_float
def V.right (v : V) : Bool := decide (v.num = if v.kind = 1 then canon v.num else 0)
theorem eq_beq (a b : Nat) : ((a : Int) == (b : Int)) = decide (a = b) := by rw [Bool.eq_iff_iff]; simp; omega
set_option maxHeartbeats 800000 in
theorem hasRight_any (v : V) (w : World) :
    Calls Tryz.prog 98 #[v.val] w fun e w' => e = .returned (.bool v.right) ∧ ∃ o, w' = w.alloc o := by
  obtain ⟨k, a, s⟩ := v
  by_cases hk : k = 1
  · subst hk
    have HC := Lib.hid (show (V.mk 1 a s).right = decide (a = canon a) from rfl)
    have HE := Lib.hid (eq_beq a (canon a))
    go_enter Tryz.func98, Tryz.ntmps98
    go_wp2_with (first | (go_at_call 71; refine (Canon_any _ _).mono ?_; rintro e w' ⟨rfl, rfl⟩))
    go_ret
    exact ⟨ret_bool (by rw [HC.out, ← HE.out]), _, rfl⟩
  · have e1 := int_nbeq hk
    have HC := Lib.hid (show (V.mk k a s).right = decide (a = 0) by simp [V.right, hk])
    clear hk
    go_enter Tryz.func98, Tryz.ntmps98
    go_wp2_with fail
    go_ret
    exact ⟨ret_bool (by rw [HC.out, Bool.eq_iff_iff]; simp), _, rfl⟩

set_option maxHeartbeats 1600000 in
theorem Check_any (v : V) (w : World) :
    Calls Tryz.prog 70 #[v.val] w fun e w' => e = .returned (.int .i64 v.check) ∧ Below w.heap.size w w' := by
  obtain ⟨k, a, s⟩ := v
  by_cases h1 : k < 0
  · have HC := Lib.hid (show (V.mk k a s).check = 15 by simp [V.check, h1])
    go_enter Tryz.func70, Tryz.ntmps70
    go_wp2_with fail
    go_ret
    exact ⟨ret_int HC.out.symm, below_alloc _ _⟩
  · by_cases h2 : 2 < k
    · have HC := Lib.hid (show (V.mk k a s).check = 15 by simp [V.check, h2])
      go_enter Tryz.func70, Tryz.ntmps70
      go_wp2_with fail
      go_ret
      exact ⟨ret_int HC.out.symm, below_alloc _ _⟩
    · by_cases hk : k = 2
      · subst hk
        clear h1 h2
        by_cases hs : 32 < s.size
        · have HC := Lib.hid (show (V.mk 2 a s).check = 2 by simp [V.check, hs])
          go_enter Tryz.func70, Tryz.ntmps70
          go_wp2_with fail
          go_ret
          exact ⟨ret_int HC.out.symm, below_alloc _ _⟩
        · cases hr : (V.mk 2 a s).right
          · have ha : a ≠ 0 := by simpa [V.right] using hr
            have HC := Lib.hid (show (V.mk 2 a s).check = 8 by simp [V.check, hs, ha])
            clear ha
            go_enter Tryz.func70, Tryz.ntmps70
            go_wp2_with (first | (go_at_call 98; refine (hasRight_any ⟨_, _, _⟩ _).mono ?_; rintro e w' ⟨rfl, o, rfl⟩))
            go_ret
            exact ⟨ret_int HC.out.symm, below_alloc2 _ _ _⟩
          · have ha : a = 0 := by simpa [V.right] using hr
            subst ha
            have HC := Lib.hid (show (V.mk 2 0 s).check = 0 by simp [V.check, hs, canon_zero])
            go_enter Tryz.func70, Tryz.ntmps70
            go_wp2_with (first | (go_at_call 98; refine (hasRight_any ⟨_, _, _⟩ _).mono ?_; rintro e w' ⟨rfl, o, rfl⟩))
            go_ret
            exact ⟨ret_int HC.out.symm, below_alloc2 _ _ _⟩
      · have k2 := int_nbeq hk
        have k3 := int_nbne hk
        by_cases hs : s.size = 0
        · obtain rfl := empty_of hs
          cases hr : (V.mk k a (⟨#[]⟩ : ByteArray)).right
          · have HC := Lib.hid (show (V.mk k a (⟨#[]⟩ : ByteArray)).check = 8 by
              by_cases k1 : k = 1
              · have ha : a ≠ canon a := by simpa [V.right, k1] using hr
                simp [V.check, k1, Ne.symm ha]
              · have ha : a ≠ 0 := by simpa [V.right, k1] using hr
                simp [V.check, h1, h2, hk, k1, ha])
            clear hk
            go_enter Tryz.func70, Tryz.ntmps70
            go_wp2_with (first | (go_at_call 98; refine (hasRight_any ⟨_, _, _⟩ _).mono ?_; rintro e w' ⟨rfl, o, rfl⟩))
            go_ret
            exact ⟨ret_int HC.out.symm, below_alloc2 _ _ _⟩
          · have HC := Lib.hid (show (V.mk k a (⟨#[]⟩ : ByteArray)).check = 0 by
              by_cases k1 : k = 1
              · have ha : a = canon a := by simpa [V.right, k1] using hr
                simp [V.check, k1, ← ha]; rfl
              · have ha : a = 0 := by simpa [V.right, k1] using hr
                simp [V.check, h1, h2, hk, ha, canon_zero]; rfl)
            clear hk
            go_enter Tryz.func70, Tryz.ntmps70
            go_wp2_with (first | (go_at_call 98; refine (hasRight_any ⟨_, _, _⟩ _).mono ?_; rintro e w' ⟨rfl, o, rfl⟩))
            go_ret
            exact ⟨ret_int HC.out.symm, below_alloc2 _ _ _⟩
        · have hs2 := nonempty_ne hs
          have HC := Lib.hid (show (V.mk k a s).check = 8 by simp [V.check, h1, h2, hk, hs])
          clear hs hk
          go_enter Tryz.func70, Tryz.ntmps70
          go_wp2_with fail
          go_ret
          exact ⟨ret_int HC.out.symm, below_alloc _ _⟩

set_option maxHeartbeats 800000 in
theorem Same_v (a b : V) (w : World) :
    Calls Tryz.prog 102 #[a.val, b.val] w fun e w' => e = .returned (.bool (a.same b)) ∧ Below w.heap.size w w' := by
  obtain ⟨k, x, s⟩ := a
  obtain ⟨l, y, t⟩ := b
  have HC := Lib.hid (show (V.mk k x s).same ⟨l, y, t⟩ = (decide (k = l) && Nm.same x y && decide (s = t)) from rfl)
  have HT := Lib.hid (text_eq s t)
  by_cases hk : k = l
  · subst hk
    cases h : Nm.same x y
    · go_enter Tryz.func102, Tryz.ntmps102
      go_wp2_with (first | (go_at_call 116; refine (Same_any _ _ _).mono ?_; rintro e w' ⟨rfl, rfl⟩))
      go_ret
      exact ⟨ret_bool (by rw [HC.out, h]; simp), below_alloc2 _ _ _⟩
    · go_enter Tryz.func102, Tryz.ntmps102
      go_wp2_with (first | (go_at_call 116; refine (Same_any _ _ _).mono ?_; rintro e w' ⟨rfl, rfl⟩))
      go_ret
      exact ⟨ret_bool (by rw [HC.out, h, ← HT.out]; simp), below_alloc2 _ _ _⟩
  · have e1 : (k == l) = false := by rw [beq_eq_false_iff_ne]; exact hk
    go_enter Tryz.func102, Tryz.ntmps102
    go_wp2_with fail
    go_ret
    exact ⟨ret_bool (by rw [HC.out]; simp [hk]), below_alloc2 _ _ _⟩
end Go.Proofs.YtbheofibdogabaaGreat.Vl
end
section
/- Walks of the landed package value: hasRightNum, Check, Same, Less. -/
namespace Go.Proofs.YtbheofibdogabaaGreat.Vl
open Go Go.RowKit Go.Proofs.YtbheofibdogabaaGreat.Nm
attribute [local go_sem] run_bits run_frombits run_store_float
end Go.Proofs.YtbheofibdogabaaGreat.Vl
end
