import Derived.Test.YtlgmjkbaihpmmaaGreatCmds7
import Derived.Test.YtlgmjkbaihpmmaaGreatBeh
import Derived.Lib.Bytealg
import Derived.Test.YtlgmjkbaihpmmaaGreatSpoil6
import Derived.Lib.AppendZeros
import Derived.Test.YtlgmjkbaihpmmaaGreatCode5a
import Derived.Test.YtlgmjkbaihpmmaaGreatBoxes
import Derived.Test.YtlgmjkbaihpmmaaGreatChk6
import Derived.Defers
import Derived.Recover
import Derived.Deep.RegionHeld
section
/- The reference's Cmd. -/
namespace Go.Proofs.YtlgmjkbaihpmmaaGreat.Kv
open Go Go.RowKit Vl Nm Mem
attribute [local go_sem] run_bits run_frombits run_store_float

/-- the block of a command, in the worlds behind -/
structure Ck (w0 w : World) (c : Cm) : Prop where
  b1 : w.heap[w0.heap.size]? = some c.obj
  beh : Beh w0 w
theorem Ck.start (w : World) (c : Cm) : Ck w (w.alloc c.obj) c := ⟨alloc_here _ rfl, (Beh.start w).alloc _⟩
theorem Ck.on {w0 w w' : World} {c : Cm} (h : Ck w0 w c) (hb : Below w.heap.size w w') : Ck w0 w' c := ⟨box_on h.b1 hb, h.beh.on hb⟩
/-- zero, where it is right -/
theorem zeroB_of {v : V} (h : v.check = 0) : Kv.V.zeroB v = (v.kind == 0) := by unfold Kv.V.zeroB; rw [h]; simp
theorem zeroB_not {v : V} (h : v.check ≠ 0) : Kv.V.zeroB v = false := by unfold Kv.V.zeroB; simp [h]
theorem key_one {s : ByteArray} : decide ((s.size : Int) < 1) = decide (s.size = 0) := by apply decide_eq_decide.2; omega
set_option maxHeartbeats 3200000 in
theorem refCmd_any (c : Cm) (w : World) :
    Calls Tryz.prog 93 #[c.agg] w fun e w' => e = .returned (.int .i64 c.right) ∧ Below w.heap.size w w' := by
  have HK := Lib.hid (Ck.start w c)
  have r1 := Lib.hid (right_kind (c := c))
  have r2 := Lib.hid (right_long (c := c))
  have r3 := Lib.hid (right_type (c := c))
  have r4 := Lib.hid (right_ok (c := c))
  have HVT := Lib.hid (vals_told c)
  have ZO := Lib.hid (zeroB_of (v := c.old))
  have ZN := Lib.hid (zeroB_not (v := c.old))
  have ZV := Lib.hid (zeroB_of (v := c.val))
  obtain ⟨k, key, ⟨ok, on, os⟩, ⟨vk, vn, vs⟩⟩ := c
  dsimp only at HVT ZO ZN ZV
  by_cases h1 : k < 1
  · have HE := Lib.hid (r1.out (.inl h1))
    clear r1 r2 r3 r4
    go_enter Tryz.func93, Tryz.ntmps93
    go_wp2_with fail
    go_ret
    exact ⟨ret_int HE.out.symm, HK.out.beh⟩
  · by_cases h2 : 6 < k
    · have HE := Lib.hid (r1.out (.inr h2))
      clear r1 r2 r3 r4
      go_enter Tryz.func93, Tryz.ntmps93
      go_wp2_with fail
      go_ret
      exact ⟨ret_int HE.out.symm, HK.out.beh⟩
    · have hk : ¬ (k < 1 ∨ 6 < k) := by omega
      by_cases h3 : 8 < key.size
      · have HE := Lib.hid (r2.out hk h3)
        have d3 : decide ((8 : Int) < (key.size : Int)) = true := decide_eq_true (by omega)
        clear r1 r2 r3 r4 hk
        go_enter Tryz.func93, Tryz.ntmps93
        go_wp2_with fail
        go_ret
        exact ⟨ret_int HE.out.symm, HK.out.beh⟩
      · have d3 : decide ((8 : Int) < (key.size : Int)) = false := decide_eq_false (by omega)
        by_cases h4 : key.size = 0
        · have HE := Lib.hid (r3.out hk h3 (.inl h4))
          have d4 : decide ((key.size : Int) < 1) = true := decide_eq_true (by omega)
          clear r1 r2 r3 r4 hk h3 h4
          go_enter Tryz.func93, Tryz.ntmps93
          go_wp2_with fail
          go_ret
          exact ⟨ret_int HE.out.symm, HK.out.beh⟩
        · have d4 : decide ((key.size : Int) < 1) = false := decide_eq_false (by omega)
          have R3 := Lib.hid (fun h => r3.out hk h3 (.inr h))
          have R4 := Lib.hid (fun h => r4.out hk h3 h4 h)
          clear r1 r2 r3 r4
          cases a1 : ((V.mk ok on os).check == 0)
          · -- the old value is not right
            have a2 : ((V.mk ok on os).check != 0) = true := by rw [bne, a1]; rfl
            have z1 : Kv.V.zeroB ⟨ok, on, os⟩ = false := ZN.out (by simpa using a1)
            have HE := Lib.hid (R3.out (by rw [HVT.out]; simp [a1]))
            by_cases k4 : k = 4
            · subst k4
              clear hk h3 h4
              go_enter Tryz.func93, Tryz.ntmps93
              go_wp2_with (first | (go_at_call 25; refine (refCheck_any ⟨_, _, _⟩ _).mono ?_; rintro e w' ⟨rfl, o, rfl⟩; (have HK := Lib.hid (HK.out.on (below_alloc _ o)))))
              go_ret
              exact ⟨ret_int HE.out.symm, HK.out.beh⟩
            · have m4 := int_nbne k4
              clear hk h3 h4 k4
              go_enter Tryz.func93, Tryz.ntmps93
              go_wp2_with (first | (go_at_call 113; refine (zero_any ⟨_, _, _⟩ _).mono ?_; rintro e w' ⟨rfl, hb⟩; (have HK := Lib.hid (HK.out.on hb)); clear hb; obtain ⟨c0, c1, c2, c3, c4, c5, c6, c7⟩ := cells8 HK.out.b1; dsimp only at c0 c1 c2 c3 c4 c5 c6 c7))
              go_ret
              exact ⟨ret_int HE.out.symm, HK.out.beh⟩
          · have a2 : ((V.mk ok on os).check != 0) = false := by rw [bne, a1]; rfl
            have z1 : Kv.V.zeroB ⟨ok, on, os⟩ = (ok == 0) := ZO.out (by simpa using a1)
            cases o1 : (ok == 0)
            · rw [o1] at z1
              by_cases k4 : k = 4
              · subst k4
                cases b1 : ((V.mk vk vn vs).check == 0)
                · have b2 : ((V.mk vk vn vs).check != 0) = true := by rw [bne, b1]; rfl
                  have HE := Lib.hid (R3.out (by rw [HVT.out]; simp [b1]))
                  clear hk h3 h4
                  go_enter Tryz.func93, Tryz.ntmps93
                  go_wp2_with (first | (go_at_call 113; refine (zero_any ⟨_, _, _⟩ _).mono ?_; rintro e w' ⟨rfl, hb⟩; (have HK := Lib.hid (HK.out.on hb)); clear hb; obtain ⟨c0, c1, c2, c3, c4, c5, c6, c7⟩ := cells8 HK.out.b1; dsimp only at c0 c1 c2 c3 c4 c5 c6 c7) | (go_at_call 25; refine (refCheck_any ⟨_, _, _⟩ _).mono ?_; rintro e w' ⟨rfl, o, rfl⟩; (have HK := Lib.hid (HK.out.on (below_alloc _ o))); obtain ⟨c0, c1, c2, c3, c4, c5, c6, c7⟩ := cells8 HK.out.b1; dsimp only at c0 c1 c2 c3 c4 c5 c6 c7))
                  go_ret
                  exact ⟨ret_int HE.out.symm, HK.out.beh⟩
                · have b2 : ((V.mk vk vn vs).check != 0) = false := by rw [bne, b1]; rfl
                  have HE := Lib.hid (R4.out (by rw [HVT.out]; simp [a1, b1]))
                  clear hk h3 h4
                  go_enter Tryz.func93, Tryz.ntmps93
                  go_wp2_with (first | (go_at_call 113; refine (zero_any ⟨_, _, _⟩ _).mono ?_; rintro e w' ⟨rfl, hb⟩; (have HK := Lib.hid (HK.out.on hb)); clear hb; obtain ⟨c0, c1, c2, c3, c4, c5, c6, c7⟩ := cells8 HK.out.b1; dsimp only at c0 c1 c2 c3 c4 c5 c6 c7) | (go_at_call 25; refine (refCheck_any ⟨_, _, _⟩ _).mono ?_; rintro e w' ⟨rfl, o, rfl⟩; (have HK := Lib.hid (HK.out.on (below_alloc _ o))); obtain ⟨c0, c1, c2, c3, c4, c5, c6, c7⟩ := cells8 HK.out.b1; dsimp only at c0 c1 c2 c3 c4 c5 c6 c7))
                  go_ret
                  exact ⟨ret_int HE.out.symm, HK.out.beh⟩
              · have m4 := int_nbne k4
                have HE := Lib.hid (R3.out (by
                  rw [HVT.out, if_neg k4, o1]
                  split
                  · simp
                  · split <;> simp))
                clear hk h3 h4 k4
                go_enter Tryz.func93, Tryz.ntmps93
                go_wp2_with (first | (go_at_call 113; refine (zero_any ⟨_, _, _⟩ _).mono ?_; rintro e w' ⟨rfl, hb⟩; (have HK := Lib.hid (HK.out.on hb)); clear hb; obtain ⟨c0, c1, c2, c3, c4, c5, c6, c7⟩ := cells8 HK.out.b1; dsimp only at c0 c1 c2 c3 c4 c5 c6 c7) | (go_at_call 25; refine (refCheck_any ⟨_, _, _⟩ _).mono ?_; rintro e w' ⟨rfl, o, rfl⟩; (have HK := Lib.hid (HK.out.on (below_alloc _ o))); obtain ⟨c0, c1, c2, c3, c4, c5, c6, c7⟩ := cells8 HK.out.b1; dsimp only at c0 c1 c2 c3 c4 c5 c6 c7))
                go_ret
                exact ⟨ret_int HE.out.symm, HK.out.beh⟩
            · rw [o1] at z1
              cases b1 : ((V.mk vk vn vs).check == 0)
              · have b2 : ((V.mk vk vn vs).check != 0) = true := by rw [bne, b1]; rfl
                have HE := Lib.hid (R3.out (by rw [HVT.out]; simp [b1]))
                by_cases k4 : k = 4
                · subst k4
                  clear hk h3 h4
                  go_enter Tryz.func93, Tryz.ntmps93
                  go_wp2_with (first | (go_at_call 113; refine (zero_any ⟨_, _, _⟩ _).mono ?_; rintro e w' ⟨rfl, hb⟩; (have HK := Lib.hid (HK.out.on hb)); clear hb; obtain ⟨c0, c1, c2, c3, c4, c5, c6, c7⟩ := cells8 HK.out.b1; dsimp only at c0 c1 c2 c3 c4 c5 c6 c7) | (go_at_call 25; refine (refCheck_any ⟨_, _, _⟩ _).mono ?_; rintro e w' ⟨rfl, o, rfl⟩; (have HK := Lib.hid (HK.out.on (below_alloc _ o))); obtain ⟨c0, c1, c2, c3, c4, c5, c6, c7⟩ := cells8 HK.out.b1; dsimp only at c0 c1 c2 c3 c4 c5 c6 c7))
                  go_ret
                  exact ⟨ret_int HE.out.symm, HK.out.beh⟩
                · have m4 := int_nbne k4
                  clear hk h3 h4 k4
                  go_enter Tryz.func93, Tryz.ntmps93
                  go_wp2_with (first | (go_at_call 113; refine (zero_any ⟨_, _, _⟩ _).mono ?_; rintro e w' ⟨rfl, hb⟩; (have HK := Lib.hid (HK.out.on hb)); clear hb; obtain ⟨c0, c1, c2, c3, c4, c5, c6, c7⟩ := cells8 HK.out.b1; dsimp only at c0 c1 c2 c3 c4 c5 c6 c7) | (go_at_call 25; refine (refCheck_any ⟨_, _, _⟩ _).mono ?_; rintro e w' ⟨rfl, o, rfl⟩; (have HK := Lib.hid (HK.out.on (below_alloc _ o))); obtain ⟨c0, c1, c2, c3, c4, c5, c6, c7⟩ := cells8 HK.out.b1; dsimp only at c0 c1 c2 c3 c4 c5 c6 c7))
                  go_ret
                  exact ⟨ret_int HE.out.symm, HK.out.beh⟩
              · have b2 : ((V.mk vk vn vs).check != 0) = false := by rw [bne, b1]; rfl
                have z2 : Kv.V.zeroB ⟨vk, vn, vs⟩ = (vk == 0) := ZV.out (by simpa using b1)
                cases v1 : (vk == 0) <;> cases v2 : (vk == 1)
                all_goals
                  have v3 : (vk != 0) = !(vk == 0) := rfl
                  rw [v1] at v3 z2
                  rcases (show k = 1 ∨ k = 2 ∨ k = 3 ∨ k = 4 ∨ k = 5 ∨ k = 6 by omega) with rfl | rfl | rfl | rfl | rfl | rfl
                all_goals
                  have HV : Hid ((Cm.mk _ key ⟨ok, on, os⟩ ⟨vk, vn, vs⟩).vals = _) := HVT.out.trans (by simp only [a1, b1, o1, v1, v2, v3]; rfl)
                  clear HVT
                  first
                  | (have HE := Lib.hid (R4.out HV.out); clear R3 R4 HV h1 h2 hk h3 h4
                     go_enter Tryz.func93, Tryz.ntmps93
                     go_wp2_with (first | (go_at_call 113; refine (zero_any ⟨_, _, _⟩ _).mono ?_; rintro e w' ⟨rfl, hb⟩; (have HK := Lib.hid (HK.out.on hb)); clear hb; obtain ⟨c0, c1, c2, c3, c4, c5, c6, c7⟩ := cells8 HK.out.b1; dsimp only at c0 c1 c2 c3 c4 c5 c6 c7) | (go_at_call 25; refine (refCheck_any ⟨_, _, _⟩ _).mono ?_; rintro e w' ⟨rfl, o, rfl⟩; (have HK := Lib.hid (HK.out.on (below_alloc _ o))); obtain ⟨c0, c1, c2, c3, c4, c5, c6, c7⟩ := cells8 HK.out.b1; dsimp only at c0 c1 c2 c3 c4 c5 c6 c7))
                     go_ret
                     exact ⟨ret_int HE.out.symm, HK.out.beh⟩)
                  | (have HE := Lib.hid (R3.out HV.out); clear R3 R4 HV h1 h2 hk h3 h4
                     go_enter Tryz.func93, Tryz.ntmps93
                     go_wp2_with (first | (go_at_call 113; refine (zero_any ⟨_, _, _⟩ _).mono ?_; rintro e w' ⟨rfl, hb⟩; (have HK := Lib.hid (HK.out.on hb)); clear hb; obtain ⟨c0, c1, c2, c3, c4, c5, c6, c7⟩ := cells8 HK.out.b1; dsimp only at c0 c1 c2 c3 c4 c5 c6 c7) | (go_at_call 25; refine (refCheck_any ⟨_, _, _⟩ _).mono ?_; rintro e w' ⟨rfl, o, rfl⟩; (have HK := Lib.hid (HK.out.on (below_alloc _ o))); obtain ⟨c0, c1, c2, c3, c4, c5, c6, c7⟩ := cells8 HK.out.b1; dsimp only at c0 c1 c2 c3 c4 c5 c6 c7))
                     go_ret
                     exact ⟨ret_int HE.out.symm, HK.out.beh⟩)
end Go.Proofs.YtlgmjkbaihpmmaaGreat.Kv
end
section
/- The search of a key: strings.Compare, slices.BinarySearchFunc over pairs. -/
namespace Go.Proofs.YtlgmjkbaihpmmaaGreat.Kv
open Go Go.RowKit Vl Nm Mem
attribute [local go_sem] run_bits run_frombits run_store_float

/-- -1, 0, 1 -/
def cmp (s t : ByteArray) : Int := Lib.compareBytes s.data.toList t.data.toList
theorem compare_told (s t : List UInt8) : (Lib.compareBytes s t < 0 ↔ s < t) ∧ (Lib.compareBytes s t = 0 ↔ s = t) := by
  induction s generalizing t with
  | nil =>
    cases t with
    | nil => exact ⟨⟨fun h => by simp [Lib.compareBytes] at h, fun h => by cases h⟩, by simp [Lib.compareBytes]⟩
    | cons b t => exact ⟨by simp [Lib.compareBytes], by simp [Lib.compareBytes]⟩
  | cons a s ih =>
    cases t with
    | nil => exact ⟨⟨fun h => by simp [Lib.compareBytes] at h, fun h => by cases h⟩, by simp [Lib.compareBytes]⟩
    | cons b t =>
      rw [List.cons_lt_cons_iff]
      unfold Lib.compareBytes
      by_cases h : a < b
      · rw [if_pos h]
        exact ⟨by simp [h], by simp; intro e; subst e; exact absurd h (UInt8.lt_irrefl a)⟩
      · rw [if_neg h]
        by_cases h2 : b < a
        · rw [if_pos h2]
          exact ⟨by simp [h]; intro e; subst e; exact absurd h2 (UInt8.lt_irrefl a), by simp; intro e; subst e; exact absurd h2 (UInt8.lt_irrefl a)⟩
        · rw [if_neg h2]
          have e : a = b := UInt8.le_antisymm (UInt8.not_lt.1 h2) (UInt8.not_lt.1 h)
          subst e
          exact ⟨by simp [h, (ih t).1], by simp [(ih t).2]⟩
theorem cmp_lt (s t : ByteArray) : cmp s t < 0 ↔ klt s t := (compare_told _ _).1
theorem cmp_eq (s t : ByteArray) : cmp s t = 0 ↔ s = t := (compare_told _ _).2.trans key_eq.symm
theorem run_cmpstring (s t : ByteArray) (w : World) : (callFunc 125 #[.string s, .string t]).run Tryz.prog w = .ok (.value (.int .i64 (cmp s t))) w := by
  rw [run_callFunc_extern (fn := Tryz.f125) (e := Extern.BytealgCompare.compare) Tryz.func125 (by kernel_rfl) (by kernel_rfl) (by kernel_rfl) (by kernel_rfl)]
  rw [Lib.run_compareString]
  rfl
set_option maxHeartbeats 400000 in
set_option maxRecDepth 100000 in
theorem Compare_any (s t : ByteArray) (w : World) :
    Calls Tryz.prog 108 #[.string s, .string t] w fun e w' => e = .returned (.int .i64 (cmp s t)) ∧ w = w' := by
  have HC : ∀ w, (callFunc 125 #[.string s, .string t]).run Tryz.prog w = .ok (.value (.int .i64 (cmp s t))) w := run_cmpstring s t
  go_enter Tryz.func108, Tryz.ntmps108
  go_wp2
  go_ret
  exact ⟨rfl, rfl⟩
set_option maxHeartbeats 400000 in
set_option maxRecDepth 100000 in
theorem with1_any (p : Pr) (key : ByteArray) (w : World) :
    Calls Tryz.prog 107 #[p.agg, .string key] w fun e w' => e = .returned (.int .i64 (cmp p.key key)) ∧ Below w.heap.size w w' := by
  obtain ⟨ley, ⟨vk, vn, vs⟩⟩ := p
  go_enter Tryz.func107, Tryz.ntmps107
  go_wp2_with (first | (go_at_call 108; refine (Compare_any _ _ _).mono ?_; rintro e w' ⟨rfl, rfl⟩))
  go_ret
  exact ⟨rfl, below_alloc _ _⟩
/-- where a key stands, or would stand -/
structure Stands (L : List Pr) (key : ByteArray) (n : Nat) (f : Bool) : Prop where
  le : n ≤ L.length
  lt : ∀ q, q < n → klt (L.getD q Pr.zero).key key
  ge : ∀ q, n ≤ q → q < L.length → ¬ klt (L.getD q Pr.zero).key key
  found : f = true ↔ n < L.length ∧ (L.getD n Pr.zero).key = key
set_option maxHeartbeats 1600000 in
set_option maxRecDepth 100000 in
theorem search_any (a : Option Addr) (cap : Nat) (L : List Pr) (key : ByteArray) (w : World) (h : PairsAt w a cap L) (hs : L.Pairwise (fun p q => klt p.key q.key)) (hl : L.length ≤ 100000) :
    Calls Tryz.prog 106 #[.slice a L.length cap, .string key, .func (.func 107) #[] #[]] w fun e w' => ∃ (n : Nat) (f : Bool), e = .returned (.tuple #[.int .i64 (n : Int), .bool f]) ∧ Stands L key n f ∧ Below w.heap.size w w' := by
  have HI := Lib.hid h
  have HS : Hid (∀ i j, i < j → j < L.length → klt (L.getD i Pr.zero).key (L.getD j Pr.zero).key) := fun i j h1 h2 => by
    have := List.pairwise_iff_getElem.1 hs i j (by omega) h2 h1
    rw [getD_lt h2, getD_lt (by omega)]; exact this
  clear h hs
  go_enter Tryz.func106, Tryz.ntmps106
  go_wp2
  go_loopw [9, 10, 11] (fun i j _ wr => ∃ lo hi : Nat, lo ≤ hi ∧ hi ≤ L.length ∧ i = .int .i64 lo ∧ j = .int .i64 hi ∧ Hid (∀ q, q < lo → klt (L.getD q Pr.zero).key key) ∧ Hid (∀ q, hi ≤ q → q < L.length → ¬ klt (L.getD q Pr.zero).key key) ∧ Hid (Beh w wr)) (fun i j _ _ => (intOf j).toNat - (intOf i).toNat)
  case atStart => exact ⟨0, L.length, by omega, by omega, rfl, rfl, fun q hq => by omega, fun q h1 h2 => by omega, Beh.start _⟩
  case round =>
    obtain ⟨lo, hi, hle, hhi, rfl, rfl, HL, HH, HB⟩ := hrel
    by_cases hlt : lo < hi
    · have hm3 : (lo + hi) / 2 < L.length := by omega
      obtain ⟨b, off, rfl, hc⟩ := (HI.out.below HB.out.below).at_ (by omega)
      obtain ⟨h1, h2, h3, h4⟩ := hc ((lo + hi) / 2) hm3
      clear hc
      have HS1 : Hid (klt (L.getD ((lo + hi) / 2) Pr.zero).key key → ∀ q, q < (lo + hi) / 2 + 1 → klt (L.getD q Pr.zero).key key) := fun hk q hq => by
        rcases Nat.lt_or_ge q ((lo + hi) / 2) with h | h
        · exact klt_trans (HS.out q _ h hm3) hk
        · obtain rfl : q = (lo + hi) / 2 := by omega
          exact hk
      have HS2 : Hid (¬ klt (L.getD ((lo + hi) / 2) Pr.zero).key key → ∀ q, (lo + hi) / 2 ≤ q → q < L.length → ¬ klt (L.getD q Pr.zero).key key) := fun hk q hq hq2 h => by
        rcases Nat.lt_or_ge ((lo + hi) / 2) q with h5 | h5
        · exact hk (klt_trans (HS.out _ q h5 hq2) h)
        · obtain rfl : q = (lo + hi) / 2 := by omega
          exact hk h
      generalize L.getD ((lo + hi) / 2) Pr.zero = p at *
      obtain ⟨ley, ⟨vk, vn, vs⟩⟩ := p
      have HC := Lib.hid (cmp_lt ley key)
      by_cases hcmp : cmp ley key < 0
      · have d1 : decide (cmp ley key < 0) = true := decide_eq_true hcmp
        have hcmp2 := Lib.hid hcmp
        go_wp2_with (first | (go_at_call 107; refine (with1_any ⟨_, ⟨_, _, _⟩⟩ _ _).mono ?_; rintro e w' ⟨rfl, hb⟩; (have HB := Lib.hid (HB.out.on hb)); clear hb))
        go_roundw
        case rel => exact ⟨(lo + hi) / 2 + 1, hi, by omega, by omega, by go_num, rfl, HS1.out (HC.out.1 hcmp2.out), HH.out, HB.out⟩
        case measure => simp [intOf]; omega
      · have d1 : decide (cmp ley key < 0) = false := decide_eq_false hcmp
        have hcmp2 := Lib.hid hcmp
        go_wp2_with (first | (go_at_call 107; refine (with1_any ⟨_, ⟨_, _, _⟩⟩ _ _).mono ?_; rintro e w' ⟨rfl, hb⟩; (have HB := Lib.hid (HB.out.on hb)); clear hb))
        go_roundw
        case rel => exact ⟨lo, (lo + hi) / 2, by omega, by omega, rfl, by go_num, HL.out, HS2.out (fun h => by have h1 := HC.out.2 h; have h2 := hcmp2.out; omega), HB.out⟩
        case measure => simp [intOf]; omega
    · obtain rfl : lo = hi := by omega
      by_cases hend : lo < L.length
      · obtain ⟨b, off, rfl, hc⟩ := (HI.out.below HB.out.below).at_ (by omega)
        obtain ⟨h1, h2, h3, h4⟩ := hc lo hend
        clear hc
        have HST : Hid (∀ f, (f = true ↔ (L.getD lo Pr.zero).key = key) → Stands L key lo f) := fun f hf => ⟨hhi, HL.out, HH.out, by rw [hf]; exact ⟨fun h => ⟨hend, h⟩, fun h => h.2⟩⟩
        generalize L.getD lo Pr.zero = p at *
        obtain ⟨ley, ⟨vk, vn, vs⟩⟩ := p
        have HC := Lib.hid (cmp_eq ley key)
        go_wp2_with (first | (go_at_call 107; refine (with1_any ⟨_, ⟨_, _, _⟩⟩ _ _).mono ?_; rintro e w' ⟨rfl, hb⟩; (have HB := Lib.hid (HB.out.on hb)); clear hb))
        go_ret2
        exact ⟨lo, (cmp ley key == 0), rfl, HST.out _ (by rw [← HC.out, beq_iff_eq]), HB.out.below⟩
      · have HST : Hid (Stands L key lo false) := ⟨hhi, HL.out, HH.out, by simp [hend]⟩
        have d1 : decide ((lo : Int) < (L.length : Int)) = false := decide_eq_false (by omega)
        go_wp2_with fail
        go_ret2
        exact ⟨lo, _, rfl, HST.out, HB.out.below⟩
end Go.Proofs.YtlgmjkbaihpmmaaGreat.Kv
end
section
/- slices.Grow of nil, slices.Concat of three, over pairs. -/
namespace Go.Proofs.YtlgmjkbaihpmmaaGreat.Kv
open Go Go.RowKit Vl Nm Mem
attribute [local go_sem] run_bits run_frombits run_store_float

set_option maxHeartbeats 800000 in
set_option maxRecDepth 100000 in
theorem grow_any (n : Nat) (hn : n ≤ 100000) (w : World) :
    Calls Tryz.prog 121 #[.slice none 0 0, .int .i64 n] w fun e w' => ∃ b' a' cap', e = .returned (.slice a' 0 cap') ∧ Made w w' b' a' cap' [] := by
  by_cases h0 : n = 0
  · subst h0
    go_enter Tryz.func121, Tryz.ntmps121
    go_wp2
    go_ret
    exact ⟨w.heap.size, none, 0, rfl, OwnC.nil _ _ _ _, Nat.le_refl _, Beh.start _⟩
  · have hpos : 0 < n := by omega
    have d1 : decide ((0 : Int) < (n : Int)) = true := decide_eq_true (by omega)
    have d2 : decide ((n : Int) < 0) = false := decide_eq_false (by omega)
    have w1 : wrap64 (n : Int) = n := by unfold wrap64; omega
    clear h0
    have hge := Lib.hid (grownCap_ge w n 0 61)
    have hcm := Lib.hid (grownCap_le_maxLen w n 0 61 (by unfold maxLen; omega))
    have hr := Lib.hid (Lib.run_append_nil_zeros (P := Tryz.prog) w 22 3 22 61 _ _ .i64 .i64 Tryz.underlying22 Tryz.underlying3 rfl rfl n hpos (by decide) (by omega) (by show n * 48 ≤ _; omega))
    go_enter Tryz.func121, Tryz.ntmps121
    go_wp2_with (at_builtin; refine Lib.wpList_append_run _ rfl _ _ _ _ rfl _ _ rfl rfl _ _ hr.out ?_)
    go_ret
    refine ⟨w.heap.size, _, _, rfl, (own_newC (k := 4) (n := 0) (cs := []) rfl (Nat.zero_le _) hcm.out ?_ rfl).heap rfl, Nat.le_refl _, ((Beh.start w).alloc _).drew⟩
    have := hge.out
    rw [Array.size_append, size_zeroCells, size_zeroCells]
    show n * 4 + (grownCap w n 0 61 - n) * 4 = _
    omega
/-- what three lists have, the first k of them -/
def pre (A B C : List Pr) : Nat → List Pr
  | 0 => []
  | 1 => A
  | 2 => A ++ B
  | _ => A ++ B ++ C
theorem pre_len (A B C : List Pr) (hA : A.length ≤ 1000) (hB : B.length ≤ 1000) (hC : C.length ≤ 1000) (k : Nat) : (pre A B C k).length ≤ 3000 := by
  match k with
  | 0 => exact Nat.zero_le _
  | 1 => show A.length ≤ _; omega
  | 2 => show (A ++ B).length ≤ _; rw [List.length_append]; omega
  | _ + 3 => show (A ++ B ++ C).length ≤ _; rw [List.length_append, List.length_append]; omega
theorem Made.from {w0 w w' : World} {b : Nat} {a : Option Addr} {cap : Nat} {L : List Pr} (h : Beh w0 w) (m : Made w w' b a cap L) : Made w0 w' b a cap L := ⟨m.own, Nat.le_trans h.size m.new, h.trans m.beh⟩
/-- more pairs appended to one's own -/
theorem Made.more {w0 w w' : World} {b b' : Nat} {a a' : Option Addr} {cap cap' : Nat} {L M : List Pr} (m : Made w0 w b a cap L) (h2 : OwnC 61 4 w' b' a' cap' (L.length + M.length) (flat L ++ flat M)) (h3 : Kept (Of a b) w w') (h4 : (b' = b ∧ (a' = none ∨ a ≠ none)) ∨ w.heap.size ≤ b') : Made w0 w' b' a' cap' (L ++ M) := by
  refine ⟨?_, ?_, (m.beh.below.trans (h3.below m.beh.size ?_) : Below _ _ _)⟩
  · show OwnC _ 4 w' b' a' cap' (L ++ M).length (flat (L ++ M))
    rw [List.length_append, flat_append]; exact h2
  · have := m.new
    have := m.beh.size
    rcases h4 with ⟨h4, _⟩ | h4 <;> omega
  · exact fun k hk => by have := hk.2; have := m.new; omega
def nth (A B C : List Pr) : Nat → List Pr
  | 0 => A
  | 1 => B
  | _ => C
theorem pre_next (A B C : List Pr) (k : Nat) (hk : k < 3) : pre A B C (k + 1) = pre A B C k ++ nth A B C k := by
  match k, hk with
  | 0, _ => rfl
  | 1, _ => rfl
  | 2, _ => rfl
set_option maxHeartbeats 1600000 in
set_option maxRecDepth 100000 in
theorem concat_any (B0 : Nat) (a1 a2 a3 : Option Addr) (c1 c2 c3 : Nat) (L1 L2 L3 : List Pr) (w : World)
    (hh : w.heap[B0]? = some (.cells #[.slice a1 L1.length c1, .slice a2 L2.length c2, .slice a3 L3.length c3] 22))
    (h1 : PairsAt w a1 c1 L1) (h2 : PairsAt w a2 c2 L2) (h3 : PairsAt w a3 c3 L3) (l1 : L1.length ≤ 1000) (l2 : L2.length ≤ 1000) (l3 : L3.length ≤ 1000) :
    Calls Tryz.prog 109 #[.slice (some ⟨B0, 0, none⟩) 3 3] w fun e w' => ∃ b' a' cap', e = .returned (.slice a' (L1 ++ L2 ++ L3).length cap') ∧ Made w w' b' a' cap' (L1 ++ L2 ++ L3) := by
  have HI : Hid (∀ wq, Beh w wq → ∀ k, k < 3 → ∃ a c, wq.cell? ⟨B0, k, none⟩ = some (.slice a (nth L1 L2 L3 k).length c) ∧ PairsAt wq a c (nth L1 L2 L3 k)) := fun wq hq k hk => by
    have hb := hq.box hh
    match k, hk with
    | 0, _ => exact ⟨a1, c1, by simp [World.cell?, hb, nth], h1.below hq⟩
    | 1, _ => exact ⟨a2, c2, by simp [World.cell?, hb, nth], h2.below hq⟩
    | 2, _ => exact ⟨a3, c3, by simp [World.cell?, hb, nth], h3.below hq⟩
  have HN := Lib.hid (pre_next L1 L2 L3)
  have HPL := Lib.hid (pre_len L1 L2 L3 l1 l2 l3)
  have HNL : Hid (∀ k, (nth L1 L2 L3 k).length ≤ 1000) := fun k => by unfold nth; split <;> assumption
  have HE := Lib.hid (show pre L1 L2 L3 3 = L1 ++ L2 ++ L3 from rfl)
  clear h1 h2 h3 hh
  rw [← HE.out]
  clear HE
  go_enter Tryz.func109, Tryz.ntmps109
  go_wp2
  go_loopw [3, 5, 11] (fun s _ i wr => ∃ (k m : Nat), k ≤ 3 ∧ i = .int .i64 k ∧ s = .int .i64 m ∧ m ≤ 3000 ∧ Hid (m = (pre L1 L2 L3 k).length) ∧ Hid (Beh w wr)) (fun _ _ i _ => 3 - (intOf i).toNat)
  case atStart => exact ⟨0, 0, by omega, rfl, rfl, by omega, rfl, Beh.start _⟩
  case round =>
    obtain ⟨k, m, hk, rfl, rfl, hm, hm2, HB⟩ := hrel
    by_cases hlt : k < 3
    · obtain ⟨a, c, hc, _⟩ := HI.out _ HB.out k hlt
      have hn := HNL.out k
      have hp := HPL.out (k + 1)
      have hnext := Lib.hid (HN.out k hlt)
      obtain ⟨n, hn2⟩ : ∃ n, (nth L1 L2 L3 k).length = n := ⟨_, rfl⟩
      have HM : Hid (m + n = (pre L1 L2 L3 (k + 1)).length) := by show _ = _; rw [hnext.out, List.length_append, ← hm2.out, hn2]
      have hm3 : m + n ≤ 3000 := by rw [HM.out]; exact hp
      rw [hn2] at hc hn
      clear hn2 hp hm2
      have d0 : decide ((m : Int) + (n : Int) < 0) = false := decide_eq_false (by omega)
      have w0 : wrap64 ((m : Int) + (n : Int)) = (m : Int) + n := by unfold wrap64; omega
      go_wp2
      go_roundw
      case rel => exact ⟨k + 1, m + n, by omega, by go_num, by go_num, by omega, HM.out, HB.out⟩
      case measure => simp [intOf]; omega
    · obtain rfl : k = 3 := by omega
      go_wp2_with (first | (go_at_call 121; refine (grow_any _ (by omega) _).mono ?_; rintro e w' ⟨b', a', cap', rfl, hmade⟩))
      have HM1 := Lib.hid (hmade.from HB.out)
      clear hmade
      go_loopw [6, 8, 27] (fun s _ i wr => ∃ (k : Nat) (b : Nat) (a : Option Addr) (cap : Nat), k ≤ 3 ∧ i = .int .i64 k ∧ s = .slice a (pre L1 L2 L3 k).length cap ∧ Hid (Made w wr b a cap (pre L1 L2 L3 k))) (fun _ _ i _ => 3 - (intOf i).toNat)
      case atStart => exact ⟨0, b', a', cap', by omega, rfl, rfl, HM1.out⟩
      case round =>
        obtain ⟨k, b, a, cap, hk, rfl, rfl, HM⟩ := hrel
        by_cases hlt : k < 3
        · obtain ⟨a2, c2, hc, hp2⟩ := HI.out _ HM.out.beh k hlt
          have HP2 := Lib.hid hp2
          have hnext := Lib.hid (HN.out k hlt)
          have hn := HNL.out k
          have hm := HPL.out k
          clear hp2
          go_wp2_with (at_builtin; refine wpList_append_cells rfl _ _ _ rfl 61 4 _ _ 48 Tryz.underlying22 rfl rfl rfl rfl rfl b a cap _ (flat (pre L1 L2 L3 k)) rfl HM.out.own a2 c2 _ (flat (nth L1 L2 L3 k)) rfl HP2.out.src flat_one (by omega) (by omega) ?_; intro b' a' cap' w' h2 h3 h4 h5; (have HM3 := Lib.hid (HM.out.more h2 h3 h4)); clear h2 h3 h4 h5)
          go_roundw
          case rel => exact ⟨k + 1, b', a', cap', by omega, by go_num, by rw [hnext.out, List.length_append], by show Made _ _ _ _ _ _; rw [hnext.out]; exact HM3.out⟩
          case measure => simp [intOf]; omega
        · obtain rfl : k = 3 := by omega
          go_wp2
          go_ret
          exact ⟨b, a, cap, rfl, HM.out⟩
end Go.Proofs.YtlgmjkbaihpmmaaGreat.Kv
end
section
/- Walks of the landed package value: join, Add, Max. -/
namespace Go.Proofs.YtlgmjkbaihpmmaaGreat.Vl
open Go Go.RowKit Go.Proofs.YtlgmjkbaihpmmaaGreat.Nm
attribute [local go_sem] run_bits run_frombits run_store_float

set_option maxHeartbeats 1600000 in
theorem vjoin_a (a b : V) (fv : Value) (h : a.check ≠ 0) (w : World) :
    Calls Tryz.prog 117 #[a.val, b.val, fv] w fun e w' => e = .returned (.tuple #[V.zero.val, .int .i64 a.check]) ∧ Below w.heap.size w w' := by
  obtain ⟨k, x, s⟩ := a
  obtain ⟨l, y, t⟩ := b
  have h1 := int_nbeq h
  have h2 := int_nbne h
  clear h
  go_enter Tryz.func117, Tryz.ntmps117
  go_wp2_with fail
  refine (Check_any ⟨_, _, _⟩ _).mono ?_
  rintro e w1 ⟨rfl, hb⟩
  obtain ⟨A1, B1, C1, hb1, hz1⟩ := three_on hb
  obtain ⟨c0, c1, c2, f0, f1, f2⟩ := cells3 C1
  have HB := Lib.hid hb1
  clear hb A1 B1 C1 hb1
  go_wp2_with fail
  (try simp only [Exit.inBlock, Exit.then])
  refine bodyPost_ret (v := .tuple #[V.zero.val, .int .i64 (V.mk k x s).check]) ?_ rfl ⟨rfl, by repeat' (first | exact HB.out | refine Below.setCell ?_ (show w.heap.size ≤ w.heap.size + 1 + 1 by omega) _)⟩
  rw [results_cell_tmp rfl]
  go_simp
set_option maxHeartbeats 1600000 in
theorem vjoin_b (a b : V) (fv : Value) (ha : a.check = 0) (h : b.check ≠ 0) (w : World) :
    Calls Tryz.prog 117 #[a.val, b.val, fv] w fun e w' => e = .returned (.tuple #[V.zero.val, .int .i64 b.check]) ∧ Below w.heap.size w w' := by
  obtain ⟨k, x, s⟩ := a
  obtain ⟨l, y, t⟩ := b
  have h1 := int_nbeq h
  have h2 := int_nbne h
  have a1 := int_beq ha
  have a2 := int_bne ha
  clear h ha
  go_enter Tryz.func117, Tryz.ntmps117
  go_wp2_with fail
  refine (Check_any ⟨_, _, _⟩ _).mono ?_
  rintro e w1 ⟨rfl, hb⟩
  obtain ⟨A1, B1, C1, hb1, hz1⟩ := three_on hb
  obtain ⟨b0, b1, b2, g0, g1, g2⟩ := cells3 B1
  have HA := Lib.hid A1
  have HBB := Lib.hid B1
  have HCC := Lib.hid C1
  have HB1 := Lib.hid hb1
  clear hb A1 B1 C1 hb1
  go_wp2_with fail
  refine (Check_any ⟨_, _, _⟩ _).mono ?_
  rintro e w2 ⟨rfl, hb⟩
  have A2 := box_on HA.out hb
  have B2 := box_on HBB.out hb
  have C2 := box_on HCC.out hb
  have HB := Lib.hid (below_on HB1.out (by omega) hb)
  clear b0 b1 b2 g0 g1 g2
  obtain ⟨a0, a1, a2, e0, e1, e2⟩ := cells3 A2
  obtain ⟨b0, b1, b2, g0, g1, g2⟩ := cells3 B2
  obtain ⟨c0, c1, c2, f0, f1, f2⟩ := cells3 C2
  clear hb A2 B2 C2
  go_wp2_with fail
  (try simp only [Exit.inBlock, Exit.then])
  refine bodyPost_ret (v := .tuple #[V.zero.val, .int .i64 (V.mk l y t).check]) ?_ rfl ⟨rfl, by repeat' (first | exact HB.out | refine below_drewN ?_ _ | refine Below.setCell ?_ (show w.heap.size ≤ w.heap.size + 1 + 1 by omega) _)⟩
  rw [results_cell_tmp rfl]
  go_simp
set_option maxHeartbeats 1600000 in
theorem vjoin_none (a b : V) (fv : Value) (ha : a.check = 0) (hb : b.check = 0) (hk : a.kind = 0) (w : World) :
    Calls Tryz.prog 117 #[a.val, b.val, fv] w fun e w' => e = .returned (.tuple #[b.val, .int .i64 0]) ∧ Below w.heap.size w w' := by
  obtain ⟨k, x, s⟩ := a
  obtain ⟨l, y, t⟩ := b
  obtain rfl : k = 0 := hk
  have a1 := int_beq ha
  have a2 := int_bne ha
  have b1 := int_beq hb
  have b2 := int_bne hb
  clear ha hb
  go_enter Tryz.func117, Tryz.ntmps117
  go_wp2_with fail
  refine (Check_any ⟨_, _, _⟩ _).mono ?_
  rintro e w1 ⟨rfl, hb⟩
  obtain ⟨A1, B1, C1, hb1, hz1⟩ := three_on hb
  obtain ⟨b0, b1, b2, g0, g1, g2⟩ := cells3 B1
  have HA := Lib.hid A1
  have HBB := Lib.hid B1
  have HCC := Lib.hid C1
  have HB1 := Lib.hid hb1
  clear hb A1 B1 C1 hb1
  go_wp2_with fail
  refine (Check_any ⟨_, _, _⟩ _).mono ?_
  rintro e w2 ⟨rfl, hb⟩
  have A2 := box_on HA.out hb
  have B2 := box_on HBB.out hb
  have C2 := box_on HCC.out hb
  have HB := Lib.hid (below_on HB1.out (by omega) hb)
  clear b0 b1 b2 g0 g1 g2
  obtain ⟨a0, a1, a2, e0, e1, e2⟩ := cells3 A2
  obtain ⟨b0, b1, b2, g0, g1, g2⟩ := cells3 B2
  obtain ⟨c0, c1, c2, f0, f1, f2⟩ := cells3 C2
  clear hb A2 B2 C2
  go_wp2_with fail
  (try simp only [Exit.inBlock, Exit.then])
  refine bodyPost_ret (v := .tuple #[(V.mk l y t).val, .int .i64 0]) ?_ rfl ⟨rfl, by repeat' (first | exact HB.out | refine below_drewN ?_ _ | refine Below.setCell ?_ (show w.heap.size ≤ w.heap.size + 1 + 1 by omega) _)⟩
  rw [results_cell_tmp rfl]
  go_simp
set_option maxHeartbeats 1600000 in
theorem vjoin_unlike_a (a b : V) (fv : Value) (ha : a.check = 0) (hb : b.check = 0) (hk : a.kind ≠ 0) (h : a.kind ≠ 1) (w : World) :
    Calls Tryz.prog 117 #[a.val, b.val, fv] w fun e w' => e = .returned (.tuple #[V.zero.val, .int .i64 8]) ∧ Below w.heap.size w w' := by
  obtain ⟨k, x, s⟩ := a
  obtain ⟨l, y, t⟩ := b
  have k0 : k ≠ 0 := hk
  have k1 : k ≠ 1 := h
  have a1 := int_beq ha
  have a2 := int_bne ha
  have b1 := int_beq hb
  have b2 := int_bne hb
  have e0' := int_nbeq k0
  have e1' := int_nbeq k1
  have e2' := int_nbne k1
  clear ha hb hk h k0 k1
  go_enter Tryz.func117, Tryz.ntmps117
  go_wp2_with fail
  refine (Check_any ⟨_, _, _⟩ _).mono ?_
  rintro e w1 ⟨rfl, hb⟩
  obtain ⟨A1, B1, C1, hb1, hz1⟩ := three_on hb
  obtain ⟨b0, b1, b2, g0, g1, g2⟩ := cells3 B1
  have HA := Lib.hid A1
  have HBB := Lib.hid B1
  have HCC := Lib.hid C1
  have HB1 := Lib.hid hb1
  clear hb A1 B1 C1 hb1
  go_wp2_with fail
  refine (Check_any ⟨_, _, _⟩ _).mono ?_
  rintro e w2 ⟨rfl, hb⟩
  have A2 := box_on HA.out hb
  have B2 := box_on HBB.out hb
  have C2 := box_on HCC.out hb
  have HB := Lib.hid (below_on HB1.out (by omega) hb)
  clear b0 b1 b2 g0 g1 g2
  obtain ⟨a0, a1, a2, e0, e1, e2⟩ := cells3 A2
  obtain ⟨b0, b1, b2, g0, g1, g2⟩ := cells3 B2
  obtain ⟨c0, c1, c2, f0, f1, f2⟩ := cells3 C2
  clear hb A2 B2 C2
  go_wp2_with fail
  (try simp only [Exit.inBlock, Exit.then])
  refine bodyPost_ret (v := .tuple #[V.zero.val, .int .i64 8]) ?_ rfl ⟨rfl, by repeat' (first | exact HB.out | refine below_drewN ?_ _ | refine Below.setCell ?_ (show w.heap.size ≤ w.heap.size + 1 + 1 by omega) _)⟩
  rw [results_cell_tmp rfl]
  go_simp
set_option maxHeartbeats 1600000 in
theorem vjoin_unlike_b (a b : V) (fv : Value) (ha : a.check = 0) (hb : b.check = 0) (hk : a.kind = 1) (h : b.kind ≠ 1) (w : World) :
    Calls Tryz.prog 117 #[a.val, b.val, fv] w fun e w' => e = .returned (.tuple #[V.zero.val, .int .i64 8]) ∧ Below w.heap.size w w' := by
  obtain ⟨k, x, s⟩ := a
  obtain ⟨l, y, t⟩ := b
  obtain rfl : k = 1 := hk
  have k1 : l ≠ 1 := h
  have a1 := int_beq ha
  have a2 := int_bne ha
  have b1 := int_beq hb
  have b2 := int_bne hb
  have e1' := int_nbeq k1
  have e2' := int_nbne k1
  clear ha hb h k1
  go_enter Tryz.func117, Tryz.ntmps117
  go_wp2_with fail
  refine (Check_any ⟨_, _, _⟩ _).mono ?_
  rintro e w1 ⟨rfl, hb⟩
  obtain ⟨A1, B1, C1, hb1, hz1⟩ := three_on hb
  obtain ⟨b0, b1, b2, g0, g1, g2⟩ := cells3 B1
  have HA := Lib.hid A1
  have HBB := Lib.hid B1
  have HCC := Lib.hid C1
  have HB1 := Lib.hid hb1
  clear hb A1 B1 C1 hb1
  go_wp2_with fail
  refine (Check_any ⟨_, _, _⟩ _).mono ?_
  rintro e w2 ⟨rfl, hb⟩
  have A2 := box_on HA.out hb
  have B2 := box_on HBB.out hb
  have C2 := box_on HCC.out hb
  have HB := Lib.hid (below_on HB1.out (by omega) hb)
  clear b0 b1 b2 g0 g1 g2
  obtain ⟨a0, a1, a2, e0, e1, e2⟩ := cells3 A2
  obtain ⟨b0, b1, b2, g0, g1, g2⟩ := cells3 B2
  obtain ⟨c0, c1, c2, f0, f1, f2⟩ := cells3 C2
  clear hb A2 B2 C2
  go_wp2_with fail
  (try simp only [Exit.inBlock, Exit.then])
  refine bodyPost_ret (v := .tuple #[V.zero.val, .int .i64 8]) ?_ rfl ⟨rfl, by repeat' (first | exact HB.out | refine below_drewN ?_ _ | refine Below.setCell ?_ (show w.heap.size ≤ w.heap.size + 1 + 1 by omega) _)⟩
  rw [results_cell_tmp rfl]
  go_simp
set_option maxHeartbeats 1600000 in
theorem vjoin_add (a b : V) (ha : a.check = 0) (hb : b.check = 0) (hk : a.kind = 1) (hl : b.kind = 1) (hx : a.num < 18446744073709551616) (hy : b.num < 18446744073709551616) (w : World) :
    Calls Tryz.prog 117 #[a.val, b.val, .func (.func 118) #[] #[]] w fun e w' => e = .returned (.tuple #[(V.mk 1 (sumC a.num b.num) (⟨#[]⟩ : ByteArray)).val, .int .i64 0]) ∧ Below w.heap.size w w' := by
  obtain ⟨k, x, s⟩ := a
  obtain ⟨l, y, t⟩ := b
  obtain rfl : k = 1 := hk
  obtain rfl : l = 1 := hl
  have a1 := int_beq ha
  have a2 := int_bne ha
  have b1 := int_beq hb
  have b2 := int_bne hb
  clear ha hb
  have hx : x < 18446744073709551616 := hx
  have hy : y < 18446744073709551616 := hy
  go_enter Tryz.func117, Tryz.ntmps117
  go_wp2_with fail
  refine (Check_any ⟨_, _, _⟩ _).mono ?_
  rintro e w1 ⟨rfl, hb⟩
  obtain ⟨A1, B1, C1, hb1, hz1⟩ := three_on hb
  obtain ⟨b0, b1, b2, g0, g1, g2⟩ := cells3 B1
  have HA := Lib.hid A1
  have HBB := Lib.hid B1
  have HCC := Lib.hid C1
  have HB1 := Lib.hid hb1
  clear hb A1 B1 C1 hb1
  go_wp2_with fail
  refine (Check_any ⟨_, _, _⟩ _).mono ?_
  rintro e w2 ⟨rfl, hb⟩
  have A2 := box_on HA.out hb
  have B2 := box_on HBB.out hb
  have C2 := box_on HCC.out hb
  have HB := Lib.hid (below_on HB1.out (by omega) hb)
  clear b0 b1 b2 g0 g1 g2
  obtain ⟨a0, a1, a2, e0, e1, e2⟩ := cells3 A2
  obtain ⟨b0, b1, b2, g0, g1, g2⟩ := cells3 B2
  obtain ⟨c0, c1, c2, f0, f1, f2⟩ := cells3 C2
  clear hb A2 B2 C2
  go_wp2_with (first | (go_at_call 118; refine (Add_any _ _ _).mono ?_; rintro e w' ⟨rfl, n, rfl⟩))
  (try simp only [Exit.inBlock, Exit.then])
  refine bodyPost_ret (v := .tuple #[(V.mk 1 (sumC x y) (⟨#[]⟩ : ByteArray)).val, .int .i64 0]) ?_ rfl ⟨rfl, by repeat' (first | exact HB.out | refine below_drewN ?_ _ | refine Below.setCell ?_ (show w.heap.size ≤ w.heap.size + 1 + 1 by omega) _)⟩
  rw [results_cell_tmp rfl]
  go_simp
set_option maxHeartbeats 1600000 in
theorem vjoin_max (a b : V) (ha : a.check = 0) (hb : b.check = 0) (hk : a.kind = 1) (hl : b.kind = 1) (hx : a.num < 18446744073709551616) (hy : b.num < 18446744073709551616) (w : World) :
    Calls Tryz.prog 117 #[a.val, b.val, .func (.func 119) #[] #[]] w fun e w' => e = .returned (.tuple #[(V.mk 1 (maxF a.num b.num) (⟨#[]⟩ : ByteArray)).val, .int .i64 0]) ∧ Below w.heap.size w w' := by
  obtain ⟨k, x, s⟩ := a
  obtain ⟨l, y, t⟩ := b
  obtain rfl : k = 1 := hk
  obtain rfl : l = 1 := hl
  have a1 := int_beq ha
  have a2 := int_bne ha
  have b1 := int_beq hb
  have b2 := int_bne hb
  clear ha hb
  have hx : x < 18446744073709551616 := hx
  have hy : y < 18446744073709551616 := hy
  go_enter Tryz.func117, Tryz.ntmps117
  go_wp2_with fail
  refine (Check_any ⟨_, _, _⟩ _).mono ?_
  rintro e w1 ⟨rfl, hb⟩
  obtain ⟨A1, B1, C1, hb1, hz1⟩ := three_on hb
  obtain ⟨b0, b1, b2, g0, g1, g2⟩ := cells3 B1
  have HA := Lib.hid A1
  have HBB := Lib.hid B1
  have HCC := Lib.hid C1
  have HB1 := Lib.hid hb1
  clear hb A1 B1 C1 hb1
  go_wp2_with fail
  refine (Check_any ⟨_, _, _⟩ _).mono ?_
  rintro e w2 ⟨rfl, hb⟩
  have A2 := box_on HA.out hb
  have B2 := box_on HBB.out hb
  have C2 := box_on HCC.out hb
  have HB := Lib.hid (below_on HB1.out (by omega) hb)
  clear b0 b1 b2 g0 g1 g2
  obtain ⟨a0, a1, a2, e0, e1, e2⟩ := cells3 A2
  obtain ⟨b0, b1, b2, g0, g1, g2⟩ := cells3 B2
  obtain ⟨c0, c1, c2, f0, f1, f2⟩ := cells3 C2
  clear hb A2 B2 C2
  go_wp2_with (first | (go_at_call 119; refine (Max_any _ _ (by assumption) (by assumption) _).mono ?_; rintro e w' ⟨rfl, rfl⟩))
  (try simp only [Exit.inBlock, Exit.then])
  refine bodyPost_ret (v := .tuple #[(V.mk 1 (maxF x y) (⟨#[]⟩ : ByteArray)).val, .int .i64 0]) ?_ rfl ⟨rfl, by repeat' (first | exact HB.out | refine below_drewN ?_ _ | refine Below.setCell ?_ (show w.heap.size ≤ w.heap.size + 1 + 1 by omega) _)⟩
  rw [results_cell_tmp rfl]
  go_simp
theorem vjoin_sum (a b : V) (ha : a.num < 18446744073709551616) (hb : b.num < 18446744073709551616) (w : World) :
    Calls Tryz.prog 117 #[a.val, b.val, .func (.func 118) #[] #[]] w (JoinTold sumC a b w) := by
  unfold JoinTold joined
  by_cases h1 : a.check = 0
  · by_cases h2 : b.check = 0
    · rw [if_neg (by omega), if_neg (by omega)]
      by_cases k0 : a.kind = 0
      · rw [if_pos k0]; exact vjoin_none a b _ h1 h2 k0 w
      · rw [if_neg k0]
        by_cases k1 : a.kind = 1
        · by_cases k2 : b.kind = 1
          · rw [if_neg (by omega)]
            exact vjoin_add a b h1 h2 k1 k2 ha hb w
          · rw [if_pos (.inr k2)]; exact vjoin_unlike_b a b _ h1 h2 k1 k2 w
        · rw [if_pos (.inl k1)]; exact vjoin_unlike_a a b _ h1 h2 k0 k1 w
    · rw [if_neg (by omega), if_pos h2]; exact vjoin_b a b _ h1 h2 w
  · rw [if_pos h1]; exact vjoin_a a b _ h1 w
theorem vjoin_great (a b : V) (ha : a.num < 18446744073709551616) (hb : b.num < 18446744073709551616) (w : World) :
    Calls Tryz.prog 117 #[a.val, b.val, .func (.func 119) #[] #[]] w (JoinTold maxF a b w) := by
  unfold JoinTold joined
  by_cases h1 : a.check = 0
  · by_cases h2 : b.check = 0
    · rw [if_neg (by omega), if_neg (by omega)]
      by_cases k0 : a.kind = 0
      · rw [if_pos k0]; exact vjoin_none a b _ h1 h2 k0 w
      · rw [if_neg k0]
        by_cases k1 : a.kind = 1
        · by_cases k2 : b.kind = 1
          · rw [if_neg (by omega)]
            exact vjoin_max a b h1 h2 k1 k2 ha hb w
          · rw [if_pos (.inr k2)]; exact vjoin_unlike_b a b _ h1 h2 k1 k2 w
        · rw [if_pos (.inl k1)]; exact vjoin_unlike_a a b _ h1 h2 k0 k1 w
    · rw [if_neg (by omega), if_pos h2]; exact vjoin_b a b _ h1 h2 w
  · rw [if_pos h1]; exact vjoin_a a b _ h1 w
set_option maxHeartbeats 400000 in
theorem Add_v (a b : V) (ha : a.num < 18446744073709551616) (hb : b.num < 18446744073709551616) (w : World) :
    Calls Tryz.prog 104 #[a.val, b.val] w (JoinTold sumC a b w) := by
  have HJ := fun w => Lib.hid (vjoin_sum a b ha hb w)
  clear ha hb
  unfold JoinTold
  go_enter Tryz.func104, Tryz.ntmps104
  go_wp2_with fail
  refine (HJ _).out.mono ?_
  rintro e w' ⟨rfl, hb⟩
  obtain ⟨_, _, C1, hb1, _⟩ := three_on hb
  obtain ⟨c0, c1, c2, f0, f1, f2⟩ := cells3 C1
  have HB := Lib.hid hb1
  clear hb hb1 C1
  go_wp2_with fail
  (try simp only [Exit.inBlock, Exit.then])
  refine bodyPost_ret (v := .tuple #[(joined sumC a b).1.val, .int .i64 (joined sumC a b).2]) ?_ rfl ⟨rfl, by repeat' (first | exact HB.out | refine below_drewN ?_ _ | refine Below.setCell ?_ (show w.heap.size ≤ w.heap.size + 1 + 1 by omega) _)⟩
  rw [results_cell_tmp rfl]
  go_simp
set_option maxHeartbeats 400000 in
theorem Max_v (a b : V) (ha : a.num < 18446744073709551616) (hb : b.num < 18446744073709551616) (w : World) :
    Calls Tryz.prog 105 #[a.val, b.val] w (JoinTold maxF a b w) := by
  have HJ := fun w => Lib.hid (vjoin_great a b ha hb w)
  clear ha hb
  unfold JoinTold
  go_enter Tryz.func105, Tryz.ntmps105
  go_wp2_with fail
  refine (HJ _).out.mono ?_
  rintro e w' ⟨rfl, hb⟩
  obtain ⟨_, _, C1, hb1, _⟩ := three_on hb
  obtain ⟨c0, c1, c2, f0, f1, f2⟩ := cells3 C1
  have HB := Lib.hid hb1
  clear hb hb1 C1
  go_wp2_with fail
  (try simp only [Exit.inBlock, Exit.then])
  refine bodyPost_ret (v := .tuple #[(joined maxF a b).1.val, .int .i64 (joined maxF a b).2]) ?_ rfl ⟨rfl, by repeat' (first | exact HB.out | refine below_drewN ?_ _ | refine Below.setCell ?_ (show w.heap.size ≤ w.heap.size + 1 + 1 by omega) _)⟩
  rw [results_cell_tmp rfl]
  go_simp
end Go.Proofs.YtlgmjkbaihpmmaaGreat.Vl
end
section
/- What is thrown: must, joined, work. -/
namespace Go.Proofs.YtlgmjkbaihpmmaaGreat.Kv
open Go Go.RowKit Vl Nm Mem
attribute [local go_sem] run_bits run_frombits run_store_float

def thrown (c : Int) (v : V) : List PanicEntry := [{ v := .iface 52 (rep c v), recovered := false }]
set_option maxRecDepth 100000 in
theorem results_cells {fn : Func} {p q : Tmp} {ty tz : TypeId} (h : fn.results = #[.cell p ty, .cell q tz]) (tmps : Array Value) (P : Program) (w : World) :
    (results fn tmps).run P w = ((asAddr (tmps.getD p undef)).run P w).andThen fun a w₁ => ((loadVar ty a).run P w₁).andThen fun x w₂ => ((asAddr (tmps.getD q undef)).run P w₂).andThen fun b w₃ => ((loadVar tz b).run P w₃).andThen fun y w₄ => .ok (.tuple #[x, y]) w₄ := by
  simp only [results, h]
  simp [Sem.run_bind, Result.andThen]
set_option maxRecDepth 100000 in
theorem must_ok (w : World) : Calls Tryz.prog 85 #[.int .i64 0] w fun e w' => e = .returned (.tuple #[]) ∧ w = w' := by
  go_enter Tryz.func85, Tryz.ntmps85
  go_wp2
  go_end0
  exact ⟨rfl, rfl⟩
set_option maxRecDepth 100000 in
theorem must_not (c : Int) (h : c ≠ 0) (w : World) : Calls Tryz.prog 85 #[.int .i64 c] w fun e w' => e = .panicked (thrown c V.zero) ∧ w = w' := by
  have d := int_nbne h
  clear h
  go_enter Tryz.func85, Tryz.ntmps85
  go_wp2
  exact ⟨rfl, rfl, rfl⟩
set_option maxRecDepth 100000 in
theorem joined_ok (v : V) (w : World) : Calls Tryz.prog 103 #[v.val, .int .i64 0] w fun e w' => e = .returned v.val ∧ Below w.heap.size w w' := by
  obtain ⟨k, n, s⟩ := v
  go_enter Tryz.func103, Tryz.ntmps103
  go_wp2_with (first | (go_at_call 85; refine (must_ok _).mono ?_; rintro e w' ⟨rfl, rfl⟩))
  refine bodyPost_ret (v := (V.mk k n s).val) ?_ rfl ⟨rfl, by show Beh w _; repeat' (first | exact Beh.start _ | refine Beh.alloc ?_ _ | refine Beh.set ?_ (by omega) _ _)⟩
  rw [results_cell_one rfl]
  go_simp
set_option maxRecDepth 100000 in
theorem joined_not (v : V) (c : Int) (h : c ≠ 0) (w : World) : Calls Tryz.prog 103 #[v.val, .int .i64 c] w fun e w' => e = .panicked (thrown c V.zero) ∧ Below w.heap.size w w' := by
  obtain ⟨k, n, s⟩ := v
  go_enter Tryz.func103, Tryz.ntmps103
  go_wp2_with (first | (go_at_call 85; refine (must_not _ h _).mono ?_; rintro e w' ⟨rfl, rfl⟩))
  exact ⟨rfl, rfl, below_alloc2 _ _ _⟩
/-- the blocks of a call of work -/
structure Wk (w0 w : World) (v : V) (c : Cm) : Prop where
  b0 : w.heap[w0.heap.size]? = some (Vobj v)
  b1 : w.heap[w0.heap.size + 1]? = some c.obj
  b2 : w.heap[w0.heap.size + 1 + 1]? = some (Vobj V.zero)
  b3 : w.heap[w0.heap.size + 1 + 1 + 1]? = some (Vobj V.zero)
  beh : Beh w0 w
set_option maxRecDepth 100000 in
theorem Wk.start (w : World) (v : V) (c : Cm) : Wk w ((((w.alloc (Vobj v)).alloc c.obj).alloc (Vobj V.zero)).alloc (Vobj V.zero)) v c :=
  ⟨old_alloc _ (old_alloc _ (old_alloc _ (alloc_here _ rfl))), old_alloc _ (old_alloc _ (alloc_here _ (by simp))), old_alloc _ (alloc_here _ (by simp)), alloc_here _ (by simp), (((Beh.start w).alloc _).alloc _).alloc _ |>.alloc _⟩
set_option maxRecDepth 100000 in
theorem Wk.on {w0 w w' : World} {v : V} {c : Cm} (h : Wk w0 w v c) (hb : Below w.heap.size w w') : Wk w0 w' v c :=
  ⟨box_on h.b0 hb, box_on h.b1 hb, box_on h.b2 hb, box_on h.b3 hb, h.beh.on hb⟩
set_option maxHeartbeats 800000 in
set_option maxRecDepth 100000 in
theorem work_put (v : V) (c : Cm) (h : c.kind = 2) (w : World) : Calls Tryz.prog 86 #[v.val, c.agg] w fun e w' => e = .returned (.tuple #[c.val.val, v.val]) ∧ Below w.heap.size w w' := by
  obtain ⟨k, key, ⟨ok, on, os⟩, ⟨vk, vn, vs⟩⟩ := c
  obtain ⟨uk, un, us⟩ := v
  obtain rfl : k = 2 := h
  go_enter Tryz.func86, Tryz.ntmps86
  go_wp2_with fail
  go_region
  go_wp2_with fail
  (try simp only [Exit.inBlock, Exit.then])
  refine bodyPost_ret (v := .tuple #[(V.mk vk vn vs).val, (V.mk uk un us).val]) ?_ rfl ⟨rfl, by show Beh w _; repeat' (first | with_reducible exact HK.out.beh | with_reducible exact Beh.start _ | with_reducible refine Beh.drew ?_ | with_reducible refine Beh.drewN ?_ _ | with_reducible refine Beh.alloc ?_ _ | with_reducible refine Beh.set ?_ (by omega) _ _)⟩
  rw [results_cells rfl]
  go_simp
set_option maxHeartbeats 800000 in
set_option maxRecDepth 100000 in
theorem work_del (v : V) (c : Cm) (h : c.kind = 3) (w : World) : Calls Tryz.prog 86 #[v.val, c.agg] w fun e w' => e = .returned (.tuple #[V.zero.val, v.val]) ∧ Below w.heap.size w w' := by
  obtain ⟨k, key, ⟨ok, on, os⟩, ⟨vk, vn, vs⟩⟩ := c
  obtain ⟨uk, un, us⟩ := v
  obtain rfl : k = 3 := h
  go_enter Tryz.func86, Tryz.ntmps86
  go_wp2_with fail
  go_region
  go_wp2_with fail
  (try simp only [Exit.inBlock, Exit.then])
  refine bodyPost_ret (v := .tuple #[V.zero.val, (V.mk uk un us).val]) ?_ rfl ⟨rfl, by show Beh w _; repeat' (first | with_reducible exact HK.out.beh | with_reducible exact Beh.start _ | with_reducible refine Beh.drew ?_ | with_reducible refine Beh.drewN ?_ _ | with_reducible refine Beh.alloc ?_ _ | with_reducible refine Beh.set ?_ (by omega) _ _)⟩
  rw [results_cells rfl]
  go_simp
set_option maxHeartbeats 800000 in
set_option maxRecDepth 100000 in
theorem work_get (v : V) (c : Cm) (h2 : c.kind ≠ 2) (h3 : c.kind ≠ 3) (h4 : c.kind ≠ 4) (h5 : c.kind ≠ 5) (h6 : c.kind ≠ 6) (w : World) : Calls Tryz.prog 86 #[v.val, c.agg] w fun e w' => e = .returned (.tuple #[v.val, v.val]) ∧ Below w.heap.size w w' := by
  obtain ⟨k, key, ⟨ok, on, os⟩, ⟨vk, vn, vs⟩⟩ := c
  obtain ⟨uk, un, us⟩ := v
  have m2 := int_nbeq h2
  have m3 := int_nbeq h3
  have m4 := int_nbeq h4
  have m5 := int_nbeq h5
  have m6 := int_nbeq h6
  clear h2 h3 h4 h5 h6
  go_enter Tryz.func86, Tryz.ntmps86
  go_wp2_with fail
  go_region
  go_wp2_with fail
  (try simp only [Exit.inBlock, Exit.then])
  refine bodyPost_ret (v := .tuple #[(V.mk uk un us).val, (V.mk uk un us).val]) ?_ rfl ⟨rfl, by show Beh w _; repeat' (first | with_reducible exact HK.out.beh | with_reducible exact Beh.start _ | with_reducible refine Beh.drew ?_ | with_reducible refine Beh.drewN ?_ _ | with_reducible refine Beh.alloc ?_ _ | with_reducible refine Beh.set ?_ (by omega) _ _)⟩
  rw [results_cells rfl]
  go_simp
set_option maxHeartbeats 1600000 in
set_option maxRecDepth 100000 in
theorem work_cas (v : V) (c : Cm) (h : c.kind = 4) (hs : v.same c.old = true) (w : World) : Calls Tryz.prog 86 #[v.val, c.agg] w fun e w' => e = .returned (.tuple #[c.val.val, v.val]) ∧ Below w.heap.size w w' := by
  obtain ⟨k, key, ⟨ok, on, os⟩, ⟨vk, vn, vs⟩⟩ := c
  obtain ⟨uk, un, us⟩ := v
  obtain rfl : k = 4 := h
  have HK := Lib.hid (Wk.start w ⟨uk, un, us⟩ ⟨4, key, ⟨ok, on, os⟩, ⟨vk, vn, vs⟩⟩)
  go_enter Tryz.func86, Tryz.ntmps86
  go_wp2_with (first | (go_at_call 102; refine (Same_v ⟨_, _, _⟩ ⟨_, _, _⟩ _).mono ?_; rintro e w' ⟨rfl, hb⟩; (have HK := Lib.hid (HK.out.on hb)); clear hb; obtain ⟨a0, a1, a2, _⟩ := cells3 HK.out.b0; obtain ⟨c0, c1, c2, c3, c4, c5, c6, c7⟩ := cells8 HK.out.b1; obtain ⟨p0, p1, p2, q0, q1, q2⟩ := cells3 HK.out.b2; obtain ⟨r0, r1, r2, s0, s1, s2⟩ := cells3 HK.out.b3; dsimp only at a0 a1 a2 c0 c1 c2 c3 c4 c5 c6 c7 p0 p1 p2 r0 r1 r2))
  go_region
  go_wp2_with fail
  (try simp only [Exit.inBlock, Exit.then])
  refine bodyPost_ret (v := .tuple #[(V.mk vk vn vs).val, (V.mk uk un us).val]) ?_ rfl ⟨rfl, by show Beh w _; repeat' (first | with_reducible exact HK.out.beh | with_reducible exact Beh.start _ | with_reducible refine Beh.drew ?_ | with_reducible refine Beh.drewN ?_ _ | with_reducible refine Beh.alloc ?_ _ | with_reducible refine Beh.set ?_ (by omega) _ _)⟩
  rw [results_cells rfl]
  go_simp
set_option maxHeartbeats 1600000 in
set_option maxRecDepth 100000 in
theorem work_other (v : V) (c : Cm) (h : c.kind = 4) (hs : v.same c.old = false) (w : World) : Calls Tryz.prog 86 #[v.val, c.agg] w fun e w' => e = .panicked (thrown 9 v) ∧ Below w.heap.size w w' := by
  obtain ⟨k, key, ⟨ok, on, os⟩, ⟨vk, vn, vs⟩⟩ := c
  obtain ⟨uk, un, us⟩ := v
  obtain rfl : k = 4 := h
  have HK := Lib.hid (Wk.start w ⟨uk, un, us⟩ ⟨4, key, ⟨ok, on, os⟩, ⟨vk, vn, vs⟩⟩)
  go_enter Tryz.func86, Tryz.ntmps86
  go_wp2_with (first | (go_at_call 102; refine (Same_v ⟨_, _, _⟩ ⟨_, _, _⟩ _).mono ?_; rintro e w' ⟨rfl, hb⟩; (have HK := Lib.hid (HK.out.on hb)); clear hb; obtain ⟨a0, a1, a2, _⟩ := cells3 HK.out.b0; obtain ⟨c0, c1, c2, c3, c4, c5, c6, c7⟩ := cells8 HK.out.b1; obtain ⟨p0, p1, p2, q0, q1, q2⟩ := cells3 HK.out.b2; obtain ⟨r0, r1, r2, s0, s1, s2⟩ := cells3 HK.out.b3; dsimp only at a0 a1 a2 c0 c1 c2 c3 c4 c5 c6 c7 p0 p1 p2 r0 r1 r2))
  exact ⟨rfl, rfl, HK.out.beh⟩
set_option maxHeartbeats 1600000 in
set_option maxRecDepth 100000 in
theorem work_add (v : V) (c : Cm) (h : c.kind = 5) (hv : v.num < 18446744073709551616) (hc : c.val.num < 18446744073709551616) (hj : (joined sumC v c.val).2 = 0) (w : World) : Calls Tryz.prog 86 #[v.val, c.agg] w fun e w' => e = .returned (.tuple #[(joined sumC v c.val).1.val, (joined sumC v c.val).1.val]) ∧ Below w.heap.size w w' := by
  obtain ⟨k, key, ⟨ok, on, os⟩, ⟨vk, vn, vs⟩⟩ := c
  obtain ⟨uk, un, us⟩ := v
  obtain rfl : k = 5 := h
  have HK := Lib.hid (Wk.start w ⟨uk, un, us⟩ ⟨5, key, ⟨ok, on, os⟩, ⟨vk, vn, vs⟩⟩)
  have HJ := fun w => Lib.hid (Add_v ⟨uk, un, us⟩ ⟨vk, vn, vs⟩ hv hc w)
  dsimp only at hj ⊢
  unfold JoinTold at HJ
  rw [hj] at HJ
  clear hv hc hj
  generalize (joined sumC ⟨uk, un, us⟩ ⟨vk, vn, vs⟩).1 = j at *
  obtain ⟨jk, jn, js⟩ := j
  go_enter Tryz.func86, Tryz.ntmps86
  go_wp2_with (first | (go_at_call 104; refine ((HJ _).out).mono ?_; rintro e w' ⟨rfl, hb⟩; (have HK := Lib.hid (HK.out.on hb)); clear hb; obtain ⟨a0, a1, a2, _⟩ := cells3 HK.out.b0; obtain ⟨c0, c1, c2, c3, c4, c5, c6, c7⟩ := cells8 HK.out.b1; obtain ⟨p0, p1, p2, q0, q1, q2⟩ := cells3 HK.out.b2; obtain ⟨r0, r1, r2, s0, s1, s2⟩ := cells3 HK.out.b3; dsimp only at a0 a1 a2 c0 c1 c2 c3 c4 c5 c6 c7 p0 p1 p2 r0 r1 r2) | (go_at_call 103; refine (joined_ok ⟨_, _, _⟩ _).mono ?_; rintro e w' ⟨rfl, hb⟩; (have HK := Lib.hid (HK.out.on hb)); clear hb; (have n3 : ¬ w'.heap.size = w.heap.size + 1 + 1 + 1 := by have := heap_lt HK.out.b3; omega); (have n2 : ¬ w'.heap.size = w.heap.size + 1 + 1 := by have := heap_lt HK.out.b3; omega); (have m3 : ¬ w.heap.size + 1 + 1 + 1 = w'.heap.size := fun h => n3 h.symm); (have m2 : ¬ w.heap.size + 1 + 1 = w'.heap.size := fun h => n2 h.symm); obtain ⟨a0, a1, a2, _⟩ := cells3_on HK.out.b0; obtain ⟨c0, c1, c2, c3, c4, c5, c6, c7⟩ := cells8 HK.out.b1; obtain ⟨p0, p1, p2, q0, q1, q2⟩ := cells3_on HK.out.b2; obtain ⟨r0, r1, r2, s0, s1, s2⟩ := cells3_on HK.out.b3; dsimp only at a0 a1 a2 c0 c1 c2 c3 c4 c5 c6 c7))
  go_region
  go_wp2_with fail
  (try simp only [Exit.inBlock, Exit.then])
  refine bodyPost_ret (v := .tuple #[(V.mk jk jn js).val, (V.mk jk jn js).val]) ?_ rfl ⟨rfl, by show Beh w _; repeat' (first | with_reducible exact HK.out.beh | with_reducible exact Beh.start _ | with_reducible refine Beh.drew ?_ | with_reducible refine Beh.drewN ?_ _ | with_reducible refine Beh.alloc ?_ _ | with_reducible refine Beh.set ?_ (by omega) _ _)⟩
  rw [results_cells rfl]
  go_simp
set_option maxHeartbeats 1600000 in
set_option maxRecDepth 100000 in
theorem work_add_not (v : V) (c : Cm) (h : c.kind = 5) (hv : v.num < 18446744073709551616) (hc : c.val.num < 18446744073709551616) (hj : (joined sumC v c.val).2 ≠ 0) (w : World) : Calls Tryz.prog 86 #[v.val, c.agg] w fun e w' => e = .panicked (thrown (joined sumC v c.val).2 V.zero) ∧ Below w.heap.size w w' := by
  obtain ⟨k, key, ⟨ok, on, os⟩, ⟨vk, vn, vs⟩⟩ := c
  obtain ⟨uk, un, us⟩ := v
  obtain rfl : k = 5 := h
  have HK := Lib.hid (Wk.start w ⟨uk, un, us⟩ ⟨5, key, ⟨ok, on, os⟩, ⟨vk, vn, vs⟩⟩)
  have HJ := fun w => Lib.hid (Add_v ⟨uk, un, us⟩ ⟨vk, vn, vs⟩ hv hc w)
  dsimp only at hj ⊢
  unfold JoinTold at HJ
  clear hv hc
  generalize (joined sumC ⟨uk, un, us⟩ ⟨vk, vn, vs⟩).2 = jc at *
  generalize (joined sumC ⟨uk, un, us⟩ ⟨vk, vn, vs⟩).1 = j at *
  obtain ⟨jk, jn, js⟩ := j
  have HJN := Lib.hid hj
  clear hj
  go_enter Tryz.func86, Tryz.ntmps86
  go_wp2_with (first | (go_at_call 104; refine ((HJ _).out).mono ?_; rintro e w' ⟨rfl, hb⟩; (have HK := Lib.hid (HK.out.on hb)); clear hb; obtain ⟨a0, a1, a2, _⟩ := cells3 HK.out.b0; obtain ⟨c0, c1, c2, c3, c4, c5, c6, c7⟩ := cells8 HK.out.b1; obtain ⟨p0, p1, p2, q0, q1, q2⟩ := cells3 HK.out.b2; obtain ⟨r0, r1, r2, s0, s1, s2⟩ := cells3 HK.out.b3; dsimp only at a0 a1 a2 c0 c1 c2 c3 c4 c5 c6 c7 p0 p1 p2 r0 r1 r2) | (go_at_call 103; refine (joined_not ⟨_, _, _⟩ _ HJN.out _).mono ?_; rintro e w' ⟨rfl, hb⟩; (have HK := Lib.hid (HK.out.on hb)); clear hb))
  exact ⟨rfl, rfl, HK.out.beh⟩
set_option maxHeartbeats 1600000 in
set_option maxRecDepth 100000 in
theorem work_max (v : V) (c : Cm) (h : c.kind = 6) (hv : v.num < 18446744073709551616) (hc : c.val.num < 18446744073709551616) (hj : (joined maxF v c.val).2 = 0) (w : World) : Calls Tryz.prog 86 #[v.val, c.agg] w fun e w' => e = .returned (.tuple #[(joined maxF v c.val).1.val, (joined maxF v c.val).1.val]) ∧ Below w.heap.size w w' := by
  obtain ⟨k, key, ⟨ok, on, os⟩, ⟨vk, vn, vs⟩⟩ := c
  obtain ⟨uk, un, us⟩ := v
  obtain rfl : k = 6 := h
  have HK := Lib.hid (Wk.start w ⟨uk, un, us⟩ ⟨6, key, ⟨ok, on, os⟩, ⟨vk, vn, vs⟩⟩)
  have HJ := fun w => Lib.hid (Max_v ⟨uk, un, us⟩ ⟨vk, vn, vs⟩ hv hc w)
  dsimp only at hj ⊢
  unfold JoinTold at HJ
  rw [hj] at HJ
  clear hv hc hj
  generalize (joined maxF ⟨uk, un, us⟩ ⟨vk, vn, vs⟩).1 = j at *
  obtain ⟨jk, jn, js⟩ := j
  go_enter Tryz.func86, Tryz.ntmps86
  go_wp2_with (first | (go_at_call 105; refine ((HJ _).out).mono ?_; rintro e w' ⟨rfl, hb⟩; (have HK := Lib.hid (HK.out.on hb)); clear hb; obtain ⟨a0, a1, a2, _⟩ := cells3 HK.out.b0; obtain ⟨c0, c1, c2, c3, c4, c5, c6, c7⟩ := cells8 HK.out.b1; obtain ⟨p0, p1, p2, q0, q1, q2⟩ := cells3 HK.out.b2; obtain ⟨r0, r1, r2, s0, s1, s2⟩ := cells3 HK.out.b3; dsimp only at a0 a1 a2 c0 c1 c2 c3 c4 c5 c6 c7 p0 p1 p2 r0 r1 r2) | (go_at_call 103; refine (joined_ok ⟨_, _, _⟩ _).mono ?_; rintro e w' ⟨rfl, hb⟩; (have HK := Lib.hid (HK.out.on hb)); clear hb; (have n3 : ¬ w'.heap.size = w.heap.size + 1 + 1 + 1 := by have := heap_lt HK.out.b3; omega); (have n2 : ¬ w'.heap.size = w.heap.size + 1 + 1 := by have := heap_lt HK.out.b3; omega); (have m3 : ¬ w.heap.size + 1 + 1 + 1 = w'.heap.size := fun h => n3 h.symm); (have m2 : ¬ w.heap.size + 1 + 1 = w'.heap.size := fun h => n2 h.symm); obtain ⟨a0, a1, a2, _⟩ := cells3_on HK.out.b0; obtain ⟨c0, c1, c2, c3, c4, c5, c6, c7⟩ := cells8 HK.out.b1; obtain ⟨p0, p1, p2, q0, q1, q2⟩ := cells3_on HK.out.b2; obtain ⟨r0, r1, r2, s0, s1, s2⟩ := cells3_on HK.out.b3; dsimp only at a0 a1 a2 c0 c1 c2 c3 c4 c5 c6 c7))
  go_region
  go_wp2_with fail
  (try simp only [Exit.inBlock, Exit.then])
  refine bodyPost_ret (v := .tuple #[(V.mk jk jn js).val, (V.mk jk jn js).val]) ?_ rfl ⟨rfl, by show Beh w _; repeat' (first | with_reducible exact HK.out.beh | with_reducible exact Beh.start _ | with_reducible refine Beh.drew ?_ | with_reducible refine Beh.drewN ?_ _ | with_reducible refine Beh.alloc ?_ _ | with_reducible refine Beh.set ?_ (by omega) _ _)⟩
  rw [results_cells rfl]
  go_simp
set_option maxHeartbeats 1600000 in
set_option maxRecDepth 100000 in
theorem work_max_not (v : V) (c : Cm) (h : c.kind = 6) (hv : v.num < 18446744073709551616) (hc : c.val.num < 18446744073709551616) (hj : (joined maxF v c.val).2 ≠ 0) (w : World) : Calls Tryz.prog 86 #[v.val, c.agg] w fun e w' => e = .panicked (thrown (joined maxF v c.val).2 V.zero) ∧ Below w.heap.size w w' := by
  obtain ⟨k, key, ⟨ok, on, os⟩, ⟨vk, vn, vs⟩⟩ := c
  obtain ⟨uk, un, us⟩ := v
  obtain rfl : k = 6 := h
  have HK := Lib.hid (Wk.start w ⟨uk, un, us⟩ ⟨6, key, ⟨ok, on, os⟩, ⟨vk, vn, vs⟩⟩)
  have HJ := fun w => Lib.hid (Max_v ⟨uk, un, us⟩ ⟨vk, vn, vs⟩ hv hc w)
  dsimp only at hj ⊢
  unfold JoinTold at HJ
  clear hv hc
  generalize (joined maxF ⟨uk, un, us⟩ ⟨vk, vn, vs⟩).2 = jc at *
  generalize (joined maxF ⟨uk, un, us⟩ ⟨vk, vn, vs⟩).1 = j at *
  obtain ⟨jk, jn, js⟩ := j
  have HJN := Lib.hid hj
  clear hj
  go_enter Tryz.func86, Tryz.ntmps86
  go_wp2_with (first | (go_at_call 105; refine ((HJ _).out).mono ?_; rintro e w' ⟨rfl, hb⟩; (have HK := Lib.hid (HK.out.on hb)); clear hb; obtain ⟨a0, a1, a2, _⟩ := cells3 HK.out.b0; obtain ⟨c0, c1, c2, c3, c4, c5, c6, c7⟩ := cells8 HK.out.b1; obtain ⟨p0, p1, p2, q0, q1, q2⟩ := cells3 HK.out.b2; obtain ⟨r0, r1, r2, s0, s1, s2⟩ := cells3 HK.out.b3; dsimp only at a0 a1 a2 c0 c1 c2 c3 c4 c5 c6 c7 p0 p1 p2 r0 r1 r2) | (go_at_call 103; refine (joined_not ⟨_, _, _⟩ _ HJN.out _).mono ?_; rintro e w' ⟨rfl, hb⟩; (have HK := Lib.hid (HK.out.on hb)); clear hb))
  exact ⟨rfl, rfl, HK.out.beh⟩
end Go.Proofs.YtlgmjkbaihpmmaaGreat.Kv
end
section
/- The landed with: new pairs in which a key has a value. -/
namespace Go.Proofs.YtlgmjkbaihpmmaaGreat.Kv
open Go Go.RowKit Vl Nm Mem
attribute [local go_sem] run_bits run_frombits run_store_float

theorem concat_any2 (B0 : Nat) (a1 a2 a3 : Option Addr) (n1 n2 n3 c1 c2 c3 : Nat) (L1 L2 L3 M : List Pr) (w : World)
    (e1 : L1.length = n1) (e2 : L2.length = n2) (e3 : L3.length = n3) (eM : L1 ++ L2 ++ L3 = M)
    (hh : w.heap[B0]? = some (.cells #[.slice a1 n1 c1, .slice a2 n2 c2, .slice a3 n3 c3] 22))
    (h1 : PairsAt w a1 c1 L1) (h2 : PairsAt w a2 c2 L2) (h3 : PairsAt w a3 c3 L3) (l1 : n1 ≤ 1000) (l2 : n2 ≤ 1000) (l3 : n3 ≤ 1000) :
    Calls Tryz.prog 109 #[.slice (some ⟨B0, 0, none⟩) 3 3] w fun e w' => ∃ b' a' cap', e = .returned (.slice a' M.length cap') ∧ Made w w' b' a' cap' M := by
  subst e1 e2 e3 eM
  exact concat_any B0 a1 a2 a3 c1 c2 c3 L1 L2 L3 w hh h1 h2 h3 l1 l2 l3
theorem add_four (x : Addr) : x.add (1 * 4) = ⟨x.block, x.off + 4, none⟩ := by simp [Addr.add]
theorem PairsAt.void (w : World) (ad : Addr) (c : Nat) (hc : c ≤ 9223372036854775807) : PairsAt w (some ad) c [] := ⟨Nat.zero_le _, hc, fun h => (by cases h), fun h => by simp at h⟩
theorem set_of {L : List Pr} (hp : L.Pairwise (fun p q => klt p.key q.key)) {key : ByteArray} {n : Nat} {f : Bool} (h : Stands L key n f) (v : V) :
    set L key v = L.take n ++ (if v.kind = 0 then [] else [⟨key, v⟩]) ++ (if f = true then L.drop (n + 1) else L.drop n) := by
  obtain ⟨h1, h2, h3⟩ := cut_set hp h.le h.lt h.ge
  unfold set
  rw [← h1]
  cases f
  · rw [if_neg (by decide : ¬ (false = true))]
    rw [h3 (fun hn he => by have := h.found.2 ⟨hn, he⟩; cases this)]
  · rw [if_pos rfl]
    obtain ⟨hn, he⟩ := h.found.1 rfl
    rw [h2 hn he]
/-- a pair in a block of its own -/
theorem one_pair {w : World} {b : Nat} {p : Pr} (h : w.heap[b]? = some p.obj) : PairsAt w (some ⟨b, 0, none⟩) 1 [p] := by
  refine ⟨Nat.le_refl _, by omega, fun h => (by cases h), fun _ => ⟨b, 0, rfl, fun i hi => ?_⟩⟩
  obtain rfl : i = 0 := by simp at hi; omega
  obtain ⟨h0, h1, h2, h3⟩ := cells4 h
  exact ⟨h0, h1, h2, h3⟩
set_option maxHeartbeats 3200000 in
set_option maxRecDepth 100000 in
theorem with_ok (a : Option Addr) (cap : Nat) (L : List Pr) (key : ByteArray) (v : V) (w : World) (h : PairsAt w a cap L) (hp : L.Pairwise (fun p q => klt p.key q.key)) (hl : L.length ≤ 32) (hm : (set L key v).length ≤ 32) :
    Calls Tryz.prog 88 #[.slice a L.length cap, .string key, v.val] w fun e w' => ∃ b' a' cap', e = .returned (.slice a' (set L key v).length cap') ∧ Made w w' b' a' cap' (set L key v) := by
  have HI := Lib.hid h
  have HP := Lib.hid hp
  have hlc := h.len
  have hmax := h.max
  have HA := Lib.hid (alloc_here (w := w) (Vobj v) rfl)
  have HB := Lib.hid ((Beh.start w).alloc (Vobj v))
  have HSO : Hid (∀ n f, Stands L key n f → set L key v = L.take n ++ (if v.kind = 0 then [] else [⟨key, v⟩]) ++ (if f = true then L.drop (n + 1) else L.drop n)) := fun n f hst => set_of hp hst v
  clear h hp
  generalize set L key v = M at *
  have HM := Lib.hid hm
  have d32 : decide ((32 : Int) < (M.length : Int)) = false := decide_eq_false (by omega)
  clear hm
  obtain ⟨vk, vn, vs⟩ := v
  unfold Vobj at HA HB
  dsimp only at HSO
  cases a with
  | none =>
    obtain ⟨hL, hc0⟩ := HI.out.bare
    subst hL hc0
    simp only [List.length_nil] at *
    go_enter Tryz.func88, Tryz.ntmps88
    go_wp2_with fail
    refine Calls.mono (search_any none 0 [] _ _ (by exact HI.out.alloc _) HP.out (by simp)) ?_
    rintro e w1 ⟨n, f, rfl, hst, hb⟩
    obtain rfl : n = 0 := by have := hst.le; simp at this; exact this
    obtain rfl : f = false := by cases f; rfl; have := (hst.found.1 rfl).1; simp at this
    have HSET := Lib.hid (HSO.out _ _ hst)
    have HA1 := Lib.hid (box_on HA.out hb)
    have HB1 := Lib.hid (HB.out.on hb)
    obtain ⟨a0, a1, a2, _⟩ := cells3 HA1.out
    clear hb hst
    by_cases hk0 : vk = 0
    · have hk := int_bne hk0
      have hS : Hid (([] : List Pr) ++ [] ++ [] = M) := by show _ = _; rw [HSET.out, if_pos hk0]; simp
      clear hk0
      go_wp2_with fail
      refine Calls.mono (concat_any2 _ none none none 0 0 0 0 0 0 [] [] [] M _ rfl rfl rfl hS.out (by exact alloc_here _ rfl) (PairsAt.empty _) (PairsAt.empty _) (PairsAt.empty _) (by omega) (by first | omega | simp) (by omega)) ?_
      rintro e w2 ⟨b', a', cap', rfl, hmade⟩
      have HMD := Lib.hid ((hmade.from (Beh.start _ |>.alloc _)).from HB1.out)
      clear hmade
      go_wp2_with fail
      go_ret
      exact ⟨b', a', cap', rfl, HMD.out⟩
    · have hk := int_nbne hk0
      have hS : Hid (([] : List Pr) ++ [⟨key, ⟨vk, vn, vs⟩⟩] ++ [] = M) := by show _ = _; rw [HSET.out, if_neg hk0]; simp
      clear hk0
      go_wp2_with fail
      refine Calls.mono (concat_any2 _ none (some ⟨w1.heap.size, 0, none⟩) none 0 1 0 0 1 0 [] [⟨key, ⟨vk, vn, vs⟩⟩] [] M _ rfl rfl rfl hS.out (by exact alloc_here _ (by simp)) (PairsAt.empty _) (by exact one_pair (old_alloc _ (alloc_here _ rfl))) (PairsAt.empty _) (by omega) (by first | omega | simp) (by omega)) ?_
      rintro e w2 ⟨b', a', cap', rfl, hmade⟩
      have HMD := Lib.hid ((hmade.from (Beh.start _ |>.alloc _ |>.alloc _)).from HB1.out)
      clear hmade
      go_wp2_with fail
      go_ret
      exact ⟨b', a', cap', rfl, HMD.out⟩
  | some ad =>
    go_enter Tryz.func88, Tryz.ntmps88
    go_wp2_with fail
    refine Calls.mono (search_any _ _ _ _ _ (by exact HI.out.alloc _) HP.out (by omega)) ?_
    rintro e w1 ⟨n, f, rfl, hst, hb⟩
    have HST := Lib.hid hst
    have hn := hst.le
    have HSET := Lib.hid (HSO.out _ _ hst)
    have HA1 := Lib.hid (box_on HA.out hb)
    have HB1 := Lib.hid (HB.out.on hb)
    have HI1 := Lib.hid (HI.out.below HB1.out.below)
    obtain ⟨a0, a1, a2, _⟩ := cells3 HA1.out
    clear hb hst
    -- what stands behind the key
    obtain ⟨C, a3, n3, c3, HC3, HP3, hn3, HE3⟩ : ∃ (C : List Pr) (a3 : Addr) (n3 c3 : Nat), Hid (C.length = n3) ∧ Hid (PairsAt w1 (some a3) c3 C) ∧ n3 ≤ 32 ∧
        Hid ((f = false ∧ cap = n ∧ a3 = ad ∧ n3 = 0 ∧ c3 = 0 ∧ L.drop n = C) ∨ (f = false ∧ cap ≠ n ∧ a3 = ad.add (n * 4) ∧ n3 = L.length - n ∧ c3 = cap - n ∧ L.drop n = C)
          ∨ (f = true ∧ cap - n = 1 ∧ a3 = ad.add (n * 4) ∧ n3 = L.length - n - 1 ∧ c3 = 0 ∧ L.drop (n + 1) = C) ∨ (f = true ∧ cap - n ≠ 1 ∧ a3 = ⟨(ad.add (n * 4)).block, (ad.add (n * 4)).off + 4, none⟩ ∧ n3 = L.length - n - 1 ∧ c3 = cap - n - 1 ∧ L.drop (n + 1) = C)) := by
      cases f
      · by_cases hcn : cap = n
        · exact ⟨[], ad, 0, 0, rfl, PairsAt.void _ _ _ (by omega), by omega, .inl ⟨rfl, hcn, rfl, rfl, rfl, List.drop_eq_nil_of_le (by omega)⟩⟩
        · exact ⟨L.drop n, ad.add (n * 4), L.length - n, cap - n, by show _ = _; simp, HI1.out.drop hn, by omega, .inr (.inl ⟨rfl, hcn, rfl, rfl, rfl, rfl⟩)⟩
      · have hn1 : n < L.length := (HST.out.found.1 rfl).1
        by_cases hcn : cap - n = 1
        · exact ⟨[], ad.add (n * 4), L.length - n - 1, 0, by show 0 = _; omega, PairsAt.void _ _ _ (by omega), by omega, .inr (.inr (.inl ⟨rfl, hcn, rfl, rfl, rfl, List.drop_eq_nil_of_le (by omega)⟩))⟩
        · refine ⟨L.drop (n + 1), ⟨(ad.add (n * 4)).block, (ad.add (n * 4)).off + 4, none⟩, L.length - n - 1, cap - n - 1, by show _ = _; simp; omega, ?_, by omega, .inr (.inr (.inr ⟨rfl, hcn, rfl, rfl, rfl, rfl⟩))⟩
          have := (HI1.out.drop hn).drop (n := 1) (by rw [List.length_drop]; omega)
          rw [List.drop_drop] at this
          rw [← add_four]
          exact this
    have HPT := Lib.hid (HI1.out.take hn)
    have HTL : Hid ((L.take n).length = n) := by show _ = _; rw [List.length_take]; omega
    have HFN : Hid (f = true → n < L.length) := fun h => (HST.out.found.1 h).1
    have HE4 := HE3.out
    clear HE3
    rcases HE4 with ⟨rfl, hcn, ha3, hn3', hc3, hC⟩ | ⟨rfl, hcn, ha3, hn3', hc3, hC⟩ | ⟨rfl, hcn, ha3, hn3', hc3, hC⟩ | ⟨rfl, hcn, ha3, hn3', hc3, hC⟩
    case' inr.inr.inl | inr.inr.inr =>
      have hn1 : n < L.length := HFN.out rfl
      have hcn0 : ¬ cap = n := by omega
      have hone : (1 : Int) ≤ ((L.length - n : Nat) : Int) := by omega
      replace HSET := Lib.hid (HSET.out.trans (by rw [if_pos rfl, hC]))
    case' inl =>
      replace hcn := hcn.symm
      subst hcn
    case' inl | inr.inl =>
      replace HSET := Lib.hid (HSET.out.trans (by rw [if_neg (fun h : false = true => by cases h), hC]))
    all_goals
      clear hC
      obtain ⟨b, off, spot⟩ := ad
      subst ha3 hn3' hc3
      by_cases hk0 : vk = 0
      · have hk := int_bne hk0
        have hS : Hid (L.take n ++ [] ++ C = M) := by show _ = _; rw [HSET.out, if_pos hk0]
        clear hk0
        go_wp2_with fail
        refine Calls.mono (concat_any2 _ _ _ _ _ _ _ _ _ _ (L.take n) [] C M _ HTL.out rfl HC3.out hS.out (by exact alloc_here _ rfl) (by exact HPT.out.alloc _) (PairsAt.empty _) (by exact HP3.out.alloc _) (by omega) (by first | omega | simp) (by omega)) ?_
        rintro e w2 ⟨b', a', cap', rfl, hmade⟩
        have HMD := Lib.hid ((hmade.from (Beh.start _ |>.alloc _)).from HB1.out)
        clear hmade
        go_wp2_with fail
        go_ret
        exact ⟨b', a', cap', rfl, HMD.out⟩
      · have hk := int_nbne hk0
        have hS : Hid (L.take n ++ [⟨key, ⟨vk, vn, vs⟩⟩] ++ C = M) := by show _ = _; rw [HSET.out, if_neg hk0]
        clear hk0
        go_wp2_with fail
        refine Calls.mono (concat_any2 _ _ _ _ _ _ _ _ _ _ (L.take n) [⟨key, ⟨vk, vn, vs⟩⟩] C M _ HTL.out rfl HC3.out hS.out (by exact alloc_here _ (by simp)) (by exact (HPT.out.alloc _).alloc _) (by exact one_pair (old_alloc _ (alloc_here _ rfl))) (by exact (HP3.out.alloc _).alloc _) (by omega) (by first | omega | simp) (by omega)) ?_
        rintro e w2 ⟨b', a', cap', rfl, hmade⟩
        have HMD := Lib.hid ((hmade.from (Beh.start _ |>.alloc _ |>.alloc _)).from HB1.out)
        clear hmade
        go_wp2_with fail
        go_ret
        exact ⟨b', a', cap', rfl, HMD.out⟩
set_option maxHeartbeats 3200000 in
set_option maxRecDepth 100000 in
theorem with_full (a : Option Addr) (cap : Nat) (L : List Pr) (key : ByteArray) (v : V) (w : World) (h : PairsAt w a cap L) (hp : L.Pairwise (fun p q => klt p.key q.key)) (hl : L.length ≤ 32) (hm : 32 < (set L key v).length) :
    Calls Tryz.prog 88 #[.slice a L.length cap, .string key, v.val] w fun e w' => e = .panicked (thrown 5 V.zero) ∧ Beh w w' := by
  have HI := Lib.hid h
  have HP := Lib.hid hp
  have hlc := h.len
  have hmax := h.max
  have HA := Lib.hid (alloc_here (w := w) (Vobj v) rfl)
  have HB := Lib.hid ((Beh.start w).alloc (Vobj v))
  have HSO : Hid (∀ n f, Stands L key n f → set L key v = L.take n ++ (if v.kind = 0 then [] else [⟨key, v⟩]) ++ (if f = true then L.drop (n + 1) else L.drop n)) := fun n f hst => set_of hp hst v
  clear h hp
  generalize set L key v = M at *
  have HM := Lib.hid hm
  have d32 : decide ((32 : Int) < (M.length : Int)) = true := decide_eq_true (by omega)
  clear hm
  obtain ⟨vk, vn, vs⟩ := v
  unfold Vobj at HA HB
  dsimp only at HSO
  cases a with
  | none =>
    obtain ⟨hL, hc0⟩ := HI.out.bare
    subst hL hc0
    simp only [List.length_nil] at *
    go_enter Tryz.func88, Tryz.ntmps88
    go_wp2_with fail
    refine Calls.mono (search_any none 0 [] _ _ (by exact HI.out.alloc _) HP.out (by simp)) ?_
    rintro e w1 ⟨n, f, rfl, hst, hb⟩
    obtain rfl : n = 0 := by have := hst.le; simp at this; exact this
    obtain rfl : f = false := by cases f; rfl; have := (hst.found.1 rfl).1; simp at this
    have HSET := Lib.hid (HSO.out _ _ hst)
    have HA1 := Lib.hid (box_on HA.out hb)
    have HB1 := Lib.hid (HB.out.on hb)
    obtain ⟨a0, a1, a2, _⟩ := cells3 HA1.out
    clear hb hst
    by_cases hk0 : vk = 0
    · have hk := int_bne hk0
      have hS : Hid (([] : List Pr) ++ [] ++ [] = M) := by show _ = _; rw [HSET.out, if_pos hk0]; simp
      clear hk0
      go_wp2_with fail
      refine Calls.mono (concat_any2 _ none none none 0 0 0 0 0 0 [] [] [] M _ rfl rfl rfl hS.out (by exact alloc_here _ rfl) (PairsAt.empty _) (PairsAt.empty _) (PairsAt.empty _) (by omega) (by first | omega | simp) (by omega)) ?_
      rintro e w2 ⟨b', a', cap', rfl, hmade⟩
      have HMD := Lib.hid ((hmade.from (Beh.start _ |>.alloc _)).from HB1.out)
      clear hmade
      go_wp2_with fail
      exact ⟨rfl, rfl, HMD.out.beh⟩
    · have hk := int_nbne hk0
      have hS : Hid (([] : List Pr) ++ [⟨key, ⟨vk, vn, vs⟩⟩] ++ [] = M) := by show _ = _; rw [HSET.out, if_neg hk0]; simp
      clear hk0
      go_wp2_with fail
      refine Calls.mono (concat_any2 _ none (some ⟨w1.heap.size, 0, none⟩) none 0 1 0 0 1 0 [] [⟨key, ⟨vk, vn, vs⟩⟩] [] M _ rfl rfl rfl hS.out (by exact alloc_here _ (by simp)) (PairsAt.empty _) (by exact one_pair (old_alloc _ (alloc_here _ rfl))) (PairsAt.empty _) (by omega) (by first | omega | simp) (by omega)) ?_
      rintro e w2 ⟨b', a', cap', rfl, hmade⟩
      have HMD := Lib.hid ((hmade.from (Beh.start _ |>.alloc _ |>.alloc _)).from HB1.out)
      clear hmade
      go_wp2_with fail
      exact ⟨rfl, rfl, HMD.out.beh⟩
  | some ad =>
    go_enter Tryz.func88, Tryz.ntmps88
    go_wp2_with fail
    refine Calls.mono (search_any _ _ _ _ _ (by exact HI.out.alloc _) HP.out (by omega)) ?_
    rintro e w1 ⟨n, f, rfl, hst, hb⟩
    have HST := Lib.hid hst
    have hn := hst.le
    have HSET := Lib.hid (HSO.out _ _ hst)
    have HA1 := Lib.hid (box_on HA.out hb)
    have HB1 := Lib.hid (HB.out.on hb)
    have HI1 := Lib.hid (HI.out.below HB1.out.below)
    obtain ⟨a0, a1, a2, _⟩ := cells3 HA1.out
    clear hb hst
    -- what stands behind the key
    obtain ⟨C, a3, n3, c3, HC3, HP3, hn3, HE3⟩ : ∃ (C : List Pr) (a3 : Addr) (n3 c3 : Nat), Hid (C.length = n3) ∧ Hid (PairsAt w1 (some a3) c3 C) ∧ n3 ≤ 32 ∧
        Hid ((f = false ∧ cap = n ∧ a3 = ad ∧ n3 = 0 ∧ c3 = 0 ∧ L.drop n = C) ∨ (f = false ∧ cap ≠ n ∧ a3 = ad.add (n * 4) ∧ n3 = L.length - n ∧ c3 = cap - n ∧ L.drop n = C)
          ∨ (f = true ∧ cap - n = 1 ∧ a3 = ad.add (n * 4) ∧ n3 = L.length - n - 1 ∧ c3 = 0 ∧ L.drop (n + 1) = C) ∨ (f = true ∧ cap - n ≠ 1 ∧ a3 = ⟨(ad.add (n * 4)).block, (ad.add (n * 4)).off + 4, none⟩ ∧ n3 = L.length - n - 1 ∧ c3 = cap - n - 1 ∧ L.drop (n + 1) = C)) := by
      cases f
      · by_cases hcn : cap = n
        · exact ⟨[], ad, 0, 0, rfl, PairsAt.void _ _ _ (by omega), by omega, .inl ⟨rfl, hcn, rfl, rfl, rfl, List.drop_eq_nil_of_le (by omega)⟩⟩
        · exact ⟨L.drop n, ad.add (n * 4), L.length - n, cap - n, by show _ = _; simp, HI1.out.drop hn, by omega, .inr (.inl ⟨rfl, hcn, rfl, rfl, rfl, rfl⟩)⟩
      · have hn1 : n < L.length := (HST.out.found.1 rfl).1
        by_cases hcn : cap - n = 1
        · exact ⟨[], ad.add (n * 4), L.length - n - 1, 0, by show 0 = _; omega, PairsAt.void _ _ _ (by omega), by omega, .inr (.inr (.inl ⟨rfl, hcn, rfl, rfl, rfl, List.drop_eq_nil_of_le (by omega)⟩))⟩
        · refine ⟨L.drop (n + 1), ⟨(ad.add (n * 4)).block, (ad.add (n * 4)).off + 4, none⟩, L.length - n - 1, cap - n - 1, by show _ = _; simp; omega, ?_, by omega, .inr (.inr (.inr ⟨rfl, hcn, rfl, rfl, rfl, rfl⟩))⟩
          have := (HI1.out.drop hn).drop (n := 1) (by rw [List.length_drop]; omega)
          rw [List.drop_drop] at this
          rw [← add_four]
          exact this
    have HPT := Lib.hid (HI1.out.take hn)
    have HTL : Hid ((L.take n).length = n) := by show _ = _; rw [List.length_take]; omega
    have HFN : Hid (f = true → n < L.length) := fun h => (HST.out.found.1 h).1
    have HE4 := HE3.out
    clear HE3
    rcases HE4 with ⟨rfl, hcn, ha3, hn3', hc3, hC⟩ | ⟨rfl, hcn, ha3, hn3', hc3, hC⟩ | ⟨rfl, hcn, ha3, hn3', hc3, hC⟩ | ⟨rfl, hcn, ha3, hn3', hc3, hC⟩
    case' inr.inr.inl | inr.inr.inr =>
      have hn1 : n < L.length := HFN.out rfl
      have hcn0 : ¬ cap = n := by omega
      have hone : (1 : Int) ≤ ((L.length - n : Nat) : Int) := by omega
      replace HSET := Lib.hid (HSET.out.trans (by rw [if_pos rfl, hC]))
    case' inl =>
      replace hcn := hcn.symm
      subst hcn
    case' inl | inr.inl =>
      replace HSET := Lib.hid (HSET.out.trans (by rw [if_neg (fun h : false = true => by cases h), hC]))
    all_goals
      clear hC
      obtain ⟨b, off, spot⟩ := ad
      subst ha3 hn3' hc3
      by_cases hk0 : vk = 0
      · have hk := int_bne hk0
        have hS : Hid (L.take n ++ [] ++ C = M) := by show _ = _; rw [HSET.out, if_pos hk0]
        clear hk0
        go_wp2_with fail
        refine Calls.mono (concat_any2 _ _ _ _ _ _ _ _ _ _ (L.take n) [] C M _ HTL.out rfl HC3.out hS.out (by exact alloc_here _ rfl) (by exact HPT.out.alloc _) (PairsAt.empty _) (by exact HP3.out.alloc _) (by omega) (by first | omega | simp) (by omega)) ?_
        rintro e w2 ⟨b', a', cap', rfl, hmade⟩
        have HMD := Lib.hid ((hmade.from (Beh.start _ |>.alloc _)).from HB1.out)
        clear hmade
        go_wp2_with fail
        exact ⟨rfl, rfl, HMD.out.beh⟩
      · have hk := int_nbne hk0
        have hS : Hid (L.take n ++ [⟨key, ⟨vk, vn, vs⟩⟩] ++ C = M) := by show _ = _; rw [HSET.out, if_neg hk0]
        clear hk0
        go_wp2_with fail
        refine Calls.mono (concat_any2 _ _ _ _ _ _ _ _ _ _ (L.take n) [⟨key, ⟨vk, vn, vs⟩⟩] C M _ HTL.out rfl HC3.out hS.out (by exact alloc_here _ (by simp)) (by exact (HPT.out.alloc _).alloc _) (by exact one_pair (old_alloc _ (alloc_here _ rfl))) (by exact (HP3.out.alloc _).alloc _) (by omega) (by first | omega | simp) (by omega)) ?_
        rintro e w2 ⟨b', a', cap', rfl, hmade⟩
        have HMD := Lib.hid ((hmade.from (Beh.start _ |>.alloc _ |>.alloc _)).from HB1.out)
        clear hmade
        go_wp2_with fail
        exact ⟨rfl, rfl, HMD.out.beh⟩
end Go.Proofs.YtlgmjkbaihpmmaaGreat.Kv
end
section
/- The reference's set. -/
namespace Go.Proofs.YtlgmjkbaihpmmaaGreat.Kv
open Go Go.RowKit Vl Nm Mem
attribute [local go_sem] run_bits run_frombits run_store_float

/-- has a pair been met whose key is not smaller? -/
def met (L : List Pr) (key : ByteArray) (k : Nat) : Bool := (L.take k).any (fun p => !decide (klt p.key key))
/-- what is laid, behind k pairs -/
def laid (L : List Pr) (key : ByteArray) (v : V) (k : Nat) : List Pr :=
  (L.take k).filter (fun p => decide (klt p.key key)) ++ (if v.kind = 0 then [] else if met L key k = true then [⟨key, v⟩] else []) ++ (L.take k).filter (fun p => decide (klt key p.key))
def doneB (L : List Pr) (key : ByteArray) (v : V) (k : Nat) : Bool := decide (v.kind = 0) || met L key k
theorem laid_zero (L : List Pr) (key : ByteArray) (v : V) : laid L key v 0 = [] := by simp [laid, met]
theorem done_zero (L : List Pr) (key : ByteArray) (v : V) : doneB L key v 0 = (v.kind == 0) := by
  unfold doneB met; simp; rw [Bool.eq_iff_iff]; simp
theorem laid_end (L : List Pr) (key : ByteArray) (v : V) (hd : doneB L key v L.length = true) : laid L key v L.length = set L key v := by
  unfold laid set
  rw [List.take_length]
  congr 2
  split
  · rfl
  · rename_i h
    unfold doneB at hd
    rw [decide_eq_false h, Bool.false_or] at hd
    rw [if_pos hd]
theorem gt_nil {L : List Pr} {key : ByteArray} {k : Nat} (hm : met L key k = false) : (L.take k).filter (fun p => decide (klt key p.key)) = [] := by
  rw [List.filter_eq_nil_iff]
  intro p hp'
  unfold met at hm
  have := List.any_eq_false.1 hm p hp'
  have h2 : klt p.key key := by simpa using this
  simpa using klt_asymm h2
theorem laid_fin (L : List Pr) (key : ByteArray) (v : V) (hd : doneB L key v L.length = false) : laid L key v L.length ++ [⟨key, v⟩] = set L key v := by
  unfold doneB at hd
  rw [Bool.or_eq_false_iff] at hd
  have h0 : v.kind ≠ 0 := of_decide_eq_false hd.1
  have hg := gt_nil hd.2
  unfold laid set
  rw [hd.2, if_neg h0, if_neg h0]
  rw [List.take_length] at hg ⊢
  rw [hg]
  simp
theorem met_next {L : List Pr} {key : ByteArray} {k : Nat} (hk : k < L.length) : met L key (k + 1) = (met L key k || !decide (klt (L.getD k Pr.zero).key key)) := by
  unfold met; rw [take_next hk, List.any_append]; simp
/-- a smaller key: it is laid, the rest stands -/
theorem laid_lt {L : List Pr} (hp : L.Pairwise (fun p q => klt p.key q.key)) {key : ByteArray} {v : V} {k : Nat} (hk : k < L.length) (h : klt (L.getD k Pr.zero).key key) :
    laid L key v (k + 1) = laid L key v k ++ [L.getD k Pr.zero] ∧ doneB L key v (k + 1) = doneB L key v k := by
  have hmn : met L key (k + 1) = met L key k := by rw [met_next hk, decide_eq_true h]; simp
  have hm : met L key k = false := by
    unfold met
    rw [List.any_eq_false]
    intro p hp'
    obtain ⟨i, hi, rfl⟩ := List.mem_iff_getElem.1 hp'
    rw [List.length_take] at hi
    rw [List.getElem_take]
    have := List.pairwise_iff_getElem.1 hp i k (by omega) hk (by omega)
    rw [getD_lt hk] at h
    simpa using klt_trans this h
  refine ⟨?_, by unfold doneB; rw [hmn]⟩
  have hg := gt_nil hm
  unfold laid
  rw [hmn, hm, take_next hk, List.filter_append, List.filter_append, hg]
  have e1 : [L.getD k Pr.zero].filter (fun p => decide (klt p.key key)) = [L.getD k Pr.zero] := by rw [List.filter_cons, if_pos (decide_eq_true h)]; rfl
  have e2 : [L.getD k Pr.zero].filter (fun p => decide (klt key p.key)) = [] := by rw [List.filter_cons, if_neg (by simpa using klt_asymm h)]; rfl
  rw [e1, e2]
  simp
/-- no smaller key: the new pair is laid, where it is not yet -/
def laidNow (L : List Pr) (key : ByteArray) (v : V) (k : Nat) : List Pr := if doneB L key v k = true then laid L key v k else laid L key v k ++ [⟨key, v⟩]
theorem laid_ge {L : List Pr} {key : ByteArray} {v : V} {k : Nat} (hk : k < L.length) (h : ¬ klt (L.getD k Pr.zero).key key) :
    laid L key v (k + 1) = laidNow L key v k ++ (if (L.getD k Pr.zero).key = key then [] else [L.getD k Pr.zero]) ∧ doneB L key v (k + 1) = true := by
  have hmn : met L key (k + 1) = true := by rw [met_next hk, decide_eq_false h]; simp
  refine ⟨?_, by unfold doneB; rw [hmn]; simp⟩
  have e1 : [L.getD k Pr.zero].filter (fun p => decide (klt p.key key)) = [] := by rw [List.filter_cons, if_neg (by simpa using h)]; rfl
  have e2 : [L.getD k Pr.zero].filter (fun p => decide (klt key p.key)) = (if (L.getD k Pr.zero).key = key then [] else [L.getD k Pr.zero]) := by
    rw [List.filter_cons]
    rcases klt_three (L.getD k Pr.zero).key key with h2 | h2 | h2
    · exact absurd h2 h
    · rw [if_pos h2, h2, if_neg (by simpa using klt_irrefl key)]; rfl
    · rw [if_pos (decide_eq_true h2), if_neg (klt_ne h2).symm]; rfl
  have el : laid L key v (k + 1) = (L.take k).filter (fun p => decide (klt p.key key)) ++ (if v.kind = 0 then [] else [⟨key, v⟩]) ++ ((L.take k).filter (fun p => decide (klt key p.key)) ++ (if (L.getD k Pr.zero).key = key then [] else [L.getD k Pr.zero])) := by
    unfold laid
    rw [hmn, take_next hk, List.filter_append, List.filter_append, e1, e2]
    simp
  rw [el]
  unfold laidNow
  cases hd : doneB L key v k
  · rw [if_neg Bool.false_ne_true]
    unfold doneB at hd
    rw [Bool.or_eq_false_iff] at hd
    have h0 : v.kind ≠ 0 := of_decide_eq_false hd.1
    have hg := gt_nil hd.2
    unfold laid
    rw [hd.2, hg]
    simp [h0]
  · rw [if_pos rfl]
    unfold laid
    unfold doneB at hd
    by_cases h0 : v.kind = 0
    · rw [if_pos h0, if_pos h0]; simp
    · rw [decide_eq_false h0, Bool.false_or] at hd
      rw [if_neg h0, if_neg h0, hd]; simp
theorem laid_len (L : List Pr) (key : ByteArray) (v : V) (k : Nat) : (laid L key v k).length ≤ 2 * L.length + 1 := by
  unfold laid
  simp only [List.length_append]
  have h1 := List.length_filter_le (fun p : Pr => decide (klt p.key key)) (L.take k)
  have h2 := List.length_filter_le (fun p : Pr => decide (klt key p.key)) (L.take k)
  rw [List.length_take] at h1 h2
  have h3 : (if v.kind = 0 then ([] : List Pr) else if met L key k = true then [⟨key, v⟩] else []).length ≤ 1 := by split; simp; split <;> simp
  omega
/-- the test of a round: is the key not greater than this one -/
theorem le_told (s t : ByteArray) : Op.bytesLess s.toList t.toList = decide (klt s t) := text_lt s t
theorem Made.alloc {w0 w : World} {b : Nat} {a : Option Addr} {cap : Nat} {L : List Pr} (m : Made w0 w b a cap L) (o : Obj) : Made w0 (w.alloc o) b a cap L :=
  ⟨OwnC.kept m.own ((Kept.refl Mem.None _).alloc _) (fun _ h => h), m.new, m.beh.alloc o⟩
set_option maxHeartbeats 3200000 in
set_option maxRecDepth 100000 in
theorem refSet_any (a : Option Addr) (cap : Nat) (L : List Pr) (key : ByteArray) (v : V) (w : World) (h : PairsAt w a cap L) (hp : L.Pairwise (fun p q => klt p.key q.key)) (hl : L.length ≤ 32) :
    Calls Tryz.prog 97 #[.slice a L.length cap, .string key, v.val] w fun e w' => ∃ b' a' cap', e = .returned (.slice a' (set L key v).length cap') ∧ Made w w' b' a' cap' (set L key v) := by
  have HI := Lib.hid h
  have HA0 := Lib.hid (alloc_here (w := w) (Vobj v) rfl)
  have HB0 := Lib.hid ((Beh.start w).alloc (Vobj v))
  have HLT : Hid (∀ k, k < L.length → klt (L.getD k Pr.zero).key key → laid L key v (k + 1) = laid L key v k ++ [L.getD k Pr.zero] ∧ doneB L key v (k + 1) = doneB L key v k) := fun k hk h => laid_lt hp hk h
  have HGE : Hid (∀ k, k < L.length → ¬ klt (L.getD k Pr.zero).key key → laid L key v (k + 1) = laidNow L key v k ++ (if (L.getD k Pr.zero).key = key then [] else [L.getD k Pr.zero]) ∧ doneB L key v (k + 1) = true) := fun k hk h => laid_ge hk h
  have HLL := Lib.hid (laid_len L key v)
  have HE1 := Lib.hid (laid_end L key v)
  have HE2 := Lib.hid (laid_fin L key v)
  have HZ := Lib.hid (laid_zero L key v)
  have HDZ := Lib.hid (done_zero L key v)
  have HNOW : Hid (∀ k d, doneB L key v k = d → laidNow L key v k = if d = true then laid L key v k else laid L key v k ++ [⟨key, v⟩]) := fun k d hd => by unfold laidNow; rw [hd]
  clear h hp
  obtain ⟨vk, vn, vs⟩ := v
  unfold Vobj at HA0 HB0
  dsimp only at HDZ
  generalize hlaid : laid L key ⟨vk, vn, vs⟩ = LD at *
  generalize hdone : doneB L key ⟨vk, vn, vs⟩ = DN at *
  generalize hnow : laidNow L key ⟨vk, vn, vs⟩ = NW at *
  clear hlaid hdone hnow
  have HV : Hid (∀ wq, Beh (w.alloc (.cells #[.int .i64 vk, .float .f64 vn, .string vs] 50)) wq → wq.heap[w.heap.size]? = some (.cells #[.int .i64 vk, .float .f64 vn, .string vs] 50)) := fun wq hq => hq.box HA0.out
  have HI1 := Lib.hid (HI.out.alloc (.cells #[.int .i64 vk, .float .f64 vn, .string vs] 50))
  clear HA0
  have hl0 : Hid ((LD 0).length = 0) := by show _ = _; rw [HZ.out]; rfl
  obtain ⟨d0, hd0⟩ : ∃ d, (vk == 0) = d := ⟨_, rfl⟩
  rw [hd0] at HDZ
  go_enter Tryz.func97, Tryz.ntmps97
  go_wp2
  go_loopw [7, 8, 9] (fun s d i wr => ∃ (k b : Nat) (a' : Option Addr) (cap' : Nat) (n : Nat), k ≤ L.length ∧ i = .int .i64 k ∧ d = .bool (DN k) ∧ s = .slice a' n cap' ∧ Hid (n = (LD k).length) ∧ Hid (Made (w.alloc (.cells #[.int .i64 vk, .float .f64 vn, .string vs] 50)) wr b a' cap' (LD k))) (fun _ _ i _ => L.length - (intOf i).toNat)
  case atStart => exact ⟨0, w.heap.size + 1, none, 0, 0, by omega, rfl, by rw [HDZ.out], rfl, hl0.out.symm, by show Made _ _ _ _ _ _; rw [HZ.out]; exact ⟨OwnC.nil _ _ _ _, by simp, Beh.start _⟩⟩
  case round =>
    obtain ⟨k, b, a', cap', n, hk, rfl, rfl, rfl, hn, HM⟩ := hrel
    have hn2 := hn.out
    subst hn2
    have hn70 : (LD k).length ≤ 65 := by have := HLL.out k; omega
    obtain ⟨v0, v1, v2, _⟩ := cells3 (HV.out _ HM.out.beh)
    by_cases hlt : k < L.length
    · obtain ⟨ab, off, rfl, hc⟩ := (HI1.out.below HM.out.beh).at_ (by omega)
      have HPK : Hid (∀ wq, Beh (w.alloc (.cells #[.int .i64 vk, .float .f64 vn, .string vs] 50)) wq → (L.getD k Pr.zero).at_ wq ab (off + k * 4)) := fun wq hq => by
        obtain ⟨_, _, he, hc⟩ := (HI1.out.below hq.below).at_ (by omega)
        cases he
        exact hc k hlt
      clear hc
      have H1 := Lib.hid (HLT.out k hlt)
      have H2 := Lib.hid (HGE.out k hlt)
      generalize L.getD k Pr.zero = p at *
      obtain ⟨ley, ⟨uk, un, us⟩⟩ := p
      obtain ⟨h1, h2, h3, h4⟩ := HPK.out _ HM.out.beh
      have HT := Lib.hid (le_told ley key)
      have HKT := Lib.hid (key_test ley key)
      obtain ⟨d, hd⟩ : ∃ d, DN k = d := ⟨_, rfl⟩
      have HN := Lib.hid (HNOW.out k d hd)
      rw [hd]
      have HD := Lib.hid hd
      clear hd
      cases t : Op.bytesLess ley.toList key.toList
      case true =>
        have hkl : klt ley key := by have := HT.out; rw [t] at this; exact of_decide_eq_true this.symm
        have hne : (ley.toList != key.toList) = true := by rw [bne, HKT.out, decide_eq_false (klt_ne hkl)]; rfl
        have HK := Lib.hid (H1.out hkl)
        have e : (ley.toList == key.toList) = false := by rw [key_test]; exact decide_eq_false (klt_ne hkl)
        have f1 : Op.bytesLess key.toList ley.toList = false := by rw [le_told]; exact decide_eq_false (klt_asymm hkl)
        have f2 : (key.toList == ley.toList) = false := by rw [key_test]; exact decide_eq_false (klt_ne hkl).symm
        clear hkl
        cases d
        all_goals
          go_wp2_with (at_builtin; refine wpList_append_cells rfl _ _ _ rfl 61 4 _ _ 48 Tryz.underlying22 rfl rfl rfl rfl rfl _ _ _ _ _ rfl (HM.out.alloc _).own _ 1 1 _ rfl (one_pair (p := ⟨_, ⟨_, _, _⟩⟩) (alloc_here _ rfl)).src flat_one (by omega) (by omega) ?_; intro b' a' cap' w' h2 h3 h4 h5; (have HM := Lib.hid ((HM.out.alloc _).more h2 h3 h4)); clear h2 h3 h4 h5; (obtain ⟨h1, h2, h3, h4⟩ := HPK.out _ HM.out.beh); obtain ⟨v0, v1, v2, _⟩ := cells3 (HV.out _ HM.out.beh))
          go_roundw
          case rel => exact ⟨k + 1, _, _, _, _, by omega, by go_num, by rw [HK.out.2, HD.out], rfl, by show _ = _; rw [HK.out.1, List.length_append]; rfl, by show Made _ _ _ _ _ _; rw [HK.out.1]; exact HM.out⟩
          case measure => simp [intOf]; omega
      case false =>
        have hkl : ¬ klt ley key := by have := HT.out; rw [t] at this; exact of_decide_eq_false this.symm
        have HK := Lib.hid (H2.out hkl)
        have HKL := Lib.hid hkl
        clear hkl
        cases e : (ley.toList == key.toList)
        · have hne : (ley.toList != key.toList) = true := by rw [bne, e]; rfl
          have HNE : Hid (ley ≠ key) := by
            show ley ≠ key
            have := HKT.out
            rw [e] at this
            exact of_decide_eq_false this.symm
          have f1 : Op.bytesLess key.toList ley.toList = true := by
            rw [le_told]
            refine decide_eq_true ?_
            rcases klt_three ley key with h | h | h
            · exact absurd h HKL.out
            · exact absurd h HNE.out
            · exact h
          cases d
          · have HLD : Hid (LD (k + 1) = LD k ++ [⟨key, ⟨vk, vn, vs⟩⟩] ++ [⟨ley, ⟨uk, un, us⟩⟩]) := by show _ = _; rw [HK.out.1, if_neg HNE.out, HN.out, if_neg Bool.false_ne_true]
            go_wp2_with (first | (at_builtin; refine wpList_append_cells rfl _ _ _ rfl 61 4 _ _ 48 Tryz.underlying22 rfl rfl rfl rfl rfl _ _ _ _ _ rfl (OwnC.kept HRAW.out ((Kept.refl Mem.None _).alloc _) (fun _ h => h)) _ 1 1 _ rfl (one_pair (p := ⟨_, ⟨_, _, _⟩⟩) (alloc_here _ rfl)).src flat_one (by omega) (by omega) ?_; intro b' a' cap' w' h2 h3 h4 h5; (have HM := Lib.hid ((HM.out.alloc _).more (M := [⟨ley, ⟨uk, un, us⟩⟩]) (by rw [List.length_append, flat_append]; exact h2) h3 h4)); clear h2 h3 h4 h5; (obtain ⟨h1, h2, h3, h4⟩ := HPK.out _ HM.out.beh); obtain ⟨v0, v1, v2, _⟩ := cells3 (HV.out _ HM.out.beh)) | (at_builtin; refine wpList_append_cells rfl _ _ _ rfl 61 4 _ _ 48 Tryz.underlying22 rfl rfl rfl rfl rfl _ _ _ _ _ rfl (HM.out.alloc _).own _ 1 1 _ rfl (one_pair (p := ⟨_, ⟨_, _, _⟩⟩) (alloc_here _ rfl)).src flat_one (by omega) (by omega) ?_; intro b' a' cap' w' h2 h3 h4 h5; (have HRAW := Lib.hid h2); (have HM := Lib.hid ((HM.out.alloc _).more h2 h3 h4)); clear h2 h3 h4 h5; (obtain ⟨h1, h2, h3, h4⟩ := HPK.out _ HM.out.beh); obtain ⟨v0, v1, v2, _⟩ := cells3 (HV.out _ HM.out.beh)))
            go_roundw
            case rel => exact ⟨k + 1, _, _, _, _, by omega, by go_num, by rw [HK.out.2], rfl, by show _ = _; rw [HLD.out, List.length_append, List.length_append]; rfl, by show Made _ _ _ _ _ _; rw [HLD.out]; exact HM.out⟩
            case measure => simp [intOf]; omega
          · have HLD : Hid (LD (k + 1) = LD k ++ [⟨ley, ⟨uk, un, us⟩⟩]) := by show _ = _; rw [HK.out.1, if_neg HNE.out, HN.out, if_pos rfl]
            go_wp2_with (at_builtin; refine wpList_append_cells rfl _ _ _ rfl 61 4 _ _ 48 Tryz.underlying22 rfl rfl rfl rfl rfl _ _ _ _ _ rfl (HM.out.alloc _).own _ 1 1 _ rfl (one_pair (p := ⟨_, ⟨_, _, _⟩⟩) (alloc_here _ rfl)).src flat_one (by omega) (by omega) ?_; intro b' a' cap' w' h2 h3 h4 h5; (have HM := Lib.hid ((HM.out.alloc _).more h2 h3 h4)); clear h2 h3 h4 h5; (obtain ⟨h1, h2, h3, h4⟩ := HPK.out _ HM.out.beh); obtain ⟨v0, v1, v2, _⟩ := cells3 (HV.out _ HM.out.beh))
            go_roundw
            case rel => exact ⟨k + 1, _, _, _, _, by omega, by go_num, by rw [HK.out.2], rfl, by show _ = _; rw [HLD.out, List.length_append]; rfl, by show Made _ _ _ _ _ _; rw [HLD.out]; exact HM.out⟩
            case measure => simp [intOf]; omega
        · have hne : (ley.toList != key.toList) = false := by rw [bne, e]; rfl
          have HEQ : Hid (ley = key) := by
            show ley = key
            have := HKT.out
            rw [e] at this
            exact of_decide_eq_true this.symm
          have f1 : Op.bytesLess key.toList ley.toList = false := by rw [le_told, HEQ.out]; exact decide_eq_false (klt_irrefl _)
          have f2 : (key.toList == ley.toList) = true := by rw [HEQ.out]; exact beq_self_eq_true _
          cases d
          · have HLD : Hid (LD (k + 1) = LD k ++ [⟨key, ⟨vk, vn, vs⟩⟩]) := by show _ = _; rw [HK.out.1, if_pos HEQ.out, HN.out, if_neg Bool.false_ne_true, List.append_nil]
            go_wp2_with (at_builtin; refine wpList_append_cells rfl _ _ _ rfl 61 4 _ _ 48 Tryz.underlying22 rfl rfl rfl rfl rfl _ _ _ _ _ rfl (HM.out.alloc _).own _ 1 1 _ rfl (one_pair (p := ⟨_, ⟨_, _, _⟩⟩) (alloc_here _ rfl)).src flat_one (by omega) (by omega) ?_; intro b' a' cap' w' h2 h3 h4 h5; (have HM := Lib.hid ((HM.out.alloc _).more h2 h3 h4)); clear h2 h3 h4 h5; (obtain ⟨h1, h2, h3, h4⟩ := HPK.out _ HM.out.beh); obtain ⟨v0, v1, v2, _⟩ := cells3 (HV.out _ HM.out.beh))
            go_roundw
            case rel => exact ⟨k + 1, _, _, _, _, by omega, by go_num, by rw [HK.out.2], rfl, by show _ = _; rw [HLD.out, List.length_append]; rfl, by show Made _ _ _ _ _ _; rw [HLD.out]; exact HM.out⟩
            case measure => simp [intOf]; omega
          · have HLD : Hid (LD (k + 1) = LD k) := by show _ = _; rw [HK.out.1, if_pos HEQ.out, HN.out, if_pos rfl, List.append_nil]
            go_wp2_with fail
            go_roundw
            case rel => exact ⟨k + 1, _, _, _, _, by omega, by go_num, by rw [HK.out.2], rfl, by show _ = _; rw [HLD.out], by show Made _ _ _ _ _ _; rw [HLD.out]; exact HM.out⟩
            case measure => simp [intOf]; omega
    · obtain rfl : k = L.length := by omega
      obtain ⟨d, hd⟩ : ∃ d, DN L.length = d := ⟨_, rfl⟩
      rw [hd]
      cases d
      · have HS := Lib.hid (HE2.out hd)
        clear hd
        have HPK : Hid (∀ wq : World, Beh (w.alloc (.cells #[.int .i64 vk, .float .f64 vn, .string vs] 50)) wq → True ∧ True ∧ True ∧ True) := fun _ _ => ⟨trivial, trivial, trivial, trivial⟩
        go_wp2_with (at_builtin; refine wpList_append_cells rfl _ _ _ rfl 61 4 _ _ 48 Tryz.underlying22 rfl rfl rfl rfl rfl _ _ _ _ _ rfl (HM.out.alloc _).own _ 1 1 _ rfl (one_pair (p := ⟨_, ⟨_, _, _⟩⟩) (alloc_here _ rfl)).src flat_one (by omega) (by omega) ?_; intro b' a' cap' w' h2 h3 h4 h5; (have HM := Lib.hid ((HM.out.alloc _).more h2 h3 h4)); clear h2 h3 h4 h5; (obtain ⟨h1, h2, h3, h4⟩ := HPK.out _ HM.out.beh); obtain ⟨v0, v1, v2, _⟩ := cells3 (HV.out _ HM.out.beh))
        go_ret
        exact ⟨b', a', cap', by rw [← HS.out, List.length_append]; rfl, by rw [← HS.out]; exact HM.out.from HB0.out⟩
      · have HS := Lib.hid (HE1.out hd)
        clear hd
        go_wp2_with fail
        go_ret
        exact ⟨b, a', cap', by rw [← HS.out]; rfl, by rw [← HS.out]; exact HM.out.from HB0.out⟩
end Go.Proofs.YtlgmjkbaihpmmaaGreat.Kv
end
section
/- What a key has: the landed Get, the reference's. -/
namespace Go.Proofs.YtlgmjkbaihpmmaaGreat.Kv
open Go Go.RowKit Vl Nm Mem
attribute [local go_sem] run_bits run_frombits run_store_float

theorem get_here {L : List Pr} {k : Nat} {key : ByteArray} (h : k < L.length) (he : (L.getD k Pr.zero).key = key) : get (L.drop k) key = (L.getD k Pr.zero).val := by
  rw [List.drop_eq_getElem_cons h]
  rw [getD_lt h] at he ⊢
  show (if L[k].key = key then _ else _) = _
  rw [if_pos he]
theorem get_next {L : List Pr} {k : Nat} {key : ByteArray} (h : k < L.length) (he : (L.getD k Pr.zero).key ≠ key) : get (L.drop k) key = get (L.drop (k + 1)) key := by
  rw [List.drop_eq_getElem_cons h]
  rw [getD_lt h] at he
  show (if L[k].key = key then _ else _) = _
  rw [if_neg he]
set_option maxHeartbeats 800000 in
theorem refGet_any (a : Option Addr) (cap : Nat) (L : List Pr) (key : ByteArray) (w : World) (h : PairsAt w a cap L) (hl : L.length ≤ 100000) :
    Calls Tryz.prog 95 #[.slice a L.length cap, .string key] w fun e w' => e = .returned (get L key).val ∧ Below w.heap.size w w' := by
  have HI := Lib.hid (h.alloc (Vobj V.zero))
  have HB := Lib.hid ((Beh.start w).alloc (Vobj V.zero))
  have HA := Lib.hid (alloc_here (w := w) (Vobj V.zero) rfl)
  clear h
  unfold Vobj V.zero at HI HB HA
  go_enter Tryz.func95, Tryz.ntmps95
  go_wp2
  go_loop [5] (fun i => ∃ k : Nat, k ≤ L.length ∧ i = .int .i64 k ∧ Hid (get L key = get (L.drop k) key)) (fun i => L.length - (intOf i).toNat)
  case atStart => exact ⟨0, by omega, rfl, rfl⟩
  case round =>
    obtain ⟨k, hk, rfl, hw⟩ := hrel
    by_cases hlt : k < L.length
    · obtain ⟨b, off, rfl, hc⟩ := HI.out.at_ (by omega)
      obtain ⟨h1, h2, h3, h4⟩ := hc k hlt
      have HH := Lib.hid (get_here (key := key) hlt)
      have HN := Lib.hid (get_next (key := key) hlt)
      clear hc
      generalize L.getD k Pr.zero = x at *
      obtain ⟨ley, ⟨vk, vn, vs⟩⟩ := x
      have HT := Lib.hid (key_test ley key)
      cases hx : (ley.toList == key.toList)
      · go_wp2
        go_round
        case rel => exact ⟨k + 1, by omega, by go_num, hw.out.trans (HN.out (by have := HT.out; rw [hx] at this; simpa using this.symm))⟩
        case measure => simp [intOf]; omega
      · have hg := hw.out.trans (HH.out (by have := HT.out; rw [hx] at this; simpa using this.symm))
        rw [hg]
        obtain ⟨f0, f1, f2, _⟩ := cells3 HA.out
        go_wp2
        refine bodyPost_ret (v := (V.mk vk vn vs).val) ?_ rfl ⟨rfl, below_alloc _ _⟩
        rw [results_cell_one rfl]
        go_simp
    · obtain rfl : k = L.length := by omega
      have hg : get L key = V.zero := hw.out.trans (by rw [List.drop_length]; rfl)
      rw [hg]
      obtain ⟨f0, f1, f2, _⟩ := cells3 HA.out
      go_wp2
      refine bodyPost_ret (v := V.zero.val) ?_ rfl ⟨by first | rfl | rw [hg], below_alloc _ _⟩
      rw [results_cell_one rfl]
      go_simp
set_option maxHeartbeats 1600000 in
theorem Get_any (a : Option Addr) (cap : Nat) (L : List Pr) (key : ByteArray) (w : World) (h : PairsAt w a cap L) (hl : L.length ≤ 100000) :
    Calls Tryz.prog 87 #[.slice a L.length cap, .string key] w fun e w' => e = .returned (get L key).val ∧ Below w.heap.size w w' := by
  have HI := Lib.hid h
  have HB0 := Lib.hid ((Beh.start w).alloc (Vobj V.zero))
  have HA0 := Lib.hid (alloc_here (w := w) (Vobj V.zero) rfl)
  clear h
  unfold Vobj V.zero at HB0 HA0
  go_enter Tryz.func87, Tryz.ntmps87
  go_wp2
  go_loopw [6, 9] (fun i j wr => ∃ k : Nat, k ≤ L.length ∧ j = .int .i64 k ∧ Hid (get L key = get (L.drop k) key) ∧ Hid (Beh w wr) ∧ Hid (wr.heap[w.heap.size]? = some (.cells #[.int .i64 0, .float .f64 0, .string ⟨#[]⟩] 50))) (fun _ j _ => L.length - (intOf j).toNat)
  case atStart => exact ⟨0, by omega, rfl, rfl, HB0.out, HA0.out⟩
  case round =>
    obtain ⟨k, hk, rfl, hw, HB, HA⟩ := hrel
    by_cases hlt : k < L.length
    · obtain ⟨b, off, rfl, hc⟩ := (HI.out.below HB.out.below).at_ (by omega)
      obtain ⟨h1, h2, h3, h4⟩ := hc k hlt
      have HH := Lib.hid (get_here (key := key) hlt)
      have HN := Lib.hid (get_next (key := key) hlt)
      clear hc
      generalize L.getD k Pr.zero = x at *
      obtain ⟨ley, ⟨vk, vn, vs⟩⟩ := x
      have HT := Lib.hid (key_test ley key)
      cases hx : (ley.toList == key.toList)
      · go_wp2
        go_roundw
        case rel => exact ⟨k + 1, by omega, by go_num, hw.out.trans (HN.out (by have := HT.out; rw [hx] at this; simpa using this.symm)), HB.out.alloc _, old_alloc _ HA.out⟩
        case measure => simp [intOf]; omega
      · have hg := hw.out.trans (HH.out (by have := HT.out; rw [hx] at this; simpa using this.symm))
        rw [hg]
        obtain ⟨f0, f1, f2, g0, g1, g2⟩ := cells3_on HA.out
        go_wp2
        refine bodyPost_ret (v := (V.mk vk vn vs).val) ?_ rfl ⟨rfl, by show Beh w _; repeat' (first | exact HB.out | refine Beh.alloc ?_ _ | refine Beh.set ?_ (Nat.le_refl _) _ _)⟩
        rw [results_cell_one rfl]
        go_simp
    · obtain rfl : k = L.length := by omega
      have hg : get L key = V.zero := hw.out.trans (by rw [List.drop_length]; rfl)
      rw [hg]
      obtain ⟨f0, f1, f2, g0, g1, g2⟩ := cells3 HA.out
      go_wp2
      refine bodyPost_ret (v := V.zero.val) ?_ rfl ⟨by first | rfl | rw [hg], by show Beh w _; repeat' (first | exact HB.out | refine Beh.alloc ?_ _ | refine Beh.set ?_ (Nat.le_refl _) _ _)⟩
      rw [results_cell_one rfl]
      go_simp
end Go.Proofs.YtlgmjkbaihpmmaaGreat.Kv
end
section
/- The landed Do: what is thrown is caught. -/
namespace Go.Proofs.YtlgmjkbaihpmmaaGreat.Kv
open Go Go.RowKit Vl Nm Mem
attribute [local go_sem] run_bits run_frombits run_store_float

set_option maxRecDepth 100000 in
theorem joined_err2 {f : Nat → Nat → Nat} {a b : V} (h : (joined f a b).2 ≠ 0) : (joined f a b).1 = V.zero := by
  revert h
  unfold joined
  split
  · exact fun _ => rfl
  · split
    · exact fun _ => rfl
    · split
      · exact fun h => absurd rfl h
      · split
        · exact fun _ => rfl
        · exact fun h => absurd rfl h
set_option maxRecDepth 100000 in
/-- work, all ways -/
theorem work_told (v : V) (c : Cm) (hv : v.num < 18446744073709551616) (hc : c.val.num < 18446744073709551616) (w : World) :
    Calls Tryz.prog 86 #[v.val, c.agg] w fun e w' => e = (if (act v c).code = 0 then .returned (.tuple #[(act v c).next.val, (act v c).told.val]) else .panicked (thrown (act v c).code (act v c).told)) ∧ Below w.heap.size w w' := by
  have z0 : ((0 : Int) = 0) = True := eq_self 0
  by_cases h2 : c.kind = 2
  · have e : act v c = ⟨c.val, 0, v⟩ := by unfold act; rw [if_pos h2]
    rw [e, if_pos rfl]; exact work_put v c h2 w
  · by_cases h3 : c.kind = 3
    · have e : act v c = ⟨V.zero, 0, v⟩ := by unfold act; rw [if_neg h2, if_pos h3]
      rw [e, if_pos rfl]; exact work_del v c h3 w
    · by_cases h4 : c.kind = 4
      · by_cases hs : v.same c.old = true
        · have e : act v c = ⟨c.val, 0, v⟩ := by unfold act; rw [if_neg h2, if_neg h3, if_pos h4, if_pos hs]
          rw [e, if_pos rfl]; exact work_cas v c h4 hs w
        · have hs' : v.same c.old = false := by simpa using hs
          have e : act v c = ⟨V.zero, 9, v⟩ := by unfold act; rw [if_neg h2, if_neg h3, if_pos h4, if_neg hs]
          rw [e, if_neg (show ¬ (9 : Int) = 0 by decide)]; exact work_other v c h4 hs' w
      · by_cases h5 : c.kind = 5
        · have e : act v c = ⟨(joined sumC v c.val).1, (joined sumC v c.val).2, (joined sumC v c.val).1⟩ := by unfold act; rw [if_neg h2, if_neg h3, if_neg h4, if_pos h5]
          rw [e]
          by_cases hj : (joined sumC v c.val).2 = 0
          · rw [if_pos hj]; exact work_add v c h5 hv hc hj w
          · rw [if_neg hj]
            have hz : (joined sumC v c.val).1 = V.zero := joined_err2 hj
            show Calls _ _ _ _ (fun e w' => e = .panicked (thrown (joined sumC v c.val).2 (joined sumC v c.val).1) ∧ _)
            rw [hz]
            exact work_add_not v c h5 hv hc hj w
        · by_cases h6 : c.kind = 6
          · have e : act v c = ⟨(joined maxF v c.val).1, (joined maxF v c.val).2, (joined maxF v c.val).1⟩ := by unfold act; rw [if_neg h2, if_neg h3, if_neg h4, if_neg h5, if_pos h6]
            rw [e]
            by_cases hj : (joined maxF v c.val).2 = 0
            · rw [if_pos hj]; exact work_max v c h6 hv hc hj w
            · rw [if_neg hj]
              have hz : (joined maxF v c.val).1 = V.zero := joined_err2 hj
              show Calls _ _ _ _ (fun e w' => e = .panicked (thrown (joined maxF v c.val).2 (joined maxF v c.val).1) ∧ _)
              rw [hz]
              exact work_max_not v c h6 hv hc hj w
          · have e : act v c = ⟨v, 0, v⟩ := by unfold act; rw [if_neg h2, if_neg h3, if_neg h4, if_neg h5, if_neg h6]
            rw [e, if_pos rfl]; exact work_get v c h2 h3 h4 h5 h6 w
set_option maxRecDepth 100000 in
theorem run_assert (v : Value) (w : World) : (Instr.typeAssert (.iface 52 v) 20 52 false).run Tryz.prog w = .ok v w := by
  simp [Instr.typeAssert, run_underlying Tryz.underlying52]
/-- the blocks of a call of Do: the pairs, the command, the two results -/
structure Dk (w0 w : World) (a : Option Addr) (n cap : Nat) (c : Cm) (x : Value) (r : Obj) : Prop where
  b0 : w.heap[w0.heap.size]? = some (.cells #[.slice a n cap] 22)
  b1 : w.heap[w0.heap.size + 1]? = some c.obj
  b2 : w.heap[w0.heap.size + 1 + 1]? = some (.cells #[x] 22)
  b3 : w.heap[w0.heap.size + 1 + 1 + 1]? = some r
  beh : Beh w0 w
set_option maxRecDepth 100000 in
theorem heap_seto {w : World} {b : Nat} {o : Obj} (h : w.heap[b]? = some o) {k : Nat} (i : Nat) (ha : k ≠ b) (v : Value) : (w.setCell ⟨k, i, none⟩ v).heap[b]? = some o := by
  rw [Below.heap_setCell _ _ _ _ (fun e => ha e.symm)]; exact h
set_option maxRecDepth 100000 in
theorem Made.set {w0 w : World} {b : Nat} {a : Option Addr} {cap : Nat} {L : List Pr} (m : Made w0 w b a cap L) {k : Nat} (h0 : w0.heap.size ≤ k) (hk : k < b) (i : Nat) (v : Value) : Made w0 (w.setCell ⟨k, i, none⟩ v) b a cap L :=
  ⟨OwnC.kept m.own ((Kept.refl (Only k) _).setAt (.inl rfl) i v) (fun _ e => by have : b = k := e; omega), m.new, m.beh.set h0 i v⟩
set_option maxRecDepth 100000 in
/-- the two results stored: one cell, and four -/
theorem stored_two {w : World} {p q : Nat} {x y r0 r1 r2 r3 c0 c1 c2 c3 : Value} {t u : TypeId} (hp : w.heap[p]? = some (.cells #[x] t)) (hq : w.heap[q]? = some (.cells #[r0, r1, r2, r3] u)) (hpq : p ≠ q) :
    (((((w.setCell ⟨p, 0, none⟩ y).setCell ⟨q, 0, none⟩ c0).setCell ⟨q, 1, none⟩ c1).setCell ⟨q, 2, none⟩ c2).setCell ⟨q, 3, none⟩ c3).heap[p]? = some (.cells #[y] t) ∧
    (((((w.setCell ⟨p, 0, none⟩ y).setCell ⟨q, 0, none⟩ c0).setCell ⟨q, 1, none⟩ c1).setCell ⟨q, 2, none⟩ c2).setCell ⟨q, 3, none⟩ c3).heap[q]? = some (.cells #[c0, c1, c2, c3] u) :=
  ⟨heap_seto (heap_seto (heap_seto (heap_seto (heap_setc hp) 0 hpq.symm _) 1 hpq.symm _) 2 hpq.symm _) 3 hpq.symm _, heap_setc (heap_setc (heap_setc (heap_setc (heap_seto hq 0 hpq _))))⟩
set_option maxRecDepth 100000 in
theorem Dk.on {w0 w w' : World} {a : Option Addr} {n cap : Nat} {c : Cm} {x : Value} {r : Obj} (h : Dk w0 w a n cap c x r) (hb : Below w.heap.size w w') : Dk w0 w' a n cap c x r :=
  ⟨box_on h.b0 hb, box_on h.b1 hb, box_on h.b2 hb, box_on h.b3 hb, h.beh.on hb⟩
set_option maxRecDepth 100000 in
/-- where nothing was thrown, nothing is done -/
theorem catch_idle (p0 p1 p2 : Value) (w : World) :
    CallsD Tryz.prog 84 #[p0, p1, p2] .returning w fun e u' w' => e = .returned (.tuple #[]) ∧ u' = .returning ∧ w' = w := by
  refine callsD_of_wpS Tryz.func84 rfl fun c₀ cs hu => ?_
  apply wpS_seq
  apply wpS_region
  simp [wpOpsS, go_sem, recoverD, hu, Tryz.ntmps84, Exit.thenS]
  show Code.wpS _ _ _ { tmps := #[p0, p1, p2, .nilIface, .nilIface, undef, undef, undef, undef, undef, undef], defers := [] } _ _
  refine wpS_of_wp ?_
  go_wp2
  cases c₀
  simp_all [bodyPostS, results, Tryz.results84]
set_option maxRecDepth 100000 in
theorem catch_thrown (w0 w : World) (a : Option Addr) (cap : Nat) (L : List Pr) (c : Cm) (code : Int) (v : V) (h : PairsAt w a cap L) (hl : L.length ≤ 100000) (x : Value) (r : Value × Value × Value × Value)
    (HD : Dk w0 w a L.length cap c x (.cells #[r.1, r.2.1, r.2.2.1, r.2.2.2] 52)) :
    CallsD Tryz.prog 84 #[.pointer (some ⟨w0.heap.size, 0, none⟩), .pointer (some ⟨w0.heap.size + 1 + 1, 0, none⟩), .pointer (some ⟨w0.heap.size + 1 + 1 + 1, 0, none⟩)] (.panicking (thrown code v)) w fun e u' w' =>
      e = .returned (.tuple #[]) ∧ u' = .panicking [{ v := .iface 52 (rep code v), recovered := true }] ∧
      ∃ b' a' cap', Made w0 w' b' a' cap' L ∧ w0.heap.size + 4 ≤ b' ∧ w'.cell? ⟨w0.heap.size + 1 + 1, 0, none⟩ = some (.slice a' L.length cap') ∧ w'.heap[w0.heap.size + 1 + 1 + 1]? = some (repObj code v) := by
  refine callsD_of_wpS Tryz.func84 rfl fun c₀ cs hu => ?_
  unfold thrown at hu
  apply wpS_seq
  apply wpS_region
  simp [wpOpsS, go_sem, recoverD, hu, Tryz.ntmps84, Exit.thenS]
  show Code.wpS _ _ _ { tmps := #[.pointer (some ⟨w0.heap.size, 0, none⟩), .pointer (some ⟨w0.heap.size + 1 + 1, 0, none⟩), .pointer (some ⟨w0.heap.size + 1 + 1 + 1, 0, none⟩), .iface 52 (rep code v), .iface 52 (rep code v), undef, undef, undef, undef, undef, undef], defers := [] } _ _
  refine wpS_of_wp ?_
  have l0 := cells1 HD.b0
  go_wp2_with fail
  have HI := Lib.hid h
  have HDD := Lib.hid HD
  clear h HD
  have hra := fun w => run_assert (rep code v) w
  obtain ⟨r0, r1, r2, r3⟩ := r
  dsimp only at HDD
  go_region_with ((go_at_call 82; refine Calls.mono (clone_any _ _ _ _ (by exact HI.out.below ((Beh.start _).drew)) (by exact hl)) ?_; rintro e w1 ⟨b', a', cap', rfl, hm⟩; (have HM := Lib.hid hm); clear hm; (have HD1 := Lib.hid (HDD.out.on (Beh.trans ((Beh.start _).drew) HM.out.beh))); (have x0 := cells1 HD1.out.b2); (have x1 := frozen_of HD1.out.b2 0); obtain ⟨y0, y1, y2, y3⟩ := cells4 HD1.out.b3; (have z0 := frozen_of HD1.out.b3 0); (have z1 := frozen_of HD1.out.b3 1); (have z2 := frozen_of HD1.out.b3 2); (have z3 := frozen_of HD1.out.b3 3)))
  all_goals
    have hlt := heap_lt HDD.out.b3
    have hbn : w.heap.size ≤ b' := HM.out.new
    obtain ⟨hs1, hs2⟩ := stored_two (y := .slice a' L.length cap') (c0 := .int .i64 code) (c1 := .int .i64 v.kind) (c2 := .float .f64 v.num) (c3 := .string v.text) HD1.out.b2 HD1.out.b3 (by omega)
    refine ⟨rfl, .panicking [{ v := .iface 52 (rep code v), recovered := true }], rfl, .tuple #[], results_none rfl _ _ _, rfl, rfl, b', a', cap', ?_, by omega, cells1 hs1, hs2⟩
    exact (((((HM.out.from (HDD.out.beh.drew)).set (by omega) (by omega) _ _).set (by omega) (by omega) _ _).set (by omega) (by omega) _ _).set (by omega) (by omega) _ _).set (by omega) (by omega) _ _
end Go.Proofs.YtlgmjkbaihpmmaaGreat.Kv
end
section
/- A region that draws its order, in a function that defers: where it panics, of the frame only two results are read. For any program. -/
namespace Go.Proofs.YtlgmjkbaihpmmaaGreat.Kv
open Go

/-- behind a panic: whatever the frame, as long as two slots are what they are -/
def PQ (P : Program) (fn : Func) (R : Ending → World → Prop) (p4 p5 : Value) (M : Go.Act → World → Prop) (Q : Exit → Go.Act → World → Prop) : Exit → Go.Act → World → Prop
  | .panic c, a, w => ∀ tmps : Array Value, tmps.getD 4 undef = p4 → tmps.getD 5 undef = p5 → Leaves P fn tmps R a.defers (.panicking c) w
  | .normal, a, w => M a w
  | .outgrown, a, w => Q .outgrown a w
  | _, _, _ => False
section
variable {P : Program} {fn : Func} {R : Ending → World → Prop} {p4 p5 : Value} {M : Go.Act → World → Prop} {Q : Exit → Go.Act → World → Prop} {ops : Array Oper} {md : Region.Mode}
def Two (p4 p5 : Value) (a : Go.Act) : Prop := a.tmps.getD 4 undef = p4 ∧ a.tmps.getD 5 undef = p5
def apart (o : Oper) : Bool := o.dst != some 4 && o.dst != some 5
set_option maxRecDepth 100000 in
theorem getD_set (t : Array Value) (i j : Nat) (v : Value) (h : i ≠ j) : (t.setIfInBounds i v).getD j undef = t.getD j undef := by
  simp [Array.getD_eq_getD_getElem?, h]
set_option maxRecDepth 100000 in
theorem Two.put {a : Go.Act} (h : Two p4 p5 a) {o : Oper} (ho : apart o = true) (v : Value) : Two p4 p5 (a.put o.dst v) := by
  unfold apart at ho
  rw [Bool.and_eq_true] at ho
  cases hd : o.dst with
  | none => exact h
  | some t =>
    rw [hd] at ho
    have h4 : t ≠ 4 := fun e => by subst e; simp at ho
    have h5 : t ≠ 5 := fun e => by subst e; simp at ho
    exact ⟨(getD_set _ _ _ _ h4).trans h.1, (getD_set _ _ _ _ h5).trans h.2⟩
set_option maxRecDepth 100000 in
theorem upon_keep {o : Oper} {a : Go.Act} {K K' : Go.Act → World → Prop} (hp : ∀ c a w, Leaves P fn a.tmps R a.defers (.panicking c) w → Q (.panic c) a w) (h : Two p4 p5 a) (ho : apart o = true)
    (hK : ∀ a w, Two p4 p5 a → K a w → K' a w) (r : Result Next) (hr : o.upon P a K (PQ P fn R p4 p5 M Q) r) : o.upon P a K' Q r := by
  have hlo : LetsOut (PQ P fn R p4 p5 M Q) → LetsOut Q := fun ⟨a, w, h⟩ => ⟨a, w, h⟩
  unfold Oper.upon at hr ⊢
  split at hr
  · exact hK _ _ (h.put ho _) hr
  · exact hK _ _ (h.put ho _) hr
  · rename_i d w'
    exact hK _ _ (Two.put (a := { a with defers := d :: a.defers }) h ho _) hr
  · refine hr.mono fun e w'' he => ?_
    cases e with
    | returned v => exact hK _ _ (h.put ho _) he
    | panicked ch => exact hp _ _ _ (he a.tmps h.1 h.2)
    | outgrown => exact hlo he
  · refine hr.mono fun v w'' he => hK _ _ (h.put ho _) he
  · exact hp _ _ _ (hr a.tmps h.1 h.2)
  · exact hr.elim
set_option maxRecDepth 100000 in
theorem wpOp_keep {i : Nat} {a : Go.Act} {w : World} {K K' : Go.Act → World → Prop} (hp : ∀ c a w, Leaves P fn a.tmps R a.defers (.panicking c) w → Q (.panic c) a w) (hall : ops.all apart = true) (h : Two p4 p5 a)
    (hK : ∀ a w, Two p4 p5 a → K a w → K' a w) (hr : wpOp P ops (PQ P fn R p4 p5 M Q) i K a w) : wpOp P ops Q i K' a w := by
  unfold wpOp at hr ⊢
  cases ho : ops[i]? with
  | none => rw [ho] at hr; exact hK _ _ h hr
  | some o =>
    rw [ho] at hr
    have hap : apart o = true := by
      obtain ⟨hi, rfl⟩ := Array.getElem?_eq_some_iff.1 ho
      exact Array.all_eq_true.1 hall i hi
    simp only at hr ⊢
    split
    · rename_i hw
      rw [if_pos hw] at hr
      rcases hr with hr | ⟨h1, a0, w0, h2⟩
      · exact .inl (upon_keep hp h hap hK _ hr)
      · exact .inr ⟨h1, a0, w0, h2⟩
    · rename_i hw
      rw [if_neg hw] at hr
      exact hK _ _ (h.put hap _) hr
set_option maxRecDepth 100000 in
theorem wpAny_keep (hp : ∀ c a w, Leaves P fn a.tmps R a.defers (.panicking c) w → Q (.panic c) a w) (hM : ∀ a w, M a w → Q .normal a w) (hall : ops.all apart = true) :
    ∀ (fuel : Nat) (listed_ : Array Bool) (a_ : Go.Act) (w_ : World), Two p4 p5 a_ → wpAny P md ops (PQ P fn R p4 p5 M Q) fuel listed_ a_ w_ → wpAny P md ops Q fuel listed_ a_ w_
  | 0, _, _, _, _, h => ⟨h.1, hM _ _ h.2⟩
  | fuel + 1, _, _, _, hI, h => ⟨fun hr => hM _ _ (h.1 hr), fun i hi => wpOp_keep hp hall hI (fun a' w' hI' h' => wpAny_keep hp hM hall fuel _ a' w' hI' h') (h.2 i hi)⟩
set_option maxRecDepth 100000 in
theorem wp_region_door (M : Go.Act → World → Prop) {S : World → Prop} {id : Nat} {a : Go.Act} {w : World} (hm : P.follows .mixedOrders = true) (hall : ops.all apart = true) (hp : ∀ c a w, Leaves P fn a.tmps R a.defers (.panicking c) w → Q (.panic c) a w)
    (h4 : a.tmps.getD 4 undef = p4) (h5 : a.tmps.getD 5 undef = p5) (hM : ∀ a w, M a w → Q .normal a w)
    (h : wpAnyH P .any ops (PQ P fn R p4 p5 M Q) S ops.size (Array.replicate ops.size false) a w.drew) : (Code.region id ops true).wp P Q a w :=
  wp_region_any hm (wpAny_keep hp hM hall _ _ _ _ ⟨h4, h5⟩ (wpAny_of_held _ _ _ _ h))
end
end Go.Proofs.YtlgmjkbaihpmmaaGreat.Kv
end
