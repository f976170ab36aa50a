/- Walks of the Reader: Int, Mark, Float, Text. -/
import Derived.Test.YtlgmjkbaihpmmaaGreatClone
import Derived.Test.YtlgmjkbaihpmmaaGreatCanon
import Derived.LoopTactic
namespace Go.Proofs.YtlgmjkbaihpmmaaGreat.Pk
open Go Go.RowKit Mem

/-- what Int answers -/
def IntPost (br bs : Nat) (l : List Nat) (e : Int) (w : World) (x : Ending) (w' : World) : Prop :=
  match rdInt l with
  | some (n, r) => x = .returned (.int .i64 n) ∧ RAt w' br bs r e ∧ Kept (Only br) w w'
  | none => Fell br bs (keep e 3) (.int .i64 0) w x w'
theorem intPost_none {br bs : Nat} {l : List Nat} {e : Int} {w : World} {x : Ending} {w' : World} (h : dec 0 0 l = none) (hp : Fell br bs (keep e 3) (.int .i64 0) w x w') : IntPost br bs l e w x w' := by
  unfold IntPost rdInt; rw [h]; exact hp
theorem intPost_some {br bs : Nat} {l r : List Nat} {z : Nat} {e : Int} {w : World} {x : Ending} {w' : World} (h : dec 0 0 l = some (z, r)) (hx : x = .returned (.int .i64 (unzig z))) (hr : RAt w' br bs r e) (hk : Kept (Only br) w w') : IntPost br bs l e w x w' := by
  unfold IntPost rdInt; rw [h]; exact ⟨hx, hr, hk⟩
theorem drop_get {l : List Nat} {k : Nat} (h : k < l.length) : l.drop k = l.getD k 0 :: l.drop (k + 1) := by
  rw [List.drop_eq_getElem_cons h]; simp [h]
theorem acc_next {k Z y : Nat} (hk : k ≤ 9) (hZ : Z < 128 ^ k) (hy : k = 9 → y ≤ 1) : bits .or .u64 (Z : Int) (IntKind.u64.wrap (((y % 128 : Nat) : Int) * 2 ^ (7 * (k : Int)).toNat)) = ((Z + 128 ^ k * (y % 128) : Nat) : Int) ∧ Z + 128 ^ k * (y % 128) < 128 ^ (k + 1) ∧ Z + 128 ^ k * (y % 128) < 18446744073709551616 := by
  have e1 : (7 * (k : Int)).toNat = 7 * k := by omega
  have hp : (2 : Nat) ^ (7 * k) = 128 ^ k := by rw [Nat.pow_mul]
  have h9 : 128 ^ k ≤ 128 ^ 9 := Nat.pow_le_pow_right (by decide) hk
  rw [show 128 ^ 9 = 9223372036854775808 from rfl] at h9
  have h3 : Z + 128 ^ k * (y % 128) < 128 ^ (k + 1) := by
    rw [Nat.pow_succ]
    have : 128 ^ k * (y % 128) ≤ 128 ^ k * 127 := Nat.mul_le_mul_left _ (by omega)
    omega
  have h4 : Z + 128 ^ k * (y % 128) < 18446744073709551616 := by
    by_cases e : k = 9
    · have := hy e
      subst e
      rw [show 128 ^ 9 = 9223372036854775808 from rfl] at hZ ⊢
      omega
    · have h5 : 128 ^ (k + 1) ≤ 128 ^ 9 := Nat.pow_le_pow_right (by decide) (by omega)
      rw [show 128 ^ 9 = 9223372036854775808 from rfl] at h5
      omega
  have e2 : IntKind.u64.wrap (((y % 128 : Nat) : Int) * 2 ^ (7 * (k : Int)).toNat) = ((2 ^ (7 * k) * (y % 128) : Nat) : Int) := by
    have e3 : ((y % 128 : Nat) : Int) * 2 ^ (7 * (k : Int)).toNat = ((2 ^ (7 * k) * (y % 128) : Nat) : Int) := by
      rw [e1, Int.natCast_mul, Int.natCast_pow, Int.mul_comm]; rfl
    rw [e3, hp]
    have hT : 128 ^ k * (y % 128) < 18446744073709551616 := by omega
    generalize 128 ^ k * (y % 128) = T at hT
    simp [IntKind.wrap, IntKind.bits, IntKind.signed]
    omega
  rw [e2, or_high _ _ _ (by rw [hp]; exact hZ) (by rw [hp]; omega) (by omega), hp]
  exact ⟨rfl, h3, h4⟩
theorem acc_walk {k Z y : Nat} (hk : k ≤ 9) (hZ : Z < 128 ^ k) (hy : k = 9 → y ≤ 1) (hy2 : y < 256) : bits .or .u64 (Z : Int) (IntKind.u64.wrap (IntKind.u64.wrap (bits .and .u8 (y : Int) 127) * 2 ^ (7 * k))) = ((Z + 128 ^ k * (y % 128) : Nat) : Int) ∧ Z + 128 ^ k * (y % 128) < 128 ^ (k + 1) ∧ Z + 128 ^ k * (y % 128) < 18446744073709551616 := by
  have h := acc_next hk hZ hy
  have e : IntKind.u64.wrap ((y % 128 : Nat) : Int) = ((y % 128 : Nat) : Int) := by
    have : y % 128 < 128 := by omega
    generalize y % 128 = T at this
    simp [IntKind.wrap, IntKind.bits, IntKind.signed]
    omega
  rw [show (7 * (k : Int)).toNat = 7 * k by omega] at h
  rw [and8_127 y hy2, e]
  exact h
theorem unfold_eq (q : Int) (z : Nat) (w : World) (hq : q = z) (h2 : z < 18446744073709551616) :
    Calls Tryz.prog 75 #[.int .u64 q] w fun e w' => e = .returned (.int .i64 (unzig z)) ∧ w = w' := by
  subst hq; exact unfold_any z w h2
/-- where the rest begins -/
theorem rest_at (bs off cap n : Nat) : ∃ o2, (if cap = n then some (⟨bs, off, none⟩ : Addr) else some ⟨bs, off + n, none⟩) = some ⟨bs, o2, none⟩ ∧ (o2 = off + n ∨ cap = n) := by
  by_cases h : cap = n
  · exact ⟨off, by rw [if_pos h], .inr h⟩
  · exact ⟨off + n, by rw [if_neg h], .inl rfl⟩
/-- the Reader behind n bytes -/
theorem rest_R {w : World} {br bs off o2 cap n : Nat} {l : List Nat} {e : Int} (hh : w.heap[br]? = some (.cells #[.slice (some ⟨bs, off, none⟩) l.length cap, .int .i64 e] 101 (0, 0)))
    (hs : Shows w bs (some ⟨bs, off, none⟩) cap l) (h8 : B8 l) (hne : br ≠ bs) (he : e ≠ 0 → l = []) (hn : n ≤ l.length) (ho : o2 = off + n ∨ cap = n) :
    RAt (w.setCell ⟨br, 0, none⟩ (.slice (some ⟨bs, o2, none⟩) (l.length - n) (cap - n))) br bs (l.drop n) e ∧ Kept (Only br) w (w.setCell ⟨br, 0, none⟩ (.slice (some ⟨bs, o2, none⟩) (l.length - n) (cap - n))) := by
  have k : Kept (Only br) w (w.setCell ⟨br, 0, none⟩ (.slice (some ⟨bs, o2, none⟩) (l.length - n) (cap - n))) := (Kept.refl _ _).setAt (.inl Only.self) _ _
  refine ⟨⟨some ⟨bs, o2, none⟩, cap - n, ?_, (fits_rest hs hn ho).kept k (fun _ => not_self hne), h8.drop _, hne, fun h => by rw [he h]; simp⟩, k⟩
  rw [heap_set hh 0]
  simp
set_option maxHeartbeats 1000000 in
set_option maxRecDepth 100000 in
theorem RInt_any (br bs : Nat) (l : List Nat) (e : Int) (w : World) (h : RAt w br bs l e) (hl : l.length ≤ 35184372088832) :
    Calls Tryz.prog 53 #[.pointer (some ⟨br, 0, none⟩)] w (IntPost br bs l e w) := by
  have HR := Lib.hid h
  obtain ⟨a, cap, hh, hs, h8, hne, he⟩ := h
  have c0 := cell_heap hh 0
  have f0 := frozen_heap hh 0
  simp at c0
  have HH := Lib.hid hh
  have H8 := Lib.hid h8
  have HE := Lib.hid he
  clear hh he
  rcases hs.2.2 with ⟨rfl, rfl, rfl⟩ | ⟨off, rfl, hc⟩
  · clear hs
    go_enter Tryz.func53, Tryz.ntmps53
    go_wp2
    refine wp_loop_rounds 1 ?_
    rw [rounds_succ]
    go_wp2_with (first | (go_at_call 76; refine (fail_any br bs [] e _ _ HR.out).mono ?_; rintro x w' ⟨rfl, h1, h2⟩))
    go_ret
    exact intPost_none rfl ⟨rfl, h1, h2⟩
  · have h1 := hs.1
    have h2 := hs.2.1
    have HS := Lib.hid hs
    have HC := Lib.hid hc
    clear hs hc h8
    go_enter Tryz.func53, Tryz.ntmps53
    go_wp2
    go_loop [3, 11] (fun z i => ∃ k Z : Nat, k ≤ l.length ∧ k ≤ 9 ∧ i = .int .i64 k ∧ z = .int .u64 Z ∧ Hid (Z < 128 ^ k ∧ dec 0 0 l = dec k Z (l.drop k))) (fun _ i => l.length - (intOf i).toNat)
    case atStart => exact ⟨0, 0, by omega, by omega, rfl, rfl, by decide, by simp⟩
    case round =>
      obtain ⟨k, Z, hk, hk9, rfl, rfl, hz⟩ := hrel
      by_cases hlt : k < l.length
      · have hcell := HC.out k hlt
        have hd := Lib.hid (drop_get hlt)
        have hy := H8.out.get k
        generalize l.getD k 0 = y at *
        rcases Nat.lt_or_ge 1 y with hy1 | hy1
        · by_cases hk8 : k ≤ 8
          · have hk9' : ((k : Int) == 9) = false := beq_eq_false_iff_ne.2 (by omega)
            have HN := Lib.hid (acc_walk (Z := Z) (y := y) hk9 hz.out.1 (by omega) hy)
            by_cases hy2 : 128 ≤ y
            · go_wp2
              go_round
              case rel => exact ⟨k + 1, Z + 128 ^ k * (y % 128), by omega, by omega, by go_num, by rw [HN.out.1], HN.out.2.1, by rw [hz.out.2, hd.out, dec, if_neg (by omega), if_pos hy2]⟩
              case measure => simp [intOf]; omega
            · have hy0 : ((y : Int) == 0) = false := beq_eq_false_iff_ne.2 (by omega)
              have hn1 : k + 1 ≤ l.length := hlt
              obtain ⟨o2, hA, hB⟩ := rest_at bs off cap (k + 1)
              have HB := Lib.hid hB
              clear hB
              go_wp2_with (first | (go_at_call 75; refine (unfold_eq _ _ _ HN.out.1 HN.out.2.2).mono ?_; rintro e w' ⟨rfl, rfl⟩))
              go_ret
              obtain ⟨r1, r2⟩ := rest_R HH.out HS.out H8.out hne HE.out hn1 HB.out
              refine intPost_some ?_ rfl r1 r2
              rw [hz.out.2, hd.out, dec, if_neg (by omega), if_neg (by omega), if_neg (by omega), show y % 128 = y by omega]
          · have hk9' : ((k : Int) == 9) = true := beq_iff_eq.2 (by omega)
            have K9 := Lib.hid (show k = 9 by omega)
            clear hk8
            go_wp2_with (first | (go_at_call 76; refine (fail_any br bs l e _ _ HR.out).mono ?_; rintro x w' ⟨rfl, h1, h2⟩))
            go_ret
            refine intPost_none ?_ ⟨rfl, h1, h2⟩
            rw [hz.out.2, hd.out, dec, if_pos ⟨K9.out, hy1⟩]
        · have HN := Lib.hid (acc_walk (Z := Z) (y := y) hk9 hz.out.1 (by omega) hy)
          obtain ⟨q9, hk9', HQ⟩ : ∃ q, ((k : Int) == 9) = q ∧ Hid True := ⟨_, rfl, trivial⟩
          have hy2 : decide (1 < (y : Int)) = false := by simp; omega
          rcases Nat.eq_zero_or_pos y with hy3 | hy3
          · have hy0 : ((y : Int) == 0) = true := by simpa using hy3
            have HY := Lib.hid hy3
            have hyu : y ≤ 0 := by omega
            clear hy3
            rcases Nat.eq_zero_or_pos k with hk0 | hk0
            · have hkz : k ≤ 0 := by omega
              have hk99 : ((k : Int) == 9) = false := beq_eq_false_iff_ne.2 (by omega)
              clear hk9' hk0
              have hn1 : k + 1 ≤ l.length := hlt
              obtain ⟨o2, hA, hB⟩ := rest_at bs off cap (k + 1)
              have HB := Lib.hid hB
              clear hB
              go_wp2_with (first | (go_at_call 75; refine (unfold_eq _ _ _ HN.out.1 HN.out.2.2).mono ?_; rintro e w' ⟨rfl, rfl⟩))
              go_ret
              obtain ⟨r1, r2⟩ := rest_R HH.out HS.out H8.out hne HE.out hn1 HB.out
              refine intPost_some ?_ rfl r1 r2
              rw [hz.out.2, hd.out, dec, if_neg (by omega), if_neg (by omega), if_neg (by omega), show y % 128 = y by omega]
            · cases q9
              all_goals
                go_wp2_with (first | (go_at_call 76; refine (fail_any br bs l e _ _ HR.out).mono ?_; rintro x w' ⟨rfl, h1, h2⟩))
                go_ret
                refine intPost_none ?_ ⟨rfl, h1, h2⟩
                rw [hz.out.2, hd.out, dec, if_neg (by omega), if_neg (by omega), if_pos ⟨HY.out, hk0⟩]
          · have hy0 : ((y : Int) == 0) = false := beq_eq_false_iff_ne.2 (by omega)
            cases q9
            all_goals
              have hn1 : k + 1 ≤ l.length := hlt
              obtain ⟨o2, hA, hB⟩ := rest_at bs off cap (k + 1)
              have HB := Lib.hid hB
              clear hB
              go_wp2_with (first | (go_at_call 75; refine (unfold_eq _ _ _ HN.out.1 HN.out.2.2).mono ?_; rintro e w' ⟨rfl, rfl⟩))
              go_ret
              obtain ⟨r1, r2⟩ := rest_R HH.out HS.out H8.out hne HE.out hn1 HB.out
              refine intPost_some ?_ rfl r1 r2
              rw [hz.out.2, hd.out, dec, if_neg (by omega), if_neg (by omega), if_neg (by omega), show y % 128 = y by omega]
      · obtain rfl : k = l.length := by omega
        go_wp2_with (first | (go_at_call 76; refine (fail_any br bs l e _ _ HR.out).mono ?_; rintro x w' ⟨rfl, h1, h2⟩))
        go_ret
        refine intPost_none ?_ ⟨rfl, h1, h2⟩
        rw [hz.out.2, List.drop_length]; rfl
end Go.Proofs.YtlgmjkbaihpmmaaGreat.Pk
