/- Plain mathematics: as many pairs as may be. No program's function. -/
import Derived.Test.YtilebpenfdgdmaaCasM6
namespace Go.Proofs.Ytilebpenfdgdmaa.Kv
open Go Go.RowKit Vl Nm

def keysS : ByteArray := ⟨#[97, 98, 99, 100, 101, 102, 103, 104, 105, 106, 107, 108, 109, 110, 111, 112, 113, 114, 115, 116, 117, 118, 119, 120, 121, 122, 65, 66, 67, 68, 69, 70, 71]⟩
def keyAt (i : Nat) : ByteArray := keysS.extract i (i + 1)
theorem keysS_size : keysS.size = 33 := rfl
theorem keyAt_size {i : Nat} (h : i < 33) : (keyAt i).size = 1 := by
  unfold keyAt; rw [ByteArray.size_extract, keysS_size]; omega
theorem keyAt_all : ((List.range 33).all fun i => (List.range 33).all fun j => i == j || decide (keyAt i ≠ keyAt j)) = true := by kernel_rfl
theorem keyAt_ne {i j : Nat} (hi : i < 33) (hj : j < 33) (h : i ≠ j) : keyAt i ≠ keyAt j := by
  have := List.all_eq_true.1 (List.all_eq_true.1 keyAt_all i (List.mem_range.2 hi)) j (List.mem_range.2 hj)
  simpa [h] using this
theorem keyA : (⟨#[97]⟩ : ByteArray) = keyAt 0 := by kernel_rfl
theorem keyB : (⟨#[98]⟩ : ByteArray) = keyAt 1 := by kernel_rfl
theorem keyG : (⟨#[71]⟩ : ByteArray) = keyAt 32 := by kernel_rfl
theorem put_cmd_right {k : ByteArray} (k0 : k.size ≠ 0) (k8 : k.size ≤ 8) {v : V} (hv : v.check = 0) (hk : v.kind ≠ 0) : (Cm.mk 2 k V.zero v).right = 0 := by
  have e : (Cm.mk 2 k V.zero v).vals = true := by
    unfold Cm.vals
    show (decide (V.zero.check = 0) && decide (v.check = 0) && (if (2 : Int) = 2 then decide (V.zero.kind = 0) && decide (v.kind ≠ 0) else _)) = true
    rw [decide_eq_true hv, decide_eq_true zero_check, if_pos rfl, decide_eq_true hk]; rfl
  unfold Cm.right
  rw [if_neg (by show ¬ ((2 : Int) < 1 ∨ 6 < (2 : Int)); decide), if_neg (by show ¬ 8 < k.size; omega), if_neg]
  rintro (h | h)
  · exact k0 h
  · rw [e] at h; cases h
theorem cas_cmd_right {k : ByteArray} (k0 : k.size ≠ 0) (k8 : k.size ≤ 8) {v : V} (hv : v.check = 0) : (Cm.mk 4 k V.zero v).right = 0 := by
  have e : (Cm.mk 4 k V.zero v).vals = true := by
    unfold Cm.vals
    show (decide (V.zero.check = 0) && decide (v.check = 0) && (if (4 : Int) = 2 then _ else if (4 : Int) = 4 then true else _)) = true
    rw [decide_eq_true hv, decide_eq_true zero_check, if_neg (by decide), if_pos rfl]; rfl
  unfold Cm.right
  rw [if_neg (by show ¬ ((4 : Int) < 1 ∨ 6 < (4 : Int)); decide), if_neg (by show ¬ 8 < k.size; omega), if_neg]
  rintro (h | h)
  · exact k0 h
  · rw [e] at h; cases h
theorem put_of {L : List Pr} {k : ByteArray} {n t : V} : put L k ⟨n, 0, t⟩ = if 32 < (set L k n).length then ⟨L, 5, V.zero⟩ else ⟨set L k n, 0, t⟩ := by
  unfold put; rw [if_neg (show ¬ ((0 : Int) ≠ 0) by decide)]
theorem doing_put {L : List Pr} (hL : rightP L = true) {k : ByteArray} (k0 : k.size ≠ 0) (k8 : k.size ≤ 8) {v : V} (hv : v.check = 0) (hk : v.kind ≠ 0) :
    doing L ⟨2, k, V.zero, v⟩ = if 32 < (set L k v).length then ⟨L, 5, V.zero⟩ else ⟨set L k v, 0, get L k⟩ := by
  have ea : act (get L k) ⟨2, k, V.zero, v⟩ = ⟨v, 0, get L k⟩ := by unfold act; rfl
  have e : doing L ⟨2, k, V.zero, v⟩ = put L k (act (get L k) ⟨2, k, V.zero, v⟩) := by
    unfold doing; rw [if_neg (by rw [put_cmd_right k0 k8 hv hk]; decide), if_neg (by rw [hL]; decide)]
  rw [e, ea, put_of]
theorem doing_cas_zero {L : List Pr} (hL : rightP L = true) {k : ByteArray} (k0 : k.size ≠ 0) (k8 : k.size ≤ 8) {v : V} (hv : v.check = 0) (hg : get L k = V.zero) :
    doing L ⟨4, k, V.zero, v⟩ = if 32 < (set L k v).length then ⟨L, 5, V.zero⟩ else ⟨set L k v, 0, V.zero⟩ := by
  have ea : act (get L k) ⟨4, k, V.zero, v⟩ = ⟨v, 0, V.zero⟩ := by rw [hg, act_cas, if_pos (V.same_refl _)]
  have e : doing L ⟨4, k, V.zero, v⟩ = put L k (act (get L k) ⟨4, k, V.zero, v⟩) := by
    unfold doing; rw [if_neg (by rw [cas_cmd_right k0 k8 hv]; decide), if_neg (by rw [hL]; decide)]
  rw [e, ea, put_of]
theorem one_some {v : V} (h : v.kind ≠ 0) : one v = 1 := by unfold one; rw [if_neg h]
theorem one_zero : one V.zero = 0 := rfl
/-- the pairs behind i puts -/
structure Full (L : List Pr) (v : V) (i : Nat) : Prop where
  right : rightP L = true
  fits : Fits L
  len : L.length = i
  had : ∀ j, j < i → get L (keyAt j) = v
  none : ∀ j, i ≤ j → j < 33 → get L (keyAt j) = V.zero
theorem Full.start (v : V) : Full [] v 0 := ⟨by decide, Fits.nil, rfl, fun j h => absurd h (by omega), fun _ _ _ => rfl⟩
theorem right_set {L : List Pr} (hL : rightP L = true) {k : ByteArray} (k0 : k.size ≠ 0) (k8 : k.size ≤ 8) {v : V} (hv : v.check = 0) (hl : (set L k v).length ≤ 32) : rightP (set L k v) = true :=
  (rightP_iff _).2 ⟨hl, ((rightP_iff L).1 hL).2.set k0 k8 hv⟩
theorem Full.next {L : List Pr} {v : V} {i : Nat} (h : Full L v i) (hi : i < 32) (hv : v.check = 0) (hk : v.kind ≠ 0) (hn : v.num < 18446744073709551616) :
    doing L ⟨2, keyAt i, V.zero, v⟩ = ⟨set L (keyAt i) v, 0, V.zero⟩ ∧ Full (set L (keyAt i) v) v (i + 1) := by
  have ks := keyAt_size (show i < 33 by omega)
  have k0 : (keyAt i).size ≠ 0 := by omega
  have k8 : (keyAt i).size ≤ 8 := by omega
  have hg := h.none i (Nat.le_refl _) (by omega)
  have hlen := length_set ((rightP_iff L).1 h.right).2 k0 k8 v
  rw [hg, one_zero, one_some hk, h.len] at hlen
  refine ⟨?_, right_set h.right k0 k8 hv (by omega), set_all (P := fun v => v.num < 18446744073709551616) h.fits hn, by omega, fun j hj => ?_, fun j hj hj2 => ?_⟩
  · rw [doing_put h.right k0 k8 hv hk, if_neg (by omega), hg]
  · by_cases e : j = i
    · subst e; exact get_set_same _ _ _ hv
    · rw [get_set_other _ _ (keyAt_ne (by omega) (by omega) e)]; exact h.had j (by omega)
  · rw [get_set_other _ _ (keyAt_ne hj2 (by omega) (by omega))]; exact h.none j (by omega) hj2
/-- the four commands behind them -/
structure FullEnd (L : List Pr) (w : V) (M1 M2 M3 : List Pr) (t1 t2 : V) : Prop where
  f1 : doing L ⟨2, ⟨#[71]⟩, V.zero, w⟩ = ⟨L, 5, V.zero⟩
  f2 : doing L ⟨2, ⟨#[97]⟩, V.zero, w⟩ = ⟨M1, 0, t1⟩
  f3 : doing M1 ⟨3, ⟨#[98]⟩, V.zero, V.zero⟩ = ⟨M2, 0, t2⟩
  f4 : doing M2 ⟨4, ⟨#[71]⟩, V.zero, w⟩ = ⟨M3, 0, V.zero⟩
  l1 : M1.length = 32
  l2 : M2.length = 31
  l3 : M3.length = 32
  g1 : Fits M1
  g2 : Fits M2
  r3 : rightP M3 = true
theorem Full.ends {L : List Pr} {v w : V} (h : Full L v 32) (hvk : v.kind ≠ 0) (hw : w.check = 0) (hwk : w.kind ≠ 0) (hn : w.num < 18446744073709551616) : ∃ M1 M2 M3 t1 t2, FullEnd L w M1 M2 M3 t1 t2 := by
  have k0 : ∀ {i}, i < 33 → (keyAt i).size ≠ 0 := fun h => by rw [keyAt_size h]; decide
  have k8 : ∀ {i}, i < 33 → (keyAt i).size ≤ 8 := fun h => by rw [keyAt_size h]; decide
  have hS := ((rightP_iff L).1 h.right).2
  have lG := length_set hS (k0 (i := 32) (by omega)) (k8 (by omega)) w
  rw [h.none 32 (Nat.le_refl _) (by omega), one_zero, one_some hwk, h.len] at lG
  have lA := length_set hS (k0 (i := 0) (by omega)) (k8 (by omega)) w
  rw [h.had 0 (by omega), one_some hvk, one_some hwk, h.len] at lA
  have R1 := right_set h.right (k0 (i := 0) (by omega)) (k8 (by omega)) hw (by omega)
  have F1 : Fits (set L (keyAt 0) w) := set_all (P := fun v => v.num < 18446744073709551616) h.fits hn
  have gB : get (set L (keyAt 0) w) (keyAt 1) = v := by rw [get_set_other _ _ (keyAt_ne (by omega) (by omega) (by omega))]; exact h.had 1 (by omega)
  have gG1 : get (set L (keyAt 0) w) (keyAt 32) = V.zero := by rw [get_set_other _ _ (keyAt_ne (by omega) (by omega) (by omega))]; exact h.none 32 (Nat.le_refl _) (by omega)
  have lB := length_set ((rightP_iff _).1 R1).2 (k0 (i := 1) (by omega)) (k8 (by omega)) V.zero
  rw [gB, one_zero, one_some hvk] at lB
  have R2 := right_set R1 (k0 (i := 1) (by omega)) (k8 (by omega)) zero_check (by omega)
  have F2 : Fits (set (set L (keyAt 0) w) (keyAt 1) V.zero) := set_all (P := fun v => v.num < 18446744073709551616) F1 zero_fit
  have gG2 : get (set (set L (keyAt 0) w) (keyAt 1) V.zero) (keyAt 32) = V.zero := by rw [get_set_other _ _ (keyAt_ne (by omega) (by omega) (by omega))]; exact gG1
  have lC := length_set ((rightP_iff _).1 R2).2 (k0 (i := 32) (by omega)) (k8 (by omega)) w
  rw [gG2, one_zero, one_some hwk] at lC
  have R3 := right_set R2 (k0 (i := 32) (by omega)) (k8 (by omega)) hw (by omega)
  refine ⟨set L (keyAt 0) w, set (set L (keyAt 0) w) (keyAt 1) V.zero, set (set (set L (keyAt 0) w) (keyAt 1) V.zero) (keyAt 32) w, v, v, ?_, ?_, ?_, ?_, by omega, by omega, by omega, F1, F2, R3⟩
  · rw [keyG, doing_put h.right (k0 (by omega)) (k8 (by omega)) hw hwk, if_pos (by omega)]
  · rw [keyA, doing_put h.right (k0 (by omega)) (k8 (by omega)) hw hwk, if_neg (by omega), h.had 0 (by omega)]
  · rw [keyB, doing_dels R1 (k0 (by omega)) (k8 (by omega)), gB]
  · rw [keyG, doing_cas_zero R2 (k0 (by omega)) (k8 (by omega)) hw gG2, if_neg (by omega)]
end Go.Proofs.Ytilebpenfdgdmaa.Kv
