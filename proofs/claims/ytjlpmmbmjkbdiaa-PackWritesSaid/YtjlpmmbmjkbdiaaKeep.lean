/- Walks of the keeper's Float, Bytes, SpoilBytes. -/
import Derived.Test.YtjlpmmbmjkbdiaaClone
import Derived.Test.YtjlpmmbmjkbdiaaCanon
import Derived.Deep.QuietTactic
import Derived.BigQuiet
namespace Go.Proofs.Ytjlpmmbmjkbdiaa.Pk
open Go Go.RowKit Mem
attribute [local go_sem] run_bits run_frombits
def keepF (a b : Nat) : Bool := (Nm.isNaN a && Nm.isNaN b) || ((a : Int) == (b : Int))
set_option maxHeartbeats 1000000 in
theorem KFloat_any (a b : Nat) (w : World) :
    Calls Try.prog 30 #[.float .f64 a, .float .f64 b] w fun e w' => e = .returned (.bool (keepF a b)) ∧ w = w' := by
  cases ha : Nm.isNaN a <;> cases hb : Nm.isNaN b
  all_goals
    have h1 : (FloatKind.f64.format.order a a != some .eq) = _ := ha
    have h2 : (FloatKind.f64.format.order b b != some .eq) = _ := hb
    go_enter Try.func30, Try.ntmps30
    go_wp2
    go_ret
    exact ⟨by simp [keepF, ha, hb], rfl⟩
theorem keepF_canon (x : Nat) : keepF (Nm.canon x) x = true := by
  unfold keepF
  rw [Nm.isNaN_canon]
  cases h : Nm.isNaN x
  · simp [Nm.canon_num h]
  · simp

/-- what the comparison of bytes answers -/
def SameB (l m : List Nat) (w : World) (x : Ending) (w' : World) : Prop := x = .returned (.bool (decide (l = m))) ∧ ∃ n, w' = w.drewN n
theorem same_next {l m : List Nat} {k : Nat} (hk : k < l.length) (hm : k < m.length) (h : l.take k = m.take k) (he : l.getD k 0 = m.getD k 0) : l.take (k + 1) = m.take (k + 1) := by
  rw [List.take_succ_eq_append_getElem hk, List.take_succ_eq_append_getElem hm, h]
  simp [hk, hm] at he
  rw [he]
theorem not_same {l m : List Nat} {k : Nat} (h : ¬ l.getD k 0 = m.getD k 0) : decide (l = m) = false := by
  simp only [decide_eq_false_iff_not]
  intro e; subst e; exact h rfl
set_option maxHeartbeats 1000000 in
theorem KBytes_any (b : Nat) (a : Option Addr) (cap : Nat) (l : List Nat) (b2 : Nat) (a2 : Option Addr) (cap2 : Nat) (m : List Nat) (w : World) (h : Src w b a cap l) (h2 : Src w b2 a2 cap2 m) (hl : l.length ≤ 35184372088832) (hm : m.length ≤ 35184372088832) :
    Calls Try.prog 12 #[.slice a l.length cap, .slice a2 m.length cap2] w (SameB l m w) := by
  have HS := Lib.hid h
  have HS2 := Lib.hid h2
  clear h h2
  by_cases hlen : l.length = m.length
  · have HLEN := Lib.hid hlen
    have hne : ((l.length : Int) != m.length) = false := by simp [hlen]
    clear hlen
    go_enter Try.func12, Try.ntmps12
    go_wp2
    go_loopw [5] (fun i wr => ∃ k n : Nat, k ≤ l.length ∧ i = .int .i64 k ∧ Hid (l.take k = m.take k) ∧ wr = w.drewN n) (fun i _ => l.length - (intOf i).toNat)
    case atStart => exact ⟨0, 0, by omega, rfl, rfl, rfl⟩
    case round =>
      obtain ⟨k, n, hk, rfl, hs, rfl⟩ := hrel
      by_cases hlt : k < l.length
      · have hlt2 : k < m.length := by rw [← HLEN.out]; exact hlt
        obtain ⟨o1, rfl, c1⟩ := Src.at_ HS.out (by omega)
        obtain ⟨o2, rfl, c2⟩ := Src.at_ HS2.out (by omega)
        have d1 := c1 k hlt
        have d2 := c2 k hlt2
        clear c1 c2
        obtain ⟨q, hq⟩ : ∃ q, (((l.getD k 0 : Nat) : Int) != ((m.getD k 0 : Nat) : Int)) = q := ⟨_, rfl⟩
        have HQ := Lib.hid hq
        have hsn := Lib.hid (same_next hlt hlt2 hs.out)
        have hno := Lib.hid (not_same (l := l) (m := m) (k := k))
        generalize l.getD k 0 = y1 at *
        generalize m.getD k 0 = y2 at *
        cases q
        · go_wp2
          go_quiet (fail)
          go_wp2
          go_roundw
          case rel => exact ⟨k + 1, n + nq, by omega, by go_num, hsn.out (by have := HQ.out; simp at this; omega), by first | rfl | (rw [World.drewN_drewN])⟩
          case measure => simp [intOf]; omega
        · go_wp2
          go_quiet (fail)
          go_wp2
          go_ret
          exact ⟨ret_bool (hno.out (by have := HQ.out; simp at this; omega)).symm, n + nq, by first | rfl | (rw [World.drewN_drewN])⟩
      · obtain rfl : k = l.length := by omega
        go_wp2
        go_ret
        have e := hs.out
        rw [List.take_length, HLEN.out, List.take_length] at e
        exact ⟨ret_bool (by simp [e]), n, rfl⟩
  · have HLEN := Lib.hid hlen
    have hne : ((l.length : Int) != m.length) = true := by simp; omega
    clear hlen
    go_enter Try.func12, Try.ntmps12
    go_wp2
    go_ret
    exact ⟨ret_bool (by simp only [Bool.false_eq, decide_eq_false_iff_not]; intro e; exact HLEN.out (by rw [e])), 0, rfl⟩
end Go.Proofs.Ytjlpmmbmjkbdiaa.Pk
