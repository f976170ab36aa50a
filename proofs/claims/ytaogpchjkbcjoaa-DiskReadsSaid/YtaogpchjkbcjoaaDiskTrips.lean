/- Package disk's trips, as a walk of the code that landed. -/
import Derived.Test.YtaogpchjkbcjoaaDiskGo
namespace Go.Proofs.Ytaogpchjkbcjoaa.Dk
open Go Go.RowKit Mem Kp
/-- a write that would be done has been counted -/
def TripsPost (d : Nat) (S : Nat → Prop) (st : St) (w : World) (x : Ending) (w' : World) : Prop := x = .returned (.bool (decide (st.armed = 1))) ∧ LeftA Any d S w (if st.armed = 1 then st.gone st.keep else st.less) w'
set_option maxHeartbeats 4000000 in
theorem trips_any (w : World) (d : Nat) (S : Nat → Prop) (p : Option Addr) (st : St) (h : At w d S p st) (ok : st.Ok) (ho : st.off = false) :
    Calls Try.prog 34 #[.pointer (some ⟨d, 0, none⟩)] w (TripsPost d S st w) := by
  obtain ⟨⟨_, _, _, _, _, c5, c6⟩, hf⟩ := h.cells
  have f5 := hf 5
  have HA := Lib.hid h
  have HOK := Lib.hid ok
  have hmax := ok.amax
  clear hf ok
  by_cases h0 : st.armed = 0
  · have d0 : ((st.armed : Int) == 0) = true := by rw [h0]; rfl
    have HE : Hid ((if st.armed = 1 then st.gone st.keep else st.less) = st) := by show _ = _; rw [if_neg (by omega)]; unfold St.less; rw [h0]; rw [show 0 - 1 = st.armed by omega]
    have HD : Hid (decide (st.armed = 1) = false) := decide_eq_false (by omega)
    clear h0 h
    go_enter Try.func34, Try.ntmps34
    go_wp2
    go_ret
    exact ⟨ret_bool HD.out.symm, by rw [HE.out]; exact LeftA.refl trivial HA.out⟩
  · have d0 : ((st.armed : Int) == 0) = false := beq_eq_false_iff_ne.2 (by omega)
    have e : ((st.armed - 1 : Nat) : Int) = (st.armed : Int) - 1 := by omega
    have h1 := h.armed (st.armed - 1)
    rw [e] at h1
    have hl : (⟨st.room, st.file, st.safe, st.off, st.armed - 1, st.keep⟩ : St) = st.less := rfl
    rw [hl] at h1
    have HP := Lib.hid h1
    have d6 := h1.1.cells.1.2.2.2.2.2.2
    rw [show st.less.keep = st.keep from rfl] at d6
    clear h h1 hl
    by_cases h1 : st.armed = 1
    · have d1 : decide ((1 : Int) < (st.armed : Int)) = false := decide_eq_false (by omega)
      have HE : Hid ((if st.armed = 1 then st.gone st.keep else st.less) = st.less.crash st.keep) := by show _ = _; rw [if_pos h1]; unfold St.crash; rw [if_neg (by show ¬ st.off = true; rw [ho]; decide)]; rfl
      have HD : Hid (decide (st.armed = 1) = true) := decide_eq_true h1
      clear h0 h1 e
      have b0 : (0 : Int) ≤ (st.armed : Int) := Int.natCast_nonneg _
      have b1 : (st.armed : Int) ≤ 9223372036854775807 := by omega
      generalize (st.armed : Int) = ar at *
      go_enter Try.func34, Try.ntmps34
      go_wp2_with fail
      refine (crash_any _ d S p st.less HP.out.1 HOK.out.less st.keep).mono ?_
      rintro x w2 ⟨rfl, h2⟩
      have H2 := Lib.hid h2
      clear h2
      go_wp2
      go_ret
      refine ⟨ret_bool HD.out.symm, ?_⟩
      rw [HE.out]
      exact LeftA.next (HP.out.2.mono (fun k e => by cases e; exact HP.out.1.self)) (fun _ h => .inl h) H2.out
    · have d1 : decide ((1 : Int) < (st.armed : Int)) = true := decide_eq_true (by omega)
      have HE : Hid ((if st.armed = 1 then st.gone st.keep else st.less) = st.less) := by show _ = _; rw [if_neg h1]
      have HD : Hid (decide (st.armed = 1) = false) := decide_eq_false h1
      clear h0 h1 e
      have b0 : (0 : Int) ≤ (st.armed : Int) := Int.natCast_nonneg _
      have b1 : (st.armed : Int) ≤ 9223372036854775807 := by omega
      generalize (st.armed : Int) = ar at *
      go_enter Try.func34, Try.ntmps34
      go_wp2
      go_ret
      refine ⟨ret_bool HD.out.symm, ?_⟩
      rw [HE.out]
      exact LeftA.of trivial HP.out.1 HP.out.2
end Go.Proofs.Ytaogpchjkbcjoaa.Dk
