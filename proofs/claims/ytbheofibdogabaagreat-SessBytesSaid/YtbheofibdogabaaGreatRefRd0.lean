import Derived.Test.YtbheofibdogabaaGreatMergeSb12
import Derived.Deep.QuietTactic
import Derived.BigQuiet
/- The reference's Reader in memory; its None and Done. -/
namespace Go.Proofs.YtbheofibdogabaaGreat.Ss
open Go Go.RowKit Vl Kv Mem Nm
attribute [local go_sem] run_bits run_frombits run_store_float

/-- the reference's Reader: its bytes' slice, where it stands, the error that it keeps -/
def RBox (w : World) (br : Nat) (a : Option Addr) (cap n at_ : Nat) (bad : Int) : Prop := w.heap[br]? = some (.cells #[.slice a n cap, .int .i64 at_, .int .i64 bad] 74)
set_option maxHeartbeats 800000 in
set_option maxRecDepth 100000 in
theorem refNone_any {w : World} {br : Nat} {a : Option Addr} {cap n at_ : Nat} {bad : Int} (h : RBox w br a cap n at_ bad) (e : Int) :
    Calls Tryz.prog 56 #[.pointer (some ⟨br, 0, none⟩), .int .i64 e] w fun x w' => x = .returned (.tuple #[]) ∧ RBox w' br a cap n at_ (if bad = 0 then e else bad) ∧ Kept (Only br) w w' := by
  have H := Lib.hid h
  have hlt := lt_of_heap h
  obtain ⟨c0, c1, c2, _, _, f2⟩ := cells3 h
  unfold RBox at h
  clear h
  by_cases hb : bad = 0
  · subst hb
    go_enter Tryz.func56, Tryz.ntmps56
    go_wp2
    go_end0
    exact ⟨rfl, Pk.heap_set H.out 2 _, (Kept.refl (Only br) w).setAt (.inl rfl) _ _⟩
  · have d1 : (bad == 0) = false := by simpa using hb
    rw [if_neg hb]
    go_enter Tryz.func56, Tryz.ntmps56
    go_wp2
    go_end0
    exact ⟨rfl, H.out, Kept.refl _ _⟩
set_option maxHeartbeats 800000 in
set_option maxRecDepth 100000 in
theorem refDone_any {w : World} {br : Nat} {a : Option Addr} {cap n at_ : Nat} {bad : Int} (h : RBox w br a cap n at_ bad) :
    Calls Tryz.prog 36 #[.pointer (some ⟨br, 0, none⟩)] w fun x w' => x = .returned (.int .i64 (if bad = 0 ∧ at_ < n then 3 else bad)) ∧ ∃ nd, w' = w.drewN nd := by
  obtain ⟨c0, c1, c2, _⟩ := cells3 h
  clear h
  by_cases hb : bad = 0
  · subst hb
    by_cases hlt : at_ < n
    · have d1 : decide ((at_ : Int) < (n : Int)) = true := decide_eq_true (by omega)
      rw [if_pos ⟨rfl, hlt⟩]
      go_enter Tryz.func36, Tryz.ntmps36
      go_wp2_with fail
      go_quiet (fail)
      go_wp2
      go_ret
      exact ⟨rfl, _, rfl⟩
    · have d1 : decide ((at_ : Int) < (n : Int)) = false := decide_eq_false (by omega)
      rw [if_neg (fun h => hlt h.2)]
      go_enter Tryz.func36, Tryz.ntmps36
      go_wp2_with fail
      go_quiet (fail)
      go_wp2
      go_ret
      exact ⟨rfl, _, rfl⟩
  · have d1 : (bad == 0) = false := by simpa using hb
    rw [if_neg (fun h => hb h.1)]
    go_enter Tryz.func36, Tryz.ntmps36
    go_wp2_with fail
    go_quiet (fail)
    go_wp2
    go_ret
    exact ⟨rfl, _, rfl⟩
end Go.Proofs.YtbheofibdogabaaGreat.Ss
