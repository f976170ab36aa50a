/- The landed Do and the reference's: both answer what is done. -/
import Derived.Test.YtbheofibdogabaaGreatDoB6
import Derived.Test.YtbheofibdogabaaGreatDoC6
import Derived.Test.YtbheofibdogabaaGreatRdA6
import Derived.Test.YtbheofibdogabaaGreatRdB6
import Derived.Test.YtbheofibdogabaaGreatRdC6
import Derived.Test.YtbheofibdogabaaGreatRdD6
import Derived.Test.YtbheofibdogabaaGreatRdE6
namespace Go.Proofs.YtbheofibdogabaaGreat.Kv
open Go Go.RowKit Vl Nm Mem

set_option maxRecDepth 100000 in
theorem Do_told (a : Option Addr) (cap : Nat) (L : List Pr) (c : Cm) (w : World) (h : PairsAt w a cap L) (hl : L.length ≤ 100000) (hF : Fits L) (hc : c.val.num < 18446744073709551616) :
    Calls Tryz.prog 62 #[.slice a L.length cap, c.agg] w (DoTold w (doing L c)) := by
  unfold doing
  split
  · rename_i hr
    exact do_not a cap L c w h hl hr
  · rename_i hr
    have hr : c.right = 0 := Decidable.not_not.1 hr
    split
    · rename_i hp
      exact do_bad a cap L c w h hl hr hp
    · rename_i hp
      have hp : rightP L = true := by cases e : rightP L; exact absurd e hp; rfl
      unfold put
      split
      · rename_i ha
        exact do_act a cap L c w h hl hr hp (hF.get _) hc ha
      · rename_i ha
        have ha : (act (get L c.key) c).code = 0 := Decidable.not_not.1 ha
        split
        · rename_i hf
          exact do_full a cap L c w h hr hp (hF.get _) hc ha hf
        · rename_i hf
          exact do_ok a cap L c w h hr hp (hF.get _) hc ha (by omega)
set_option maxRecDepth 100000 in
theorem refDo_told (a : Option Addr) (cap : Nat) (L : List Pr) (c : Cm) (w : World) (h : PairsAt w a cap L) (hl : L.length ≤ 100000) (hF : Fits L) (hc : c.val.num < 18446744073709551616) :
    Calls Tryz.prog 67 #[.slice a L.length cap, c.agg] w (DoTold w (doing L c)) := by
  by_cases hr : c.right = 0
  · by_cases hp : rightP L = true
    · have hd : doing L c = put L c.key (act (get L c.key) c) := by unfold doing; rw [if_neg (by omega), if_neg (by rw [hp]; decide)]
      rw [hd]
      obtain ⟨k1, k6, _⟩ := right_zero hr
      have hv := hF.get c.key
      rcases (show c.kind = 1 ∨ c.kind = 2 ∨ c.kind = 3 ∨ c.kind = 4 ∨ c.kind = 5 ∨ c.kind = 6 by omega) with hk | hk | hk | hk | hk | hk
      · have e : act (get L c.key) c = ⟨get L c.key, 0, get L c.key⟩ := by unfold act; rw [if_neg (by omega), if_neg (by omega), if_neg (by omega), if_neg (by omega), if_neg (by omega)]
        obtain ⟨_, _, k0, k8, _⟩ := right_zero hr
        have hs := (rightP_iff L).1 hp
        have e2 : put L c.key ⟨get L c.key, 0, get L c.key⟩ = ⟨L, 0, get L c.key⟩ := by
          unfold put
          rw [if_neg (show ¬ ((0 : Int) ≠ 0) by decide), if_neg (by show ¬ 32 < (set L c.key (get L c.key)).length; rw [set_get_self hs.2 k0 k8]; omega)]
          show Done.mk (set L c.key (get L c.key)) 0 (get L c.key) = _
          rw [set_get_self hs.2 k0 k8]
        rw [e, e2]
        exact refDo_get a cap L c w h hr hp hk
      · have e : act (get L c.key) c = ⟨c.val, 0, get L c.key⟩ := by unfold act; rw [if_pos hk]
        rw [e]
        unfold put
        rw [if_neg (show ¬ ((0 : Int) ≠ 0) by decide)]
        split
        · rename_i hf
          exact refDo_put_full a cap L c w h hr hp hk hf
        · rename_i hf
          exact refDo_put a cap L c w h hr hp hk (Nat.le_of_not_lt hf)
      · have e : act (get L c.key) c = ⟨V.zero, 0, get L c.key⟩ := by unfold act; rw [if_neg (by omega), if_pos hk]
        rw [e]
        unfold put
        rw [if_neg (show ¬ ((0 : Int) ≠ 0) by decide)]
        split
        · rename_i hf
          exact refDo_del_full a cap L c w h hr hp hk hf
        · rename_i hf
          exact refDo_del a cap L c w h hr hp hk (Nat.le_of_not_lt hf)
      · by_cases hs : (get L c.key).same c.old = true
        · have e : act (get L c.key) c = ⟨c.val, 0, get L c.key⟩ := by unfold act; rw [if_neg (by omega), if_neg (by omega), if_pos hk, if_pos hs]
          rw [e]
          unfold put
          rw [if_neg (show ¬ ((0 : Int) ≠ 0) by decide)]
          split
          · rename_i hf
            exact refDo_cas_full a cap L c w h hr hp hk hs hf
          · rename_i hf
            exact refDo_cas a cap L c w h hr hp hk hs (Nat.le_of_not_lt hf)
        · have e : act (get L c.key) c = ⟨V.zero, 9, get L c.key⟩ := by unfold act; rw [if_neg (by omega), if_neg (by omega), if_pos hk, if_neg hs]
          rw [e]
          exact refDo_other a cap L c w h hr hp hk (by simpa using hs)
      · have e : act (get L c.key) c = ⟨(joined sumC (get L c.key) c.val).1, (joined sumC (get L c.key) c.val).2, (joined sumC (get L c.key) c.val).1⟩ := by unfold act; rw [if_neg (by omega), if_neg (by omega), if_neg (by omega), if_pos hk]
        rw [e]
        by_cases hj : (joined sumC (get L c.key) c.val).2 = 0
        · unfold put
          rw [if_neg (by simpa using hj)]
          split
          · rename_i hf
            exact refDo_join5_full a cap L c w h hr hp hk hv hc hj hf
          · rename_i hf
            exact refDo_join5 a cap L c w h hr hp hk hv hc hj (Nat.le_of_not_lt hf)
        · unfold put
          rw [if_pos hj, joined_err2 hj]
          exact refDo_err5 a cap L c w h hr hp hk hv hc hj
      · have e : act (get L c.key) c = ⟨(joined maxF (get L c.key) c.val).1, (joined maxF (get L c.key) c.val).2, (joined maxF (get L c.key) c.val).1⟩ := by unfold act; rw [if_neg (by omega), if_neg (by omega), if_neg (by omega), if_neg (by omega), if_pos hk]
        rw [e]
        by_cases hj : (joined maxF (get L c.key) c.val).2 = 0
        · unfold put
          rw [if_neg (by simpa using hj)]
          split
          · rename_i hf
            exact refDo_join6_full a cap L c w h hr hp hk hv hc hj hf
          · rename_i hf
            exact refDo_join6 a cap L c w h hr hp hk hv hc hj (Nat.le_of_not_lt hf)
        · unfold put
          rw [if_pos hj, joined_err2 hj]
          exact refDo_err6 a cap L c w h hr hp hk hv hc hj
    · have hp : rightP L = false := by cases e : rightP L; rfl; exact absurd e hp
      have hd : doing L c = ⟨L, 6, V.zero⟩ := by unfold doing; rw [if_neg (by omega), if_pos hp]
      rw [hd]
      exact refDo_bad a cap L c w h hl hr hp
  · have hd : doing L c = ⟨L, c.right, V.zero⟩ := by unfold doing; rw [if_pos hr]
    rw [hd]
    exact refDo_not a cap L c w h hl hr
end Go.Proofs.YtbheofibdogabaaGreat.Kv
