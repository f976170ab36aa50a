import Derived.Test.YtaengjgmchpabaaGreatMergeWr41
import Derived.Test.YtaengjgmchpabaaGreatMergeWr25
/- The law's flat: more than is played, but for inner ones. -/
namespace Go.Proofs.YtaengjgmchpabaaGreat.Wr
open Go Go.RowKit Vl Kv Ss Cn Lg Li Nm
attribute [local go_sem] Nm.run_bits Nm.run_frombits run_store_float
def heavyF (f : Fl) : Bool := heavyL f.ents || decide (32768 < (f.snap.length : Int))
set_option maxHeartbeats 3200000 in
set_option maxRecDepth 100000 in
theorem heavyFlat_any (x : Mr) (w : World) (ha : FlAt w x) :
    Calls Tryz.prog 14 #[x.val] w fun e w' => e = .returned (.bool (heavyF x.1)) ∧ Below w.heap.size w w' := by
  have HB := Lib.hid (Bh.Bx.one w x.obj)
  have hl := ha.snap.len
  have HV : Hid (∀ W, Kv.Beh w W → Calls Tryz.prog 32 #[.slice x.2.ea x.1.ents.length x.2.ec] W fun e w' => e = .returned (.bool (heavyL x.1.ents)) ∧ Below W.heap.size W w') := fun W hW => heavyEnts_any x.2.ea x.2.ec x.1.ents W (ha.on hW).ents
  have HC := Lib.hid (show heavyF x.1 = (heavyL x.1.ents || decide (32768 < (x.1.snap.length : Int))) from rfl)
  clear ha
  generalize heavyL x.1.ents = q at *
  obtain ⟨c0, c1, c2, c3, c4, c5, c6, c7, c8, c9, c10, c11, c12, c13, c14, c15⟩ := cells16m (x := x) HB.out.b0
  cases q
  all_goals
    go_enter Tryz.func14, Tryz.ntmps14
    go_wp2_with (first | (go_at_call 32; refine Calls.mono (HV.out _ HB.out.beh) ?_; rintro e w' ⟨rfl, hb⟩; (have HB := Lib.hid (HB.out.on hb)); clear hb; (obtain ⟨c0, c1, c2, c3, c4, c5, c6, c7, c8, c9, c10, c11, c12, c13, c14, c15⟩ := cells16m (x := x) HB.out.b0)))
    go_ret
    exact ⟨ret_bool (by rw [HC.out]; simp), HB.out.beh⟩
end Go.Proofs.YtaengjgmchpabaaGreat.Wr
