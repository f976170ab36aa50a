/- The law's Heavy, looked; the keeper's Hard, of one log with itself. -/
import Derived.Test.YtaifjkilmdnfbaaLogKeepB
import Derived.Test.YtaifjkilmdnfbaaLogKeepC
import Derived.Test.YtaifjkilmdnfbaaBx
namespace Go.Proofs.Ytaifjkilmdnfbaa.Lg
open Go Go.RowKit Vl Kv Ss Cn Mem Li Nm
attribute [local go_sem] Nm.run_bits Nm.run_frombits run_store_float
attribute [local irreducible] wpQuiet
set_option maxHeartbeats 3200000 in
set_option maxRecDepth 100000 in
theorem heavy_any (h : H) (p : Hp) (w : World) (ha : HardAt w h p) :
    Calls Try.prog 11 #[h.val p] w fun e w' => e = .returned (.bool (heavyL h.log || decide (32768 < (h.snap.length : Int)))) ∧ Below w.heap.size w w' := by
  have HB := Lib.hid (Bh.Bx.one w (h.obj p))
  have hl := ha.snap.len
  have HV : Hid (∀ W, Kv.Beh w W → Calls Try.prog 36 #[.slice p.la h.log.length p.lc] W fun e w' => e = .returned (.bool (heavyL h.log)) ∧ Below W.heap.size W w') := fun W hW => heavyEnts_any p.la p.lc h.log W (ha.on hW).log
  clear ha
  generalize heavyL h.log = q at *
  obtain ⟨c0, c1, c2, c3, c4, c5, c6, c7, c8, c9⟩ := cells10h HB.out.b0
  cases q
  all_goals
    go_enter Try.func11, Try.ntmps11
    go_wp2_with (first | (go_at_call 36; refine Calls.mono (HV.out _ HB.out.beh) ?_; rintro e w' ⟨rfl, hb⟩; (have HB := Lib.hid (HB.out.on hb)); clear hb; (obtain ⟨c0, c1, c2, c3, c4, c5, c6, c7, c8, c9⟩ := cells10h HB.out.b0)))
    go_ret
    exact ⟨by first | rfl | simp, HB.out.beh⟩
def lookedB (h : H) : Bool := decide (0 ≤ h.base) && decide (h.base ≤ 1099511627776)
set_option maxHeartbeats 1600000 in
set_option maxRecDepth 100000 in
theorem looked_any (h : H) (p : Hp) (w : World) :
    Calls Try.prog 12 #[h.val p] w fun e w' => e = .returned (.bool (lookedB h)) ∧ Below w.heap.size w w' := by
  have HB := Lib.hid (Bh.Bx.one w (h.obj p))
  have HL := Lib.hid (show lookedB h = (decide (0 ≤ h.base) && decide (h.base ≤ 1099511627776)) from rfl)
  generalize lookedB h = q at *
  obtain ⟨c0, c1, c2, c3, c4, c5, c6, c7, c8, c9⟩ := cells10h HB.out.b0
  cases x1 : decide (0 ≤ h.base)
  all_goals
    go_enter Try.func12, Try.ntmps12
    go_wp2_with fail
    go_ret
    exact ⟨ret_bool (by rw [HL.out, x1]; simp), HB.out.beh⟩
theorem same_bytes {l : List Nat} {w : World} {x : Ending} {w' : World} (h : Kp.SameB l l w x w') : x = .returned (.bool true) ∧ Below w.heap.size w w' := by
  obtain ⟨h1, n, rfl⟩ := h
  rw [decide_eq_true rfl] at h1
  exact ⟨h1, Bh.below_drewN (Below.refl _ _) _⟩
set_option maxHeartbeats 3200000 in
set_option maxRecDepth 100000 in
theorem keepHard_self (h : H) (p q : Hp) (w : World) (ha : HardAt w h p) (hb : HardAt w h q) (hs : h.snap.length ≤ 100000) :
    Calls Try.prog 34 #[h.val p, h.val q] w fun e w' => e = .returned (.bool true) ∧ Below w.heap.size w w' := by
  have HB := Lib.hid (Bh.Bx.two w (h.obj p) (h.obj q))
  have HN : Hid (∀ w, Calls Try.prog 26 #[h.conf.val, h.conf.val] w fun e w' => e = .returned (.bool true) ∧ Below w.heap.size w w') := fun w => by
    have := keepConf_any h.conf h.conf w
    rwa [decide_eq_true rfl] at this
  have HY : Hid (∀ W, Kv.Beh w W → Calls Try.prog 49 #[.slice p.sa h.snap.length p.sc, .slice q.sa h.snap.length q.sc] W fun e w' => e = .returned (.bool true) ∧ Below W.heap.size W w') := fun W hW =>
    (Kp.KBytes_any p.sb p.sa p.sc h.snap q.sb q.sa q.sc h.snap W (ha.on hW).snap (hb.on hW).snap (by omega) (by omega)).mono fun e w' hx => same_bytes hx
  have HE : Hid (∀ W, Kv.Beh w W → Calls Try.prog 27 #[.slice p.la h.log.length p.lc, .slice q.la h.log.length q.lc] W fun e w' => e = .returned (.bool true) ∧ Below W.heap.size W w') := fun W hW => keepEnts_self _ _ _ _ _ W (ha.on hW).log (hb.on hW).log
  clear ha hb
  obtain ⟨c0, c1, c2, c3, c4, c5, c6, c7, c8, c9⟩ := cells10h HB.out.b0
  obtain ⟨d0, d1, d2, d3, d4, d5, d6, d7, d8, d9⟩ := cells10h HB.out.b1
  go_enter Try.func34, Try.ntmps34
  go_wp2_with (first
    | (go_at_call 26; refine Calls.mono (HN.out _) ?_; rintro e w' ⟨rfl, hb⟩; (have HB := Lib.hid (HB.out.on hb)); clear hb; (obtain ⟨c0, c1, c2, c3, c4, c5, c6, c7, c8, c9⟩ := cells10h HB.out.b0); (obtain ⟨d0, d1, d2, d3, d4, d5, d6, d7, d8, d9⟩ := cells10h HB.out.b1))
    | (go_at_call 49; refine Calls.mono (HY.out _ HB.out.beh) ?_; rintro e w' ⟨rfl, hb⟩; (have HB := Lib.hid (HB.out.on hb)); clear hb; (obtain ⟨c0, c1, c2, c3, c4, c5, c6, c7, c8, c9⟩ := cells10h HB.out.b0); (obtain ⟨d0, d1, d2, d3, d4, d5, d6, d7, d8, d9⟩ := cells10h HB.out.b1))
    | (go_at_call 27; refine Calls.mono (HE.out _ HB.out.beh) ?_; rintro e w' ⟨rfl, hb⟩; (have HB := Lib.hid (HB.out.on hb)); clear hb))
  go_ret
  exact ⟨rfl, HB.out.beh⟩
end Go.Proofs.Ytaifjkilmdnfbaa.Lg
