/- The landed Do: what is thrown is caught. -/
import Derived.Test.YtlgmjkbaihpmmaaWith6
import Derived.Test.YtlgmjkbaihpmmaaChk6
import Derived.Test.YtlgmjkbaihpmmaaGet6
import Derived.Defers
import Derived.Recover
namespace Go.Proofs.Ytlgmjkbaihpmmaa.Kv
open Go Go.RowKit Vl Nm Mem
attribute [local go_sem] run_bits run_frombits run_store_float

set_option maxRecDepth 100000 in
theorem joined_err2 {f : Nat → Nat → Nat} {a b : V} (h : (joined f a b).2 ≠ 0) : (joined f a b).1 = V.zero := by
  revert h
  unfold joined
  split
  · exact fun _ => rfl
  · split
    · exact fun _ => rfl
    · split
      · exact fun h => absurd rfl h
      · split
        · exact fun _ => rfl
        · exact fun h => absurd rfl h
set_option maxRecDepth 100000 in
/-- work, all ways -/
theorem work_told (v : V) (c : Cm) (hv : v.num < 18446744073709551616) (hc : c.val.num < 18446744073709551616) (w : World) :
    Calls Try.prog 36 #[v.val, c.agg] w fun e w' => e = (if (act v c).code = 0 then .returned (.tuple #[(act v c).next.val, (act v c).told.val]) else .panicked (thrown (act v c).code (act v c).told)) ∧ Below w.heap.size w w' := by
  have z0 : ((0 : Int) = 0) = True := eq_self 0
  by_cases h2 : c.kind = 2
  · have e : act v c = ⟨c.val, 0, v⟩ := by unfold act; rw [if_pos h2]
    rw [e, if_pos rfl]; exact work_put v c h2 w
  · by_cases h3 : c.kind = 3
    · have e : act v c = ⟨V.zero, 0, v⟩ := by unfold act; rw [if_neg h2, if_pos h3]
      rw [e, if_pos rfl]; exact work_del v c h3 w
    · by_cases h4 : c.kind = 4
      · by_cases hs : v.same c.old = true
        · have e : act v c = ⟨c.val, 0, v⟩ := by unfold act; rw [if_neg h2, if_neg h3, if_pos h4, if_pos hs]
          rw [e, if_pos rfl]; exact work_cas v c h4 hs w
        · have hs' : v.same c.old = false := by simpa using hs
          have e : act v c = ⟨V.zero, 9, v⟩ := by unfold act; rw [if_neg h2, if_neg h3, if_pos h4, if_neg hs]
          rw [e, if_neg (show ¬ (9 : Int) = 0 by decide)]; exact work_other v c h4 hs' w
      · by_cases h5 : c.kind = 5
        · have e : act v c = ⟨(joined sumC v c.val).1, (joined sumC v c.val).2, (joined sumC v c.val).1⟩ := by unfold act; rw [if_neg h2, if_neg h3, if_neg h4, if_pos h5]
          rw [e]
          by_cases hj : (joined sumC v c.val).2 = 0
          · rw [if_pos hj]; exact work_add v c h5 hv hc hj w
          · rw [if_neg hj]
            have hz : (joined sumC v c.val).1 = V.zero := joined_err2 hj
            show Calls _ _ _ _ (fun e w' => e = .panicked (thrown (joined sumC v c.val).2 (joined sumC v c.val).1) ∧ _)
            rw [hz]
            exact work_add_not v c h5 hv hc hj w
        · by_cases h6 : c.kind = 6
          · have e : act v c = ⟨(joined maxF v c.val).1, (joined maxF v c.val).2, (joined maxF v c.val).1⟩ := by unfold act; rw [if_neg h2, if_neg h3, if_neg h4, if_neg h5, if_pos h6]
            rw [e]
            by_cases hj : (joined maxF v c.val).2 = 0
            · rw [if_pos hj]; exact work_max v c h6 hv hc hj w
            · rw [if_neg hj]
              have hz : (joined maxF v c.val).1 = V.zero := joined_err2 hj
              show Calls _ _ _ _ (fun e w' => e = .panicked (thrown (joined maxF v c.val).2 (joined maxF v c.val).1) ∧ _)
              rw [hz]
              exact work_max_not v c h6 hv hc hj w
          · have e : act v c = ⟨v, 0, v⟩ := by unfold act; rw [if_neg h2, if_neg h3, if_neg h4, if_neg h5, if_neg h6]
            rw [e, if_pos rfl]; exact work_get v c h2 h3 h4 h5 h6 w
set_option maxRecDepth 100000 in
theorem run_assert (v : Value) (w : World) : (Instr.typeAssert (.iface 38 v) 20 38 false).run Try.prog w = .ok v w := by
  simp [Instr.typeAssert, run_underlying Try.underlying38]
/-- the blocks of a call of Do: the pairs, the command, the two results -/
structure Dk (w0 w : World) (a : Option Addr) (n cap : Nat) (c : Cm) (x : Value) (r : Obj) : Prop where
  b0 : w.heap[w0.heap.size]? = some (.cells #[.slice a n cap] 31)
  b1 : w.heap[w0.heap.size + 1]? = some c.obj
  b2 : w.heap[w0.heap.size + 1 + 1]? = some (.cells #[x] 31)
  b3 : w.heap[w0.heap.size + 1 + 1 + 1]? = some r
  beh : Beh w0 w
set_option maxRecDepth 100000 in
theorem heap_seto {w : World} {b : Nat} {o : Obj} (h : w.heap[b]? = some o) {k : Nat} (i : Nat) (ha : k ≠ b) (v : Value) : (w.setCell ⟨k, i, none⟩ v).heap[b]? = some o := by
  rw [Below.heap_setCell _ _ _ _ (fun e => ha e.symm)]; exact h
set_option maxRecDepth 100000 in
theorem Made.set {w0 w : World} {b : Nat} {a : Option Addr} {cap : Nat} {L : List Pr} (m : Made w0 w b a cap L) {k : Nat} (h0 : w0.heap.size ≤ k) (hk : k < b) (i : Nat) (v : Value) : Made w0 (w.setCell ⟨k, i, none⟩ v) b a cap L :=
  ⟨OwnC.kept m.own ((Kept.refl (Only k) _).setAt (.inl rfl) i v) (fun _ e => by have : b = k := e; omega), m.new, m.beh.set h0 i v⟩
set_option maxRecDepth 100000 in
/-- the two results stored: one cell, and four -/
theorem stored_two {w : World} {p q : Nat} {x y r0 r1 r2 r3 c0 c1 c2 c3 : Value} {t u : TypeId} (hp : w.heap[p]? = some (.cells #[x] t)) (hq : w.heap[q]? = some (.cells #[r0, r1, r2, r3] u)) (hpq : p ≠ q) :
    (((((w.setCell ⟨p, 0, none⟩ y).setCell ⟨q, 0, none⟩ c0).setCell ⟨q, 1, none⟩ c1).setCell ⟨q, 2, none⟩ c2).setCell ⟨q, 3, none⟩ c3).heap[p]? = some (.cells #[y] t) ∧
    (((((w.setCell ⟨p, 0, none⟩ y).setCell ⟨q, 0, none⟩ c0).setCell ⟨q, 1, none⟩ c1).setCell ⟨q, 2, none⟩ c2).setCell ⟨q, 3, none⟩ c3).heap[q]? = some (.cells #[c0, c1, c2, c3] u) :=
  ⟨heap_seto (heap_seto (heap_seto (heap_seto (heap_setc hp) 0 hpq.symm _) 1 hpq.symm _) 2 hpq.symm _) 3 hpq.symm _, heap_setc (heap_setc (heap_setc (heap_setc (heap_seto hq 0 hpq _))))⟩
set_option maxRecDepth 100000 in
theorem Dk.on {w0 w w' : World} {a : Option Addr} {n cap : Nat} {c : Cm} {x : Value} {r : Obj} (h : Dk w0 w a n cap c x r) (hb : Below w.heap.size w w') : Dk w0 w' a n cap c x r :=
  ⟨box_on h.b0 hb, box_on h.b1 hb, box_on h.b2 hb, box_on h.b3 hb, h.beh.on hb⟩
set_option maxRecDepth 100000 in
/-- where nothing was thrown, nothing is done -/
theorem catch_idle (p0 p1 p2 : Value) (w : World) :
    CallsD Try.prog 33 #[p0, p1, p2] .returning w fun e u' w' => e = .returned (.tuple #[]) ∧ u' = .returning ∧ w' = w := by
  refine callsD_of_wpS Try.func33 rfl fun c₀ cs hu => ?_
  apply wpS_seq
  apply wpS_region
  simp [wpOpsS, go_sem, recoverD, hu, Try.ntmps33, Exit.thenS]
  show Code.wpS _ _ _ { tmps := #[p0, p1, p2, .nilIface, .nilIface, undef, undef, undef, undef, undef, undef], defers := [] } _ _
  refine wpS_of_wp ?_
  go_wp2
  cases c₀
  simp_all [bodyPostS, results, Try.results33]
set_option maxRecDepth 100000 in
theorem catch_thrown (w0 w : World) (a : Option Addr) (cap : Nat) (L : List Pr) (c : Cm) (code : Int) (v : V) (h : PairsAt w a cap L) (hl : L.length ≤ 100000) (x : Value) (r : Value × Value × Value × Value)
    (HD : Dk w0 w a L.length cap c x (.cells #[r.1, r.2.1, r.2.2.1, r.2.2.2] 38)) :
    CallsD Try.prog 33 #[.pointer (some ⟨w0.heap.size, 0, none⟩), .pointer (some ⟨w0.heap.size + 1 + 1, 0, none⟩), .pointer (some ⟨w0.heap.size + 1 + 1 + 1, 0, none⟩)] (.panicking (thrown code v)) w fun e u' w' =>
      e = .returned (.tuple #[]) ∧ u' = .panicking [{ v := .iface 38 (rep code v), recovered := true }] ∧
      ∃ b' a' cap', Made w0 w' b' a' cap' L ∧ w0.heap.size + 4 ≤ b' ∧ w'.cell? ⟨w0.heap.size + 1 + 1, 0, none⟩ = some (.slice a' L.length cap') ∧ w'.heap[w0.heap.size + 1 + 1 + 1]? = some (repObj code v) := by
  refine callsD_of_wpS Try.func33 rfl fun c₀ cs hu => ?_
  unfold thrown at hu
  apply wpS_seq
  apply wpS_region
  simp [wpOpsS, go_sem, recoverD, hu, Try.ntmps33, Exit.thenS]
  show Code.wpS _ _ _ { tmps := #[.pointer (some ⟨w0.heap.size, 0, none⟩), .pointer (some ⟨w0.heap.size + 1 + 1, 0, none⟩), .pointer (some ⟨w0.heap.size + 1 + 1 + 1, 0, none⟩), .iface 38 (rep code v), .iface 38 (rep code v), undef, undef, undef, undef, undef, undef], defers := [] } _ _
  refine wpS_of_wp ?_
  have l0 := cells1 HD.b0
  go_wp2_with fail
  have HI := Lib.hid h
  have HDD := Lib.hid HD
  clear h HD
  have hra := fun w => run_assert (rep code v) w
  obtain ⟨r0, r1, r2, r3⟩ := r
  dsimp only at HDD
  go_region_with ((go_at_call 34; refine Calls.mono (clone_any _ _ _ _ (by exact HI.out.below ((Beh.start _).drew)) (by exact hl)) ?_; rintro e w1 ⟨b', a', cap', rfl, hm⟩; (have HM := Lib.hid hm); clear hm; (have HD1 := Lib.hid (HDD.out.on (Beh.trans ((Beh.start _).drew) HM.out.beh))); (have x0 := cells1 HD1.out.b2); (have x1 := frozen_of HD1.out.b2 0); obtain ⟨y0, y1, y2, y3⟩ := cells4 HD1.out.b3; (have z0 := frozen_of HD1.out.b3 0); (have z1 := frozen_of HD1.out.b3 1); (have z2 := frozen_of HD1.out.b3 2); (have z3 := frozen_of HD1.out.b3 3)))
  all_goals
    have hlt := heap_lt HDD.out.b3
    have hbn : w.heap.size ≤ b' := HM.out.new
    obtain ⟨hs1, hs2⟩ := stored_two (y := .slice a' L.length cap') (c0 := .int .i64 code) (c1 := .int .i64 v.kind) (c2 := .float .f64 v.num) (c3 := .string v.text) HD1.out.b2 HD1.out.b3 (by omega)
    refine ⟨rfl, .panicking [{ v := .iface 38 (rep code v), recovered := true }], rfl, .tuple #[], results_none rfl _ _ _, rfl, rfl, b', a', cap', ?_, by omega, cells1 hs1, hs2⟩
    exact (((((HM.out.from (HDD.out.beh.drew)).set (by omega) (by omega) _ _).set (by omega) (by omega) _ _).set (by omega) (by omega) _ _).set (by omega) (by omega) _ _).set (by omega) (by omega) _ _
end Go.Proofs.Ytlgmjkbaihpmmaa.Kv
