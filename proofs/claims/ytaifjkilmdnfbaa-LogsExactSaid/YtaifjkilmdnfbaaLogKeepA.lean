/- The keeper's Cmd, Call, Entry. -/
import Derived.Test.YtaifjkilmdnfbaaLogAt
import Derived.Test.YtaifjkilmdnfbaaCode5a0
import Derived.Test.YtaifjkilmdnfbaaCmds60
import Derived.Test.YtaifjkilmdnfbaaConfC2
namespace Go.Proofs.Ytaifjkilmdnfbaa.Lg
open Go Go.RowKit Vl Kv Ss Cn Mem Li Nm
attribute [local go_sem] Nm.run_bits Nm.run_frombits run_store_float
attribute [local irreducible] wpQuiet

theorem Cm.same_told (a b : Cm) : Cm.same a b = ((a.kind == b.kind) && (a.key.toList == b.key.toList) && a.old.same b.old && a.val.same b.val) := by
  unfold Cm.same; rw [key_test]
set_option maxHeartbeats 1600000 in
set_option maxRecDepth 100000 in
theorem keepCmd_any (a b : Cm) (w : World) :
    Calls Try.prog 68 #[a.agg, b.agg] w fun e w' => e = .returned (.bool (Cm.same a b)) ∧ Below w.heap.size w w' := by
  have HC := Lib.hid (Cm.same_told a b)
  have HT := Lib.hid (Bh.Two.start w a.obj b.obj)
  obtain ⟨ka, ya, oa, va⟩ := a
  obtain ⟨kb, yb, ob, vb⟩ := b
  unfold Cm.obj at HT
  dsimp only at HT HC
  cases h1 : ka == kb
  · go_enter Try.func68, Try.ntmps68
    go_wp2_with fail
    go_ret
    exact ⟨ret_bool (by rw [HC.out, h1]; rfl), HT.out.beh⟩
  cases h2 : (ya.toList == yb.toList)
  · go_enter Try.func68, Try.ntmps68
    go_wp2_with fail
    go_ret
    exact ⟨ret_bool (by rw [HC.out, h1, h2]; rfl), HT.out.beh⟩
  obtain ⟨ok, on, os⟩ := oa
  obtain ⟨ok', on', os'⟩ := ob
  obtain ⟨vk, vn, vs⟩ := va
  obtain ⟨vk', vn', vs'⟩ := vb
  dsimp only at HT
  cases h3 : (V.mk ok on os).same ⟨ok', on', os'⟩
  all_goals
    go_enter Try.func68, Try.ntmps68
    go_wp2_with (first | (go_at_call 75; refine (keepValue_any ⟨_, _, _⟩ ⟨_, _, _⟩ _).mono ?_; rintro e w' ⟨rfl, hb⟩; (first | rw [h3] | skip); (have HT := Lib.hid (HT.out.on hb)); clear hb; (obtain ⟨c0, c1, c2, c3, c4, c5, c6, c7⟩ := cells8 HT.out.a); (obtain ⟨d0, d1, d2, d3, d4, d5, d6, d7⟩ := cells8 HT.out.b)))
    go_ret
    exact ⟨ret_bool (by rw [HC.out, h1, h2, h3]; simp), HT.out.beh⟩
theorem cells10c {w : World} {b : Nat} {c : Cl} (h : w.heap[b]? = some c.obj) :
    w.cell? ⟨b, 0, none⟩ = some (.int .i64 c.client) ∧ w.cell? ⟨b, 1, none⟩ = some (.int .i64 c.seq) ∧ w.cell? ⟨b, 2, none⟩ = some (.int .i64 c.cmd.kind) ∧ w.cell? ⟨b, 3, none⟩ = some (.string c.cmd.key) ∧ w.cell? ⟨b, 4, none⟩ = some (.int .i64 c.cmd.old.kind) ∧ w.cell? ⟨b, 5, none⟩ = some (.float .f64 c.cmd.old.num) ∧ w.cell? ⟨b, 6, none⟩ = some (.string c.cmd.old.text) ∧ w.cell? ⟨b, 7, none⟩ = some (.int .i64 c.cmd.val.kind) ∧ w.cell? ⟨b, 8, none⟩ = some (.float .f64 c.cmd.val.num) ∧ w.cell? ⟨b, 9, none⟩ = some (.string c.cmd.val.text) := cells10 h
set_option maxHeartbeats 1600000 in
set_option maxRecDepth 100000 in
theorem keepCall_any (a b : Cl) (w : World) :
    Calls Try.prog 56 #[a.agg, b.agg] w fun e w' => e = .returned (.bool (Cl.same a b)) ∧ Below w.heap.size w w' := by
  have HC := Lib.hid (show Cl.same a b = ((a.client == b.client) && (a.seq == b.seq) && Cm.same a.cmd b.cmd) from rfl)
  have HT := Lib.hid (Bh.Two.start w a.obj b.obj)
  have HK := Lib.hid (keepCmd_any a.cmd b.cmd)
  obtain ⟨ca, sa, da⟩ := a
  obtain ⟨cb, sb, db⟩ := b
  unfold Cl.obj at HT
  dsimp only at HT HC HK
  generalize Cm.same da db = q at *
  cases h1 : ca == cb
  · go_enter Try.func56, Try.ntmps56
    go_wp2_with fail
    go_ret
    exact ⟨ret_bool (by rw [HC.out, h1]; rfl), HT.out.beh⟩
  cases h2 : sa == sb
  · go_enter Try.func56, Try.ntmps56
    go_wp2_with fail
    go_ret
    exact ⟨ret_bool (by rw [HC.out, h1, h2]; rfl), HT.out.beh⟩
  go_enter Try.func56, Try.ntmps56
  go_wp2_with (first | (go_at_call 68; refine (HK.out _).mono ?_; rintro e w' ⟨rfl, hb⟩; (have HT := Lib.hid (HT.out.on hb)); clear hb))
  go_ret
  exact ⟨ret_bool (by rw [HC.out, h1, h2]; rfl), HT.out.beh⟩
set_option maxHeartbeats 1600000 in
set_option maxRecDepth 100000 in
theorem keepEntry_self (x : E) (w : World) :
    Calls Try.prog 22 #[x.agg, x.agg] w fun e w' => e = .returned (.bool true) ∧ Below w.heap.size w w' := by
  have HT := Lib.hid (Bh.Two.start w x.obj x.obj)
  have HK : Hid (∀ w, Calls Try.prog 56 #[x.call.agg, x.call.agg] w fun e w' => e = .returned (.bool true) ∧ Below w.heap.size w w') := fun w => by
    have := keepCall_any x.call x.call w
    rwa [Cl.same_refl] at this
  have HN : Hid (∀ w, Calls Try.prog 26 #[x.conf.val, x.conf.val] w fun e w' => e = .returned (.bool true) ∧ Below w.heap.size w w') := fun w => by
    have := keepConf_any x.conf x.conf w
    rwa [decide_eq_true rfl] at this
  unfold E.obj at HT
  go_enter Try.func22, Try.ntmps22
  go_wp2_with (first
    | (go_at_call 56; refine (HK.out _).mono ?_; rintro e w' ⟨rfl, hb⟩; (have HT := Lib.hid (HT.out.on hb)); clear hb; (obtain ⟨c0, c1, c2, c3, c4, c5, c6, c7, c8, c9, c10, c11, c12, c13, c14, c15⟩ := cells16 HT.out.a); (obtain ⟨d0, d1, d2, d3, d4, d5, d6, d7, d8, d9, d10, d11, d12, d13, d14, d15⟩ := cells16 HT.out.b))
    | (go_at_call 26; refine (HN.out _).mono ?_; rintro e w' ⟨rfl, hb⟩; (have HT := Lib.hid (HT.out.on hb)); clear hb))
  go_ret
  exact ⟨rfl, HT.out.beh⟩
end Go.Proofs.Ytaifjkilmdnfbaa.Lg
