import Derived.Test.YtjdebdfbjcpjgaaMergeWrHv
import Derived.Test.YtjdebdfbjcpjgaaMergeWr9
/- The keeper's Entry, of any two. -/
namespace Go.Proofs.Ytjdebdfbjcpjgaa.Wr
open Go Go.RowKit Vl Kv Ss Cn Lg Nm
attribute [local go_sem] Nm.run_bits Nm.run_frombits run_store_float
def E.same (x y : E) : Bool := (x.term == y.term) && (x.kind == y.kind) && Cl.same x.call y.call && decide (x.conf = y.conf)
theorem E.same_refl (x : E) : E.same x x = true := by unfold E.same; simp [Cl.same_refl]
set_option maxHeartbeats 3200000 in
set_option maxRecDepth 100000 in
theorem keepEntry_any (x y : E) (w : World) :
    Calls Try.prog 16 #[x.agg, y.agg] w fun e w' => e = .returned (.bool (E.same x y)) ∧ Below w.heap.size w w' := by
  have HT := Lib.hid (Bh.Two.start w x.obj y.obj)
  have HK := fun w => Lib.hid (keepCall_any x.call y.call w)
  have HN := fun w => Lib.hid (keepConf_any x.conf y.conf w)
  obtain ⟨xt, xk, xc, xf⟩ := x
  obtain ⟨yt, yk, yc, yf⟩ := y
  have HC := Lib.hid (show E.same ⟨xt, xk, xc, xf⟩ ⟨yt, yk, yc, yf⟩ = ((xt == yt) && (xk == yk) && Cl.same xc yc && decide (xf = yf)) from rfl)
  unfold E.obj at HT
  dsimp only at HT HK HN
  generalize Cl.same xc yc = q at *
  generalize decide (xf = yf) = r at *
  cases h1 : xt == yt
  · go_enter Try.func16, Try.ntmps16
    go_wp2_with fail
    go_ret
    exact ⟨ret_bool (by rw [HC.out, h1]; rfl), HT.out.beh⟩
  cases h2 : xk == yk
  · go_enter Try.func16, Try.ntmps16
    go_wp2_with fail
    go_ret
    exact ⟨ret_bool (by rw [HC.out, h1, h2]; rfl), HT.out.beh⟩
  cases q
  · go_enter Try.func16, Try.ntmps16
    go_wp2_with (go_at_call 41; refine ((HK _).out).mono ?_; rintro e w' ⟨rfl, hb⟩; (have HT := Lib.hid (HT.out.on hb)); clear hb)
    go_ret
    exact ⟨ret_bool (by rw [HC.out, h1, h2]; rfl), HT.out.beh⟩
  go_enter Try.func16, Try.ntmps16
  go_wp2_with (first
    | (go_at_call 41; refine ((HK _).out).mono ?_; rintro e w' ⟨rfl, hb⟩; (have HT := Lib.hid (HT.out.on hb)); clear hb; (obtain ⟨c0, c1, c2, c3, c4, c5, c6, c7, c8, c9, c10, c11, c12, c13, c14, c15⟩ := cells16 HT.out.a); (obtain ⟨d0, d1, d2, d3, d4, d5, d6, d7, d8, d9, d10, d11, d12, d13, d14, d15⟩ := cells16 HT.out.b))
    | (go_at_call 42; refine ((HN _).out).mono ?_; rintro e w' ⟨rfl, hb⟩; (have HT := Lib.hid (HT.out.on hb)); clear hb))
  go_ret
  exact ⟨ret_bool (by rw [HC.out, h1, h2]; simp), HT.out.beh⟩
end Go.Proofs.Ytjdebdfbjcpjgaa.Wr
