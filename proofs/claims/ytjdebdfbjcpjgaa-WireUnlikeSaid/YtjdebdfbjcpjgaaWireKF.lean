import Derived.Test.YtjdebdfbjcpjgaaWireKL
import Derived.Test.YtjdebdfbjcpjgaaMergeWr20
import Derived.Test.YtjdebdfbjcpjgaaKeepB
/- The keeper's flat, of any two messages. -/
namespace Go.Proofs.Ytjdebdfbjcpjgaa.Wr
open Go Go.RowKit Vl Kv Ss Cn Lg Li Nm
attribute [local go_sem] Nm.run_bits Nm.run_frombits run_store_float
/-- but for how many inner ones -/
def Fl.same (f g : Fl) : Bool := (f.kind == g.kind) && (f.from_ == g.from_) && (f.to == g.to) && (f.term == g.term) && (f.index == g.index) && (f.logt == g.logt) && (f.commit == g.commit) && (f.round == g.round) && (f.yes == g.yes) && sameBy E.same E.zero f.ents g.ents && decide (f.conf = g.conf) && decide (f.snap = g.snap)
theorem Fl.same_refl (f : Fl) : Fl.same f f = true := by unfold Fl.same; simp [sameBy_refl E.same_refl]
def Mr.same (x y : Mr) : Bool := Fl.same x.1 y.1 && decide (x.2.n = y.2.n)
theorem int_beq_nat (n m : Nat) : ((n : Int) == (m : Int)) = decide (n = m) := by
  rw [Bool.eq_iff_iff, beq_iff_eq, decide_eq_true_eq]; omega
set_option maxHeartbeats 51200000 in
set_option maxRecDepth 100000 in
theorem keepFlat_any (x y : Mr) (w : World) (hx : FlAt w x) (hy : FlAt w y) (hsx : x.1.snap.length ≤ 100000) (hsy : y.1.snap.length ≤ 100000) :
    Calls Try.prog 63 #[x.val, y.val] w fun e w' => e = .returned (.bool (Mr.same x y)) ∧ Below w.heap.size w w' := by
  have HT := Lib.hid (Bh.Two.start w x.obj y.obj)
  have HE : Hid (∀ W, Kv.Beh w W → Calls Try.prog 56 #[.slice x.2.ea x.1.ents.length x.2.ec, .slice y.2.ea y.1.ents.length y.2.ec] W fun e w' => e = .returned (.bool (sameBy E.same E.zero x.1.ents y.1.ents)) ∧ Below W.heap.size W w') := fun W hW => keepEnts_any _ _ _ _ _ _ W (hx.on hW).ents (hy.on hW).ents
  have HN : Hid (∀ W, Kv.Beh w W → Calls Try.prog 42 #[x.1.conf.val, y.1.conf.val] W fun e w' => e = .returned (.bool (decide (x.1.conf = y.1.conf))) ∧ Below W.heap.size W w') := fun W _ => keepConf_any _ _ W
  have HY : Hid (∀ W, Kv.Beh w W → Calls Try.prog 13 #[.slice x.2.sa x.1.snap.length x.2.sc, .slice y.2.sa y.1.snap.length y.2.sc] W fun e w' => e = .returned (.bool (decide (x.1.snap = y.1.snap))) ∧ Below W.heap.size W w') := fun W hW =>
    (Kp.KBytes_any _ _ _ _ _ _ _ _ W (hx.on hW).snap (hy.on hW).snap (by omega) (by omega)).mono fun e w' h => by
      obtain ⟨h1, n, rfl⟩ := h
      exact ⟨h1, Bh.below_drewN (Below.refl _ _) _⟩
  clear hx hy hsx hsy
  obtain ⟨⟨x0, x1, x2, x3, x4, x5, x6, x7, xy, xe, xc, xs⟩, xp⟩ := x
  obtain ⟨⟨y0, y1, y2, y3, y4, y5, y6, y7, yy, ye, yc, ys⟩, yp⟩ := y
  have HC := Lib.hid (show Mr.same (⟨x0, x1, x2, x3, x4, x5, x6, x7, xy, xe, xc, xs⟩, xp) (⟨y0, y1, y2, y3, y4, y5, y6, y7, yy, ye, yc, ys⟩, yp) = ((x0 == y0) && (x1 == y1) && (x2 == y2) && (x3 == y3) && (x4 == y4) && (x5 == y5) && (x6 == y6) && (x7 == y7) && (xy == yy) && sameBy E.same E.zero xe ye && decide (xc = yc) && decide (xs = ys) && ((xp.n : Int) == (yp.n : Int))) by unfold Mr.same Fl.same; rw [int_beq_nat])
  dsimp only at HE HN HY
  unfold Mr.obj at HT
  dsimp only at HT
  generalize sameBy E.same E.zero xe ye = q1 at *
  generalize decide (xc = yc) = q2 at *
  generalize decide (xs = ys) = q3 at *
  (obtain ⟨c0, c1, c2, c3, c4, c5, c6, c7, c8, c9, c10, c11, c12, c13, c14, c15⟩ := Lg.cells16 HT.out.a)
  (obtain ⟨d0, d1, d2, d3, d4, d5, d6, d7, d8, d9, d10, d11, d12, d13, d14, d15⟩ := Lg.cells16 HT.out.b)
  cases h0 : x0 == y0
  · go_enter Try.func63, Try.ntmps63
    go_wp2_with fail
    go_ret
    exact ⟨ret_bool (by rw [HC.out, h0]; simp), HT.out.beh⟩
  cases h1 : x1 == y1
  · go_enter Try.func63, Try.ntmps63
    go_wp2_with fail
    go_ret
    exact ⟨ret_bool (by rw [HC.out, h0, h1]; simp), HT.out.beh⟩
  cases h2 : x2 == y2
  · go_enter Try.func63, Try.ntmps63
    go_wp2_with fail
    go_ret
    exact ⟨ret_bool (by rw [HC.out, h0, h1, h2]; simp), HT.out.beh⟩
  cases h3 : x3 == y3
  · go_enter Try.func63, Try.ntmps63
    go_wp2_with fail
    go_ret
    exact ⟨ret_bool (by rw [HC.out, h0, h1, h2, h3]; simp), HT.out.beh⟩
  cases h4 : x4 == y4
  · go_enter Try.func63, Try.ntmps63
    go_wp2_with fail
    go_ret
    exact ⟨ret_bool (by rw [HC.out, h0, h1, h2, h3, h4]; simp), HT.out.beh⟩
  cases h5 : x5 == y5
  · go_enter Try.func63, Try.ntmps63
    go_wp2_with fail
    go_ret
    exact ⟨ret_bool (by rw [HC.out, h0, h1, h2, h3, h4, h5]; simp), HT.out.beh⟩
  cases h6 : x6 == y6
  · go_enter Try.func63, Try.ntmps63
    go_wp2_with fail
    go_ret
    exact ⟨ret_bool (by rw [HC.out, h0, h1, h2, h3, h4, h5, h6]; simp), HT.out.beh⟩
  cases h7 : x7 == y7
  · go_enter Try.func63, Try.ntmps63
    go_wp2_with fail
    go_ret
    exact ⟨ret_bool (by rw [HC.out, h0, h1, h2, h3, h4, h5, h6, h7]; simp), HT.out.beh⟩
  cases h8 : xy == yy
  · go_enter Try.func63, Try.ntmps63
    go_wp2_with fail
    go_ret
    exact ⟨ret_bool (by rw [HC.out, h0, h1, h2, h3, h4, h5, h6, h7, h8]; simp), HT.out.beh⟩
  cases q1
  · go_enter Try.func63, Try.ntmps63
    go_wp2_with (first
      | (go_at_call 56; refine (HE.out _ HT.out.beh).mono ?_; rintro e w' ⟨rfl, hb⟩; (have HT := Lib.hid (HT.out.on hb)); clear hb; (obtain ⟨c0, c1, c2, c3, c4, c5, c6, c7, c8, c9, c10, c11, c12, c13, c14, c15⟩ := Lg.cells16 HT.out.a); (obtain ⟨d0, d1, d2, d3, d4, d5, d6, d7, d8, d9, d10, d11, d12, d13, d14, d15⟩ := Lg.cells16 HT.out.b))
      | (go_at_call 42; refine (HN.out _ HT.out.beh).mono ?_; rintro e w' ⟨rfl, hb⟩; (have HT := Lib.hid (HT.out.on hb)); clear hb; (obtain ⟨c0, c1, c2, c3, c4, c5, c6, c7, c8, c9, c10, c11, c12, c13, c14, c15⟩ := Lg.cells16 HT.out.a); (obtain ⟨d0, d1, d2, d3, d4, d5, d6, d7, d8, d9, d10, d11, d12, d13, d14, d15⟩ := Lg.cells16 HT.out.b))
      | (go_at_call 13; refine (HY.out _ HT.out.beh).mono ?_; rintro e w' ⟨rfl, hb⟩; (have HT := Lib.hid (HT.out.on hb)); clear hb; (obtain ⟨c0, c1, c2, c3, c4, c5, c6, c7, c8, c9, c10, c11, c12, c13, c14, c15⟩ := Lg.cells16 HT.out.a); (obtain ⟨d0, d1, d2, d3, d4, d5, d6, d7, d8, d9, d10, d11, d12, d13, d14, d15⟩ := Lg.cells16 HT.out.b)))
    go_ret
    exact ⟨ret_bool (by rw [HC.out, h0, h1, h2, h3, h4, h5, h6, h7, h8]; simp), HT.out.beh⟩
  cases q2
  · go_enter Try.func63, Try.ntmps63
    go_wp2_with (first
      | (go_at_call 56; refine (HE.out _ HT.out.beh).mono ?_; rintro e w' ⟨rfl, hb⟩; (have HT := Lib.hid (HT.out.on hb)); clear hb; (obtain ⟨c0, c1, c2, c3, c4, c5, c6, c7, c8, c9, c10, c11, c12, c13, c14, c15⟩ := Lg.cells16 HT.out.a); (obtain ⟨d0, d1, d2, d3, d4, d5, d6, d7, d8, d9, d10, d11, d12, d13, d14, d15⟩ := Lg.cells16 HT.out.b))
      | (go_at_call 42; refine (HN.out _ HT.out.beh).mono ?_; rintro e w' ⟨rfl, hb⟩; (have HT := Lib.hid (HT.out.on hb)); clear hb; (obtain ⟨c0, c1, c2, c3, c4, c5, c6, c7, c8, c9, c10, c11, c12, c13, c14, c15⟩ := Lg.cells16 HT.out.a); (obtain ⟨d0, d1, d2, d3, d4, d5, d6, d7, d8, d9, d10, d11, d12, d13, d14, d15⟩ := Lg.cells16 HT.out.b))
      | (go_at_call 13; refine (HY.out _ HT.out.beh).mono ?_; rintro e w' ⟨rfl, hb⟩; (have HT := Lib.hid (HT.out.on hb)); clear hb; (obtain ⟨c0, c1, c2, c3, c4, c5, c6, c7, c8, c9, c10, c11, c12, c13, c14, c15⟩ := Lg.cells16 HT.out.a); (obtain ⟨d0, d1, d2, d3, d4, d5, d6, d7, d8, d9, d10, d11, d12, d13, d14, d15⟩ := Lg.cells16 HT.out.b)))
    go_ret
    exact ⟨ret_bool (by rw [HC.out, h0, h1, h2, h3, h4, h5, h6, h7, h8]; simp), HT.out.beh⟩
  cases q3
  · go_enter Try.func63, Try.ntmps63
    go_wp2_with (first
      | (go_at_call 56; refine (HE.out _ HT.out.beh).mono ?_; rintro e w' ⟨rfl, hb⟩; (have HT := Lib.hid (HT.out.on hb)); clear hb; (obtain ⟨c0, c1, c2, c3, c4, c5, c6, c7, c8, c9, c10, c11, c12, c13, c14, c15⟩ := Lg.cells16 HT.out.a); (obtain ⟨d0, d1, d2, d3, d4, d5, d6, d7, d8, d9, d10, d11, d12, d13, d14, d15⟩ := Lg.cells16 HT.out.b))
      | (go_at_call 42; refine (HN.out _ HT.out.beh).mono ?_; rintro e w' ⟨rfl, hb⟩; (have HT := Lib.hid (HT.out.on hb)); clear hb; (obtain ⟨c0, c1, c2, c3, c4, c5, c6, c7, c8, c9, c10, c11, c12, c13, c14, c15⟩ := Lg.cells16 HT.out.a); (obtain ⟨d0, d1, d2, d3, d4, d5, d6, d7, d8, d9, d10, d11, d12, d13, d14, d15⟩ := Lg.cells16 HT.out.b))
      | (go_at_call 13; refine (HY.out _ HT.out.beh).mono ?_; rintro e w' ⟨rfl, hb⟩; (have HT := Lib.hid (HT.out.on hb)); clear hb; (obtain ⟨c0, c1, c2, c3, c4, c5, c6, c7, c8, c9, c10, c11, c12, c13, c14, c15⟩ := Lg.cells16 HT.out.a); (obtain ⟨d0, d1, d2, d3, d4, d5, d6, d7, d8, d9, d10, d11, d12, d13, d14, d15⟩ := Lg.cells16 HT.out.b)))
    go_ret
    exact ⟨ret_bool (by rw [HC.out, h0, h1, h2, h3, h4, h5, h6, h7, h8]; simp), HT.out.beh⟩
  cases h9 : (xp.n : Int) == (yp.n : Int)
  · go_enter Try.func63, Try.ntmps63
    go_wp2_with (first
      | (go_at_call 56; refine (HE.out _ HT.out.beh).mono ?_; rintro e w' ⟨rfl, hb⟩; (have HT := Lib.hid (HT.out.on hb)); clear hb; (obtain ⟨c0, c1, c2, c3, c4, c5, c6, c7, c8, c9, c10, c11, c12, c13, c14, c15⟩ := Lg.cells16 HT.out.a); (obtain ⟨d0, d1, d2, d3, d4, d5, d6, d7, d8, d9, d10, d11, d12, d13, d14, d15⟩ := Lg.cells16 HT.out.b))
      | (go_at_call 42; refine (HN.out _ HT.out.beh).mono ?_; rintro e w' ⟨rfl, hb⟩; (have HT := Lib.hid (HT.out.on hb)); clear hb; (obtain ⟨c0, c1, c2, c3, c4, c5, c6, c7, c8, c9, c10, c11, c12, c13, c14, c15⟩ := Lg.cells16 HT.out.a); (obtain ⟨d0, d1, d2, d3, d4, d5, d6, d7, d8, d9, d10, d11, d12, d13, d14, d15⟩ := Lg.cells16 HT.out.b))
      | (go_at_call 13; refine (HY.out _ HT.out.beh).mono ?_; rintro e w' ⟨rfl, hb⟩; (have HT := Lib.hid (HT.out.on hb)); clear hb; (obtain ⟨c0, c1, c2, c3, c4, c5, c6, c7, c8, c9, c10, c11, c12, c13, c14, c15⟩ := Lg.cells16 HT.out.a); (obtain ⟨d0, d1, d2, d3, d4, d5, d6, d7, d8, d9, d10, d11, d12, d13, d14, d15⟩ := Lg.cells16 HT.out.b)))
    go_ret
    exact ⟨ret_bool (by rw [HC.out, h0, h1, h2, h3, h4, h5, h6, h7, h8, h9]; simp), HT.out.beh⟩
  · go_enter Try.func63, Try.ntmps63
    go_wp2_with (first
      | (go_at_call 56; refine (HE.out _ HT.out.beh).mono ?_; rintro e w' ⟨rfl, hb⟩; (have HT := Lib.hid (HT.out.on hb)); clear hb; (obtain ⟨c0, c1, c2, c3, c4, c5, c6, c7, c8, c9, c10, c11, c12, c13, c14, c15⟩ := Lg.cells16 HT.out.a); (obtain ⟨d0, d1, d2, d3, d4, d5, d6, d7, d8, d9, d10, d11, d12, d13, d14, d15⟩ := Lg.cells16 HT.out.b))
      | (go_at_call 42; refine (HN.out _ HT.out.beh).mono ?_; rintro e w' ⟨rfl, hb⟩; (have HT := Lib.hid (HT.out.on hb)); clear hb; (obtain ⟨c0, c1, c2, c3, c4, c5, c6, c7, c8, c9, c10, c11, c12, c13, c14, c15⟩ := Lg.cells16 HT.out.a); (obtain ⟨d0, d1, d2, d3, d4, d5, d6, d7, d8, d9, d10, d11, d12, d13, d14, d15⟩ := Lg.cells16 HT.out.b))
      | (go_at_call 13; refine (HY.out _ HT.out.beh).mono ?_; rintro e w' ⟨rfl, hb⟩; (have HT := Lib.hid (HT.out.on hb)); clear hb; (obtain ⟨c0, c1, c2, c3, c4, c5, c6, c7, c8, c9, c10, c11, c12, c13, c14, c15⟩ := Lg.cells16 HT.out.a); (obtain ⟨d0, d1, d2, d3, d4, d5, d6, d7, d8, d9, d10, d11, d12, d13, d14, d15⟩ := Lg.cells16 HT.out.b)))
    go_ret
    exact ⟨ret_bool (by rw [HC.out, h0, h1, h2, h3, h4, h5, h6, h7, h8, h9]; simp), HT.out.beh⟩
end Go.Proofs.Ytjdebdfbjcpjgaa.Wr
