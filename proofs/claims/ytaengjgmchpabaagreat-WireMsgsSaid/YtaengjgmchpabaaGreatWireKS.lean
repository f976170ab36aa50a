import Derived.Test.YtaengjgmchpabaaGreatMergeWr47
import Derived.Test.YtaengjgmchpabaaGreatMergeWr25
import Derived.Test.YtaengjgmchpabaaGreatKeepB
/- The keeper's flat, of one message with itself. -/
namespace Go.Proofs.YtaengjgmchpabaaGreat.Wr
open Go Go.RowKit Vl Kv Ss Cn Lg Li Nm
attribute [local go_sem] Nm.run_bits Nm.run_frombits run_store_float
/-- but for how many inner ones -/
def Fl.same (f g : Fl) : Bool := (f.kind == g.kind) && (f.from_ == g.from_) && (f.to == g.to) && (f.term == g.term) && (f.index == g.index) && (f.logt == g.logt) && (f.commit == g.commit) && (f.round == g.round) && (f.yes == g.yes) && sameBy E.same E.zero f.ents g.ents && decide (f.conf = g.conf) && decide (f.snap = g.snap)
theorem Fl.same_refl (f : Fl) : Fl.same f f = true := by unfold Fl.same; simp [sameBy_refl E.same_refl]
def Mr.same (x y : Mr) : Bool := Fl.same x.1 y.1 && decide (x.2.n = y.2.n)
theorem int_beq_nat (n m : Nat) : ((n : Int) == (m : Int)) = decide (n = m) := by
  rw [Bool.eq_iff_iff, beq_iff_eq, decide_eq_true_eq]; omega
set_option maxHeartbeats 12800000 in
set_option maxRecDepth 100000 in
theorem keepFlat_self (f : Fl) (p q : Mp) (w : World) (hn : p.n = q.n) (hx : FlAt w (f, p)) (hy : FlAt w (f, q)) (hsx : f.snap.length ≤ 100000) :
    Calls Tryz.prog 30 #[Mr.val (f, p), Mr.val (f, q)] w fun e w' => e = .returned (.bool true) ∧ Below w.heap.size w w' := by
  have HT := Lib.hid (Bh.Two.start w (Mr.obj (f, p)) (Mr.obj (f, q)))
  have HE : Hid (∀ W, Kv.Beh w W → Calls Tryz.prog 62 #[.slice p.ea f.ents.length p.ec, .slice q.ea f.ents.length q.ec] W fun e w' => e = .returned (.bool true) ∧ Below W.heap.size W w') := fun W hW => keepEnts_self _ _ _ _ _ W (hx.on hW).ents (hy.on hW).ents
  have HN : Hid (∀ W, Kv.Beh w W → Calls Tryz.prog 63 #[f.conf.val, f.conf.val] W fun e w' => e = .returned (.bool true) ∧ Below W.heap.size W w') := fun W _ => by
    have := keepConf_any f.conf f.conf W
    rwa [decide_eq_true rfl] at this
  have HY : Hid (∀ W, Kv.Beh w W → Calls Tryz.prog 7 #[.slice p.sa f.snap.length p.sc, .slice q.sa f.snap.length q.sc] W fun e w' => e = .returned (.bool true) ∧ Below W.heap.size W w') := fun W hW =>
    (Kp.KBytes_any _ _ _ _ _ _ _ _ W (hx.on hW).snap (hy.on hW).snap (Nat.le_trans hsx (by decide)) (Nat.le_trans hsx (by decide))).mono fun e w' h => by
      obtain ⟨h1, n, rfl⟩ := h
      rw [decide_eq_true rfl] at h1
      exact ⟨h1, Bh.below_drewN (Below.refl _ _) _⟩
  clear hx hy hsx
  obtain ⟨x0, x1, x2, x3, x4, x5, x6, x7, xy, xe, xc, xs⟩ := f
  obtain ⟨pe1, pe2, pb, pa, pc, pi, n, pic⟩ := p
  obtain ⟨qe1, qe2, qb, qa, qc, qi, qn, qic⟩ := q
  dsimp only at HE HN HY hn
  subst hn
  unfold Mr.obj at HT
  dsimp only at HT
  (obtain ⟨c0, c1, c2, c3, c4, c5, c6, c7, c8, c9, c10, c11, c12, c13, c14, c15⟩ := Lg.cells16 HT.out.a)
  (obtain ⟨d0, d1, d2, d3, d4, d5, d6, d7, d8, d9, d10, d11, d12, d13, d14, d15⟩ := Lg.cells16 HT.out.b)
  go_enter Tryz.func30, Tryz.ntmps30
  go_wp2_with (first
      | (go_at_call 62; refine (HE.out _ HT.out.beh).mono ?_; rintro e w' ⟨rfl, hb⟩; (have HT := Lib.hid (HT.out.on hb)); clear hb; (obtain ⟨c0, c1, c2, c3, c4, c5, c6, c7, c8, c9, c10, c11, c12, c13, c14, c15⟩ := Lg.cells16 HT.out.a); (obtain ⟨d0, d1, d2, d3, d4, d5, d6, d7, d8, d9, d10, d11, d12, d13, d14, d15⟩ := Lg.cells16 HT.out.b))
      | (go_at_call 63; refine (HN.out _ HT.out.beh).mono ?_; rintro e w' ⟨rfl, hb⟩; (have HT := Lib.hid (HT.out.on hb)); clear hb; (obtain ⟨c0, c1, c2, c3, c4, c5, c6, c7, c8, c9, c10, c11, c12, c13, c14, c15⟩ := Lg.cells16 HT.out.a); (obtain ⟨d0, d1, d2, d3, d4, d5, d6, d7, d8, d9, d10, d11, d12, d13, d14, d15⟩ := Lg.cells16 HT.out.b))
      | (go_at_call 7; refine (HY.out _ HT.out.beh).mono ?_; rintro e w' ⟨rfl, hb⟩; (have HT := Lib.hid (HT.out.on hb)); clear hb; (obtain ⟨c0, c1, c2, c3, c4, c5, c6, c7, c8, c9, c10, c11, c12, c13, c14, c15⟩ := Lg.cells16 HT.out.a); (obtain ⟨d0, d1, d2, d3, d4, d5, d6, d7, d8, d9, d10, d11, d12, d13, d14, d15⟩ := Lg.cells16 HT.out.b)))
  go_ret
  exact ⟨rfl, HT.out.beh⟩
end Go.Proofs.YtaengjgmchpabaaGreat.Wr
