import Derived.Test.YtaengjgmchpabaaGreatMergeWr30
import Derived.Test.YtaengjgmchpabaaGreatMergeWr11
import Derived.Test.YtaengjgmchpabaaGreatMergeWr25
import Derived.Test.YtaengjgmchpabaaGreatKeepB
import Derived.Test.YtaengjgmchpabaaGreatWireEncM
section
/- The keeper's Entry, of any two. -/
namespace Go.Proofs.YtaengjgmchpabaaGreat.Wr
open Go Go.RowKit Vl Kv Ss Cn Lg Nm
attribute [local go_sem] Nm.run_bits Nm.run_frombits run_store_float
def E.same (x y : E) : Bool := (x.term == y.term) && (x.kind == y.kind) && Cl.same x.call y.call && decide (x.conf = y.conf)
theorem E.same_refl (x : E) : E.same x x = true := by unfold E.same; simp [Cl.same_refl]
set_option maxHeartbeats 3200000 in
set_option maxRecDepth 100000 in
theorem keepEntry_any (x y : E) (w : World) :
    Calls Tryz.prog 79 #[x.agg, y.agg] w fun e w' => e = .returned (.bool (E.same x y)) ∧ Below w.heap.size w w' := by
  have HT := Lib.hid (Bh.Two.start w x.obj y.obj)
  have HK := fun w => Lib.hid (keepCall_any x.call y.call w)
  have HN := fun w => Lib.hid (keepConf_any x.conf y.conf w)
  obtain ⟨xt, xk, xc, xf⟩ := x
  obtain ⟨yt, yk, yc, yf⟩ := y
  have HC := Lib.hid (show E.same ⟨xt, xk, xc, xf⟩ ⟨yt, yk, yc, yf⟩ = ((xt == yt) && (xk == yk) && Cl.same xc yc && decide (xf = yf)) from rfl)
  unfold E.obj at HT
  dsimp only at HT HK HN
  generalize Cl.same xc yc = q at *
  generalize decide (xf = yf) = r at *
  cases h1 : xt == yt
  · go_enter Tryz.func79, Tryz.ntmps79
    go_wp2_with fail
    go_ret
    exact ⟨ret_bool (by rw [HC.out, h1]; rfl), HT.out.beh⟩
  cases h2 : xk == yk
  · go_enter Tryz.func79, Tryz.ntmps79
    go_wp2_with fail
    go_ret
    exact ⟨ret_bool (by rw [HC.out, h1, h2]; rfl), HT.out.beh⟩
  cases q
  · go_enter Tryz.func79, Tryz.ntmps79
    go_wp2_with (go_at_call 90; refine ((HK _).out).mono ?_; rintro e w' ⟨rfl, hb⟩; (have HT := Lib.hid (HT.out.on hb)); clear hb)
    go_ret
    exact ⟨ret_bool (by rw [HC.out, h1, h2]; rfl), HT.out.beh⟩
  go_enter Tryz.func79, Tryz.ntmps79
  go_wp2_with (first
    | (go_at_call 90; refine ((HK _).out).mono ?_; rintro e w' ⟨rfl, hb⟩; (have HT := Lib.hid (HT.out.on hb)); clear hb; (obtain ⟨c0, c1, c2, c3, c4, c5, c6, c7, c8, c9, c10, c11, c12, c13, c14, c15⟩ := cells16 HT.out.a); (obtain ⟨d0, d1, d2, d3, d4, d5, d6, d7, d8, d9, d10, d11, d12, d13, d14, d15⟩ := cells16 HT.out.b))
    | (go_at_call 63; refine ((HN _).out).mono ?_; rintro e w' ⟨rfl, hb⟩; (have HT := Lib.hid (HT.out.on hb)); clear hb))
  go_ret
  exact ⟨ret_bool (by rw [HC.out, h1, h2]; simp), HT.out.beh⟩
end Go.Proofs.YtaengjgmchpabaaGreat.Wr
end
section
/- The keeper's Entries, of any two lists. -/
namespace Go.Proofs.YtaengjgmchpabaaGreat.Wr
open Go Go.RowKit Vl Kv Ss Cn Lg Li Nm
attribute [local go_sem] Nm.run_bits Nm.run_frombits run_store_float
attribute [local irreducible] wpQuiet
/-- two lists, one by one -/
def sameBy {α : Type} (S : α → α → Bool) (z : α) (L M : List α) : Bool := decide (L.length = M.length ∧ ∀ i, i < L.length → S (L.getD i z) (M.getD i z) = true)
theorem sameBy_refl {α : Type} {S : α → α → Bool} {z : α} (h : ∀ x, S x x = true) (L : List α) : sameBy S z L L = true := decide_eq_true ⟨rfl, fun _ _ => h _⟩
theorem sameBy_eq {α : Type} {S : α → α → Bool} {z : α} {L M : List α} (h : sameBy S z L M = true) (hS : ∀ x ∈ L, ∀ y ∈ M, S x y = true → x = y) : L = M := by
  obtain ⟨h1, h2⟩ := of_decide_eq_true h
  refine List.ext_getElem h1 fun i hi hj => ?_
  have h3 := h2 i hi
  have e1 : L.getD i z = L[i] := by simp [hi]
  have e2 : M.getD i z = M[i] := by simp [hj]
  rw [e1, e2] at h3
  exact hS _ (List.getElem_mem hi) _ (List.getElem_mem hj) h3
set_option maxHeartbeats 3200000 in
set_option maxRecDepth 100000 in
theorem keepEnts_any (a : Option Addr) (cap : Nat) (a2 : Option Addr) (cap2 : Nat) (L M : List E) (w : World) (h : EntAt w a cap L) (h2 : EntAt w a2 cap2 M) :
    Calls Tryz.prog 62 #[.slice a L.length cap, .slice a2 M.length cap2] w fun e w' => e = .returned (.bool (sameBy E.same E.zero L M)) ∧ Below w.heap.size w w' := by
  have HI := Lib.hid h
  have HJ := Lib.hid h2
  have hmx : L.length ≤ 9223372036854775807 := Nat.le_trans h.len h.max
  have hmy : M.length ≤ 9223372036854775807 := Nat.le_trans h2.len h2.max
  clear h h2
  by_cases hlen : L.length = M.length
  case neg =>
    have HS := Lib.hid (show sameBy E.same E.zero L M = false from decide_eq_false fun h => hlen h.1)
    have b1 : ((L.length : Int) == (M.length : Int)) = false := beq_eq_false_iff_ne.2 (by omega)
    have b2 : ((L.length : Int) != (M.length : Int)) = true := by rw [bne, b1]; rfl
    clear hlen
    go_enter Tryz.func62, Tryz.ntmps62
    go_wp2
    go_ret
    exact ⟨ret_bool HS.out.symm, Beh.start _⟩
  have HS : Hid (∀ b, b = decide (∀ i, i < L.length → E.same (L.getD i E.zero) (M.getD i E.zero) = true) → sameBy E.same E.zero L M = b) := fun b hb => by
    rw [hb]; unfold sameBy
    rw [Bool.eq_iff_iff, decide_eq_true_eq, decide_eq_true_eq]
    exact ⟨fun h => h.2, fun h => ⟨hlen, h⟩⟩
  have HM := Lib.hid hlen
  have e0 : (M.length : Int) = (L.length : Int) := by rw [hlen]
  go_enter Tryz.func62, Tryz.ntmps62
  rw [← hlen]
  clear hlen e0 hmy
  go_wp2
  go_loopw [5] (fun i wr => ∃ k : Nat, k ≤ L.length ∧ i = .int .i64 k ∧ Hid (Kv.Beh w wr) ∧ Hid (∀ i, i < k → E.same (L.getD i E.zero) (M.getD i E.zero) = true)) (fun i _ => L.length - (intOf i).toNat)
  case atStart => exact ⟨0, by omega, rfl, Beh.start _, fun i hi => by omega⟩
  case round =>
    obtain ⟨k, hk, rfl, HW, HD⟩ := hrel
    by_cases hlt : k < L.length
    · obtain ⟨cS, oS, rfl, _⟩ := EntAt.cells HI.out (by omega)
      obtain ⟨cT, oT, rfl, _⟩ := EntAt.cells HJ.out (by have := HM.out; omega)
      have HPS : Hid (∀ wq, Kv.Beh w wq → E.Cells wq cS (oS + k * 16) (L.getD k E.zero)) := fun wq hq => by
        obtain ⟨_, _, he, hc⟩ := EntAt.cells (HI.out.below hq) (by omega); cases he; exact hc k hlt
      have HPT : Hid (∀ wq, Kv.Beh w wq → E.Cells wq cT (oT + k * 16) (M.getD k E.zero)) := fun wq hq => by
        obtain ⟨_, _, he, hc⟩ := EntAt.cells (HJ.out.below hq) (by have := HM.out; omega); cases he; exact hc k (by have := HM.out; omega)
      have HE : Hid (∀ b, E.same (L.getD k E.zero) (M.getD k E.zero) = b → (b = true → ∀ i, i < k + 1 → E.same (L.getD i E.zero) (M.getD i E.zero) = true) ∧ (b = false → sameBy E.same E.zero L M = false)) := fun b hb => ⟨fun h1 i hi => by
          rcases Nat.lt_or_eq_of_le (Nat.lt_succ_iff.1 hi) with h3 | h3
          · exact HD.out i h3
          · rw [h3, hb, h1], fun h1 => HS.out false (decide_eq_false fun h => by have := h k hlt; rw [hb, h1] at this; cases this).symm⟩
      generalize L.getD k E.zero = x at *
      generalize M.getD k E.zero = y at *
      have HK := fun w => Lib.hid (keepEntry_any x y w)
      have HE := Lib.hid (HE.out _ rfl)
      generalize E.same x y = q at *
      go_wp2_with fail
      refine wp_region_quiet (C := Kv.Beh wr) (by kernel_rfl) (by kernel_rfl) (Beh.start _).drew ?_
      repeat (first
        | (refine BigFrame.wpQuiet_skip (by exact Eq.refl false) ?_
           ((try simp only [Act.put]); (try simp only [List.setIfInBounds_toArray]); (try simp only [List.set_cons_zero, List.set_cons_succ])))
        | (refine BigFrame.wpQuiet_want (by exact Eq.refl true) (fun K hK => ?_)
           first
           | (refine quiet_move2 _ rfl (by go_simp; rfl) ?_; refine hK _ ?_)
           | (apply Exists.intro
              refine ⟨fun wq hq => ?_, hK _ ?_⟩
              · ((obtain ⟨c0, c1, c2, c3, c4, c5, c6, c7, c8, c9, c10, c11, c12, c13, c14, c15⟩ := HPS.out _ (HW.out.trans hq)); (obtain ⟨d0, d1, d2, d3, d4, d5, d6, d7, d8, d9, d10, d11, d12, d13, d14, d15⟩ := HPT.out _ (HW.out.trans hq))
                 have HQ := Lib.hid hq
                 clear hq
                 unfold Oper.quietAt
                 go_simp
                 first
                 | rfl
                 | (go_at_call 79; exact ((HK _).out).mono (fun e w' ⟨he, hb⟩ => ⟨he, HQ.out.on hb⟩))))
           clear hK K
           ((try simp only [Act.put]); (try simp only [List.setIfInBounds_toArray]); (try simp only [List.set_cons_zero, List.set_cons_succ]))))
      refine wpQuiet_nil ?_
      intro wq hq
      have HQ := Lib.hid (HW.out.trans hq)
      clear hq
      cases q
      · go_wp2_with fail
        go_ret
        exact ⟨ret_bool (HE.out.2 (by first | rfl | trivial)).symm, HQ.out⟩
      · go_wp2_with fail
        go_roundw
        case rel => exact ⟨k + 1, by omega, by go_num, HQ.out, HE.out.1 (by first | rfl | trivial)⟩
        case measure => simp [intOf]; omega
    · obtain rfl : k = L.length := by omega
      have HF := Lib.hid (HS.out true (decide_eq_true HD.out).symm)
      go_wp2
      go_ret
      exact ⟨ret_bool HF.out.symm, HW.out⟩
end Go.Proofs.YtaengjgmchpabaaGreat.Wr
end
section
/- The keeper's Entries, of one list with itself. -/
namespace Go.Proofs.YtaengjgmchpabaaGreat.Lg
open Go Go.RowKit Vl Kv Ss Cn Mem Li Nm
attribute [local go_sem] Nm.run_bits Nm.run_frombits run_store_float
attribute [local irreducible] wpQuiet

set_option maxHeartbeats 3200000 in
set_option maxRecDepth 100000 in
theorem keepEnts_self (a : Option Addr) (cap : Nat) (a2 : Option Addr) (cap2 : Nat) (L : List E) (w : World) (h : EntAt w a cap L) (h2 : EntAt w a2 cap2 L) :
    Calls Tryz.prog 62 #[.slice a L.length cap, .slice a2 L.length cap2] w fun e w' => e = .returned (.bool true) ∧ Below w.heap.size w w' := by
  have HI := Lib.hid h
  have HJ := Lib.hid h2
  have hmx : L.length ≤ 9223372036854775807 := Nat.le_trans h.len h.max
  clear h h2
  go_enter Tryz.func62, Tryz.ntmps62
  go_wp2
  go_loopw [5] (fun i wr => ∃ k : Nat, k ≤ L.length ∧ i = .int .i64 k ∧ Hid (Kv.Beh w wr)) (fun i _ => L.length - (intOf i).toNat)
  case atStart => exact ⟨0, by omega, rfl, Beh.start _⟩
  case round =>
    obtain ⟨k, hk, rfl, HW⟩ := hrel
    by_cases hlt : k < L.length
    · obtain ⟨cS, oS, rfl, _⟩ := EntAt.cells HI.out (by omega)
      obtain ⟨cT, oT, rfl, _⟩ := EntAt.cells HJ.out (by omega)
      have HPS : Hid (∀ wq, Kv.Beh w wq → E.Cells wq cS (oS + k * 16) (L.getD k E.zero)) := fun wq hq => by
        obtain ⟨_, _, he, hc⟩ := EntAt.cells (HI.out.below hq) (by omega); cases he; exact hc k hlt
      have HPT : Hid (∀ wq, Kv.Beh w wq → E.Cells wq cT (oT + k * 16) (L.getD k E.zero)) := fun wq hq => by
        obtain ⟨_, _, he, hc⟩ := EntAt.cells (HJ.out.below hq) (by omega); cases he; exact hc k hlt
      generalize L.getD k E.zero = x at *
      go_wp2_with fail
      refine wp_region_quiet (C := Kv.Beh wr) (by kernel_rfl) (by kernel_rfl) (Beh.start _).drew ?_
      repeat (first
        | (refine BigFrame.wpQuiet_skip (by exact Eq.refl false) ?_
           ((try simp only [Act.put]); (try simp only [List.setIfInBounds_toArray]); (try simp only [List.set_cons_zero, List.set_cons_succ])))
        | (refine BigFrame.wpQuiet_want (by exact Eq.refl true) (fun K hK => ?_)
           first
           | (refine quiet_move2 _ rfl (by go_simp; rfl) ?_; refine hK _ ?_)
           | (apply Exists.intro
              refine ⟨fun wq hq => ?_, hK _ ?_⟩
              · ((obtain ⟨c0, c1, c2, c3, c4, c5, c6, c7, c8, c9, c10, c11, c12, c13, c14, c15⟩ := HPS.out _ (HW.out.trans hq)); (obtain ⟨d0, d1, d2, d3, d4, d5, d6, d7, d8, d9, d10, d11, d12, d13, d14, d15⟩ := HPT.out _ (HW.out.trans hq))
                 have HQ := Lib.hid hq
                 clear hq
                 unfold Oper.quietAt
                 go_simp
                 first
                 | rfl
                 | (go_at_call 79; exact (keepEntry_self x _).mono (fun e w' ⟨he, hb⟩ => ⟨he, HQ.out.on hb⟩))))
           clear hK K
           ((try simp only [Act.put]); (try simp only [List.setIfInBounds_toArray]); (try simp only [List.set_cons_zero, List.set_cons_succ]))))
      refine wpQuiet_nil ?_
      intro wq hq
      have HQ := Lib.hid (HW.out.trans hq)
      clear hq
      go_wp2_with fail
      go_roundw
      case rel => exact ⟨k + 1, by omega, by go_num, HQ.out⟩
      case measure => simp [intOf]; omega
    · obtain rfl : k = L.length := by omega
      go_wp2
      go_ret
      exact ⟨rfl, HW.out⟩
end Go.Proofs.YtaengjgmchpabaaGreat.Lg
end
section
/- The keeper's flat, of one message with itself. -/
namespace Go.Proofs.YtaengjgmchpabaaGreat.Wr
open Go Go.RowKit Vl Kv Ss Cn Lg Li Nm
attribute [local go_sem] Nm.run_bits Nm.run_frombits run_store_float
/-- but for how many inner ones -/
def Fl.same (f g : Fl) : Bool := (f.kind == g.kind) && (f.from_ == g.from_) && (f.to == g.to) && (f.term == g.term) && (f.index == g.index) && (f.logt == g.logt) && (f.commit == g.commit) && (f.round == g.round) && (f.yes == g.yes) && sameBy E.same E.zero f.ents g.ents && decide (f.conf = g.conf) && decide (f.snap = g.snap)
theorem Fl.same_refl (f : Fl) : Fl.same f f = true := by unfold Fl.same; simp [sameBy_refl E.same_refl]
def Mr.same (x y : Mr) : Bool := Fl.same x.1 y.1 && decide (x.2.n = y.2.n)
theorem int_beq_nat (n m : Nat) : ((n : Int) == (m : Int)) = decide (n = m) := by
  rw [Bool.eq_iff_iff, beq_iff_eq, decide_eq_true_eq]; omega
set_option maxHeartbeats 12800000 in
set_option maxRecDepth 100000 in
theorem keepFlat_self (f : Fl) (p q : Mp) (w : World) (hn : p.n = q.n) (hx : FlAt w (f, p)) (hy : FlAt w (f, q)) (hsx : f.snap.length ≤ 100000) :
    Calls Tryz.prog 30 #[Mr.val (f, p), Mr.val (f, q)] w fun e w' => e = .returned (.bool true) ∧ Below w.heap.size w w' := by
  have HT := Lib.hid (Bh.Two.start w (Mr.obj (f, p)) (Mr.obj (f, q)))
  have HE : Hid (∀ W, Kv.Beh w W → Calls Tryz.prog 62 #[.slice p.ea f.ents.length p.ec, .slice q.ea f.ents.length q.ec] W fun e w' => e = .returned (.bool true) ∧ Below W.heap.size W w') := fun W hW => keepEnts_self _ _ _ _ _ W (hx.on hW).ents (hy.on hW).ents
  have HN : Hid (∀ W, Kv.Beh w W → Calls Tryz.prog 63 #[f.conf.val, f.conf.val] W fun e w' => e = .returned (.bool true) ∧ Below W.heap.size W w') := fun W _ => by
    have := keepConf_any f.conf f.conf W
    rwa [decide_eq_true rfl] at this
  have HY : Hid (∀ W, Kv.Beh w W → Calls Tryz.prog 7 #[.slice p.sa f.snap.length p.sc, .slice q.sa f.snap.length q.sc] W fun e w' => e = .returned (.bool true) ∧ Below W.heap.size W w') := fun W hW =>
    (Kp.KBytes_any _ _ _ _ _ _ _ _ W (hx.on hW).snap (hy.on hW).snap (Nat.le_trans hsx (by decide)) (Nat.le_trans hsx (by decide))).mono fun e w' h => by
      obtain ⟨h1, n, rfl⟩ := h
      rw [decide_eq_true rfl] at h1
      exact ⟨h1, Bh.below_drewN (Below.refl _ _) _⟩
  clear hx hy hsx
  obtain ⟨x0, x1, x2, x3, x4, x5, x6, x7, xy, xe, xc, xs⟩ := f
  obtain ⟨pe1, pe2, pb, pa, pc, pi, n, pic⟩ := p
  obtain ⟨qe1, qe2, qb, qa, qc, qi, qn, qic⟩ := q
  dsimp only at HE HN HY hn
  subst hn
  unfold Mr.obj at HT
  dsimp only at HT
  (obtain ⟨c0, c1, c2, c3, c4, c5, c6, c7, c8, c9, c10, c11, c12, c13, c14, c15⟩ := Lg.cells16 HT.out.a)
  (obtain ⟨d0, d1, d2, d3, d4, d5, d6, d7, d8, d9, d10, d11, d12, d13, d14, d15⟩ := Lg.cells16 HT.out.b)
  go_enter Tryz.func30, Tryz.ntmps30
  go_wp2_with (first
      | (go_at_call 62; refine (HE.out _ HT.out.beh).mono ?_; rintro e w' ⟨rfl, hb⟩; (have HT := Lib.hid (HT.out.on hb)); clear hb; (obtain ⟨c0, c1, c2, c3, c4, c5, c6, c7, c8, c9, c10, c11, c12, c13, c14, c15⟩ := Lg.cells16 HT.out.a); (obtain ⟨d0, d1, d2, d3, d4, d5, d6, d7, d8, d9, d10, d11, d12, d13, d14, d15⟩ := Lg.cells16 HT.out.b))
      | (go_at_call 63; refine (HN.out _ HT.out.beh).mono ?_; rintro e w' ⟨rfl, hb⟩; (have HT := Lib.hid (HT.out.on hb)); clear hb; (obtain ⟨c0, c1, c2, c3, c4, c5, c6, c7, c8, c9, c10, c11, c12, c13, c14, c15⟩ := Lg.cells16 HT.out.a); (obtain ⟨d0, d1, d2, d3, d4, d5, d6, d7, d8, d9, d10, d11, d12, d13, d14, d15⟩ := Lg.cells16 HT.out.b))
      | (go_at_call 7; refine (HY.out _ HT.out.beh).mono ?_; rintro e w' ⟨rfl, hb⟩; (have HT := Lib.hid (HT.out.on hb)); clear hb; (obtain ⟨c0, c1, c2, c3, c4, c5, c6, c7, c8, c9, c10, c11, c12, c13, c14, c15⟩ := Lg.cells16 HT.out.a); (obtain ⟨d0, d1, d2, d3, d4, d5, d6, d7, d8, d9, d10, d11, d12, d13, d14, d15⟩ := Lg.cells16 HT.out.b)))
  go_ret
  exact ⟨rfl, HT.out.beh⟩
end Go.Proofs.YtaengjgmchpabaaGreat.Wr
end
section
/- The keeper's Msg, of one message with itself in two places. -/
namespace Go.Proofs.YtaengjgmchpabaaGreat.Wr
open Go Go.RowKit Vl Kv Ss Cn Lg Li Nm
attribute [local go_sem] Nm.run_bits Nm.run_frombits run_store_float
attribute [local irreducible] wpQuiet
theorem fst_len {L M : List Mr} (h : L.map Prod.fst = M.map Prod.fst) : L.length = M.length := by
  have := congrArg List.length h
  rwa [List.length_map, List.length_map] at this
theorem fst_getD {L M : List Mr} (h : L.map Prod.fst = M.map Prod.fst) (k : Nat) : (L.getD k Mr.zero).1 = (M.getD k Mr.zero).1 := by
  have e : ∀ N : List Mr, (N.getD k Mr.zero).1 = (N.map Prod.fst).getD k Mr.zero.1 := fun N => by
    rw [List.getD_eq_getElem?_getD, List.getD_eq_getElem?_getD, List.getElem?_map]
    cases N[k]? <;> rfl
  rw [e, e, h]
theorem getD_in {L : List Mr} {k : Nat} (hk : k < L.length) : L.getD k Mr.zero ∈ L := by
  have e : L.getD k Mr.zero = L[k] := by simp [hk]
  rw [e]; exact List.getElem_mem hk
set_option maxHeartbeats 6400000 in
set_option maxRecDepth 100000 in
theorem keepMsg_self (f : Fl) (p q : Mp) (L M : List Mr) (w : World) (hx : MsgAt w (f, p) L) (hy : MsgAt w (f, q) M) (he : L.map Prod.fst = M.map Prod.fst) (hn : ∀ k, k < L.length → (L.getD k Mr.zero).2.n = (M.getD k Mr.zero).2.n)
    (hsx : f.snap.length ≤ 100000) (hsl : ∀ y ∈ L, y.1.snap.length ≤ 100000) :
    Calls Tryz.prog 12 #[Mr.val (f, p), Mr.val (f, q)] w fun e w' => e = .returned (.bool true) ∧ Below w.heap.size w w' := by
  have HT := Lib.hid (Bh.Bx.two w (Mr.obj (f, p)) (Mr.obj (f, q)))
  have hlen := fst_len he
  obtain ⟨hx1, hx2, hx3, hx4⟩ := hx
  obtain ⟨hy1, hy2, hy3, hy4⟩ := hy
  have hpq : p.n = q.n := by
    have h1 : L.length = p.n := hx2
    have h2 : M.length = q.n := hy2
    omega
  have HF : Hid (∀ W, Kv.Beh w W → Calls Tryz.prog 30 #[Mr.val (f, p), Mr.val (f, q)] W fun e w' => e = .returned (.bool true) ∧ Below W.heap.size W w') := fun W hW => keepFlat_self f p q W hpq (hx1.on hW) (hy1.on hW) hsx
  have HI := Lib.hid hx3
  have HJ := Lib.hid hy3
  have hmx : L.length ≤ 9223372036854775807 := Nat.le_trans hx3.len hx3.max
  have HA := Lib.hid hx4
  have HAM := Lib.hid hy4
  have HE := Lib.hid he
  have HN := Lib.hid hn
  have HM := Lib.hid hlen
  have HS := Lib.hid hsl
  obtain ⟨pe1, pe2, pb, pa, pc, pi, n, pic⟩ := p
  obtain ⟨qe1, qe2, qb, qa, qc, qi, qn, qic⟩ := q
  dsimp only at hpq HI HJ
  have hx2 : L.length = n := hx2
  subst hpq
  subst hx2
  clear hx1 hx3 hx4 hy1 hy2 hy3 hy4 he hn hlen hsl hsx
  (obtain ⟨c0, c1, c2, c3, c4, c5, c6, c7, c8, c9, c10, c11, c12, c13, c14, c15⟩ := cells16m (x := (f, ⟨pe1, pe2, pb, pa, pc, pi, L.length, pic⟩)) HT.out.b0); (obtain ⟨d0, d1, d2, d3, d4, d5, d6, d7, d8, d9, d10, d11, d12, d13, d14, d15⟩ := cells16m (x := (f, ⟨qe1, qe2, qb, qa, qc, qi, L.length, qic⟩)) HT.out.b1)
  go_enter Tryz.func12, Tryz.ntmps12
  go_wp2_with (first | (go_at_call 30; refine Calls.mono (HF.out _ HT.out.beh) ?_; rintro e w' ⟨rfl, hb⟩; (have HT := Lib.hid (HT.out.on hb)); clear hb; (obtain ⟨c0, c1, c2, c3, c4, c5, c6, c7, c8, c9, c10, c11, c12, c13, c14, c15⟩ := cells16m (x := (f, ⟨pe1, pe2, pb, pa, pc, pi, L.length, pic⟩)) HT.out.b0); (obtain ⟨d0, d1, d2, d3, d4, d5, d6, d7, d8, d9, d10, d11, d12, d13, d14, d15⟩ := cells16m (x := (f, ⟨qe1, qe2, qb, qa, qc, qi, L.length, qic⟩)) HT.out.b1)))
  go_loopw [5] (fun i wr => ∃ k : Nat, k ≤ L.length ∧ i = .int .i64 k ∧ Hid (Bh.Bx w [Mr.obj (f, ⟨pe1, pe2, pb, pa, pc, pi, L.length, pic⟩), Mr.obj (f, ⟨qe1, qe2, qb, qa, qc, qi, L.length, qic⟩)] wr)) (fun i _ => L.length - (intOf i).toNat)
  case atStart => exact ⟨0, by omega, rfl, HT.out⟩
  case round =>
    clear HT
    clear c0 c1 c2 c3 c4 c5 c6 c7 c8 c9 c10 c11 c12 c13 c14 c15 d0 d1 d2 d3 d4 d5 d6 d7 d8 d9 d10 d11 d12 d13 d14 d15
    obtain ⟨k, hk, rfl, HT⟩ := hrel
    (obtain ⟨c0, c1, c2, c3, c4, c5, c6, c7, c8, c9, c10, c11, c12, c13, c14, c15⟩ := cells16m (x := (f, ⟨pe1, pe2, pb, pa, pc, pi, L.length, pic⟩)) HT.out.b0); (obtain ⟨d0, d1, d2, d3, d4, d5, d6, d7, d8, d9, d10, d11, d12, d13, d14, d15⟩ := cells16m (x := (f, ⟨qe1, qe2, qb, qa, qc, qi, L.length, qic⟩)) HT.out.b1)
    by_cases hlt : k < L.length
    · obtain ⟨cS, oS, rfl, _⟩ := MsgsAt.cells HI.out (by omega)
      obtain ⟨cT, oT, rfl, _⟩ := MsgsAt.cells HJ.out (by have := HM.out; omega)
      have HPS : Hid (∀ wq, Kv.Beh w wq → MrCells wq cS (oS + k * 16) (L.getD k Mr.zero)) := fun wq hq => by
        obtain ⟨_, _, he, hc⟩ := MsgsAt.cells (HI.out.below hq) (by omega); cases he; exact hc k hlt
      have HPT : Hid (∀ wq, Kv.Beh w wq → MrCells wq cT (oT + k * 16) (M.getD k Mr.zero)) := fun wq hq => by
        obtain ⟨_, _, he, hc⟩ := MsgsAt.cells (HJ.out.below hq) (by have := HM.out; omega); cases he; exact hc k (by have := HM.out; omega)
      have HK : Hid (∀ W, Kv.Beh w W → Calls Tryz.prog 30 #[(L.getD k Mr.zero).val, (M.getD k Mr.zero).val] W fun e w' => e = .returned (.bool true) ∧ Below W.heap.size W w') := fun W hW => by
        have a1 := HA.out _ (getD_in hlt)
        have a2 := HAM.out _ (getD_in (k := k) (by have := HM.out; omega))
        have a3 := fst_getD HE.out k
        have a4 := HN.out k hlt
        have a5 := HS.out _ (getD_in hlt)
        revert a1 a2 a3 a4 a5
        generalize L.getD k Mr.zero = x
        generalize M.getD k Mr.zero = y
        obtain ⟨xf, xp⟩ := x
        obtain ⟨yf, yp⟩ := y
        intro a1 a2 a3 a4 a5
        have a3 : xf = yf := a3
        subst a3
        exact keepFlat_self xf xp yp W a4 (a1.on hW) (a2.on hW) a5
      generalize L.getD k Mr.zero = x at *
      generalize M.getD k Mr.zero = y at *
      go_wp2_with fail
      have HW0 := Lib.hid HT.out.beh
      clear c0 c1 c2 c3 c4 c5 c6 c7 c8 c9 c10 c11 c12 c13 c14 c15 d0 d1 d2 d3 d4 d5 d6 d7 d8 d9 d10 d11 d12 d13 d14 d15
      refine wp_region_quiet (C := Kv.Beh wr) (by kernel_rfl) (by kernel_rfl) (Beh.start _).drew ?_
      repeat (first
        | (refine BigFrame.wpQuiet_skip (by exact Eq.refl false) ?_
           ((try simp only [Act.put]); (try simp only [List.setIfInBounds_toArray]); (try simp only [List.set_cons_zero, List.set_cons_succ])))
        | (refine BigFrame.wpQuiet_want (by exact Eq.refl true) (fun K hK => ?_)
           first
           | (refine quiet_move2 _ rfl (by go_simp; rfl) ?_; refine hK _ ?_)
           | (apply Exists.intro
              refine ⟨fun wq hq => ?_, hK _ ?_⟩
              · ((have HTQ := HT.out.on hq); (obtain ⟨c0, c1, c2, c3, c4, c5, c6, c7, c8, c9, c10, c11, c12, c13, c14, c15⟩ := cells16m (x := (f, ⟨pe1, pe2, pb, pa, pc, (some ⟨cS, oS, none⟩), L.length, pic⟩)) HTQ.b0); (obtain ⟨d0, d1, d2, d3, d4, d5, d6, d7, d8, d9, d10, d11, d12, d13, d14, d15⟩ := cells16m (x := (f, ⟨qe1, qe2, qb, qa, qc, (some ⟨cT, oT, none⟩), L.length, qic⟩)) HTQ.b1); (obtain ⟨g0, g1, g2, g3, g4, g5, g6, g7, g8, g9, g10, g11, g12, g13, g14, g15⟩ := HPS.out _ (HW0.out.trans hq)); (obtain ⟨k0, k1, k2, k3, k4, k5, k6, k7, k8, k9, k10, k11, k12, k13, k14, k15⟩ := HPT.out _ (HW0.out.trans hq)); clear HTQ
                 have HQ := Lib.hid hq
                 clear hq
                 unfold Oper.quietAt
                 go_simp
                 first
                 | rfl
                 | (go_at_call 30; exact (HK.out _ (HW0.out.trans HQ.out)).mono (fun e w' ⟨he, hb⟩ => ⟨he, HQ.out.on hb⟩))))
           clear hK K
           ((try simp only [Act.put]); (try simp only [List.setIfInBounds_toArray]); (try simp only [List.set_cons_zero, List.set_cons_succ]))))
      refine wpQuiet_nil ?_
      intro wq hq
      have HT := Lib.hid (HT.out.on hq)
      clear hq
      go_wp2_with fail
      go_roundw
      case rel => exact ⟨k + 1, by omega, by go_num, HT.out⟩
      case measure => simp [intOf]; omega
    · obtain rfl : k = L.length := by omega
      go_wp2
      go_ret
      exact ⟨rfl, HT.out.beh⟩
end Go.Proofs.YtaengjgmchpabaaGreat.Wr
end
