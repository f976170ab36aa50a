/- The keeper's Msg, of any two messages. -/
import Derived.Test.YtjdebdfbjcpjgaaWireKG
import Derived.Test.YtjdebdfbjcpjgaaWireEncM
namespace Go.Proofs.Ytjdebdfbjcpjgaa.Wr
open Go Go.RowKit Vl Kv Ss Cn Lg Li Nm
attribute [local go_sem] Nm.run_bits Nm.run_frombits run_store_float
attribute [local irreducible] wpQuiet
theorem getD_inn {L : List Mr} {k : Nat} (hk : k < L.length) : L.getD k Mr.zero ∈ L := by
  have e : L.getD k Mr.zero = L[k] := by simp [hk]
  rw [e]; exact List.getElem_mem hk
/-- the same to the keeper -/
def MsgSame (x : Mr) (L : List Mr) (y : Mr) (M : List Mr) : Prop := Mr.same x y = true ∧ ∀ k, k < L.length → Mr.same (L.getD k Mr.zero) (M.getD k Mr.zero) = true
instance (x : Mr) (L : List Mr) (y : Mr) (M : List Mr) : Decidable (MsgSame x L y M) := by unfold MsgSame; infer_instance
/-- what the keeper tells -/
def KTold (x : Mr) (L : List Mr) (y : Mr) (M : List Mr) (w : World) (e : Ending) (w' : World) : Prop := e = .returned (.bool (decide (MsgSame x L y M))) ∧ Below w.heap.size w w'
theorem ktold_no {x y : Mr} {L M : List Mr} {w w' : World} (h : ¬ MsgSame x L y M) (hb : Below w.heap.size w w') : KTold x L y M w (.returned (.bool false)) w' := ⟨by rw [decide_eq_false h], hb⟩
theorem ktold_yes {x y : Mr} {L M : List Mr} {w w' : World} (h : MsgSame x L y M) (hb : Below w.heap.size w w') : KTold x L y M w (.returned (.bool true)) w' := ⟨by rw [decide_eq_true h], hb⟩
set_option maxHeartbeats 6400000 in
set_option maxRecDepth 100000 in
theorem keepMsg_any (x y : Mr) (L M : List Mr) (w : World) (hx : MsgAt w x L) (hy : MsgAt w y M)
    (hsx : x.1.snap.length ≤ 100000) (hsy : y.1.snap.length ≤ 100000) (hsl : ∀ z ∈ L, z.1.snap.length ≤ 100000) (hsm : ∀ z ∈ M, z.1.snap.length ≤ 100000) :
    Calls Try.prog 29 #[x.val, y.val] w (KTold x L y M w) := by
  have HT := Lib.hid (Bh.Bx.two w x.obj y.obj)
  obtain ⟨hx1, hx2, hx3, hx4⟩ := hx
  obtain ⟨hy1, hy2, hy3, hy4⟩ := hy
  have HF : Hid (∀ W, Kv.Beh w W → Calls Try.prog 63 #[x.val, y.val] W fun e w' => e = .returned (.bool (Mr.same x y)) ∧ Below W.heap.size W w') := fun W hW => keepFlat_any x y W (hx1.on hW) (hy1.on hW) hsx hsy
  have HNO : Hid (Mr.same x y = false → ¬ MsgSame x L y M) := fun h h2 => by have h3 := h2.1; rw [h] at h3; exact absurd h3 (by decide)
  have HYES : Hid (Mr.same x y = true → (∀ k, k < L.length → Mr.same (L.getD k Mr.zero) (M.getD k Mr.zero) = true) → MsgSame x L y M) := fun h h2 => ⟨h, h2⟩
  have HOUT : Hid (∀ k, k < L.length → Mr.same (L.getD k Mr.zero) (M.getD k Mr.zero) = false → ¬ MsgSame x L y M) := fun k hk h h2 => by have := h2.2 k hk; rw [h] at this; exact absurd this (by decide)
  have hlen : Mr.same x y = true → L.length = M.length := fun h => by
    unfold Mr.same at h
    rw [Bool.and_eq_true, decide_eq_true_eq] at h
    have h1 : L.length = x.2.n := hx2
    have h2 : M.length = y.2.n := hy2
    have := h.2
    omega
  have HI := Lib.hid hx3
  have HJ := Lib.hid hy3
  have hmx : L.length ≤ 9223372036854775807 := Nat.le_trans hx3.len hx3.max
  have HA := Lib.hid hx4
  have HAM := Lib.hid hy4
  have HS := Lib.hid hsl
  have HSM := Lib.hid hsm
  obtain ⟨f, pe1, pe2, pb, pa, pc, pi, n, pic⟩ := x
  obtain ⟨g, qe1, qe2, qb, qa, qc, qi, qn, qic⟩ := y
  dsimp only at HI HJ
  replace hx2 : L.length = n := hx2
  subst hx2
  clear hx1 hx3 hx4 hy1 hy3 hy4 hsl hsm hsx hsy
  generalize hK0 : Mr.same (f, ⟨pe1, pe2, pb, pa, pc, pi, L.length, pic⟩) (g, ⟨qe1, qe2, qb, qa, qc, qi, qn, qic⟩) = q0 at *
  cases q0
  case false => as_aux_lemma =>
    clear hlen HYES HOUT hy2
    replace HNO := Lib.hid (HNO.out rfl)
    (obtain ⟨c0, c1, c2, c3, c4, c5, c6, c7, c8, c9, c10, c11, c12, c13, c14, c15⟩ := cells16m (x := (f, ⟨pe1, pe2, pb, pa, pc, pi, L.length, pic⟩)) HT.out.b0); (obtain ⟨d0, d1, d2, d3, d4, d5, d6, d7, d8, d9, d10, d11, d12, d13, d14, d15⟩ := cells16m (x := (g, ⟨qe1, qe2, qb, qa, qc, qi, qn, qic⟩)) HT.out.b1)
    go_enter Try.func29, Try.ntmps29
    go_wp2_with (first | (go_at_call 63; refine Calls.mono (HF.out _ HT.out.beh) ?_; rintro e w' ⟨rfl, hb⟩; (have HT := Lib.hid (HT.out.on hb)); clear hb; (obtain ⟨c0, c1, c2, c3, c4, c5, c6, c7, c8, c9, c10, c11, c12, c13, c14, c15⟩ := cells16m (x := (f, ⟨pe1, pe2, pb, pa, pc, pi, L.length, pic⟩)) HT.out.b0); (obtain ⟨d0, d1, d2, d3, d4, d5, d6, d7, d8, d9, d10, d11, d12, d13, d14, d15⟩ := cells16m (x := (g, ⟨qe1, qe2, qb, qa, qc, qi, qn, qic⟩)) HT.out.b1)))
    go_ret
    exact ktold_no HNO.out HT.out.beh
  have HM := Lib.hid (hlen rfl)
  have hqn : qn = L.length := by have h2 : M.length = qn := hy2; have := HM.out; omega
  subst hqn
  replace HYES := Lib.hid (HYES.out rfl)
  clear hlen HNO hy2
  (obtain ⟨c0, c1, c2, c3, c4, c5, c6, c7, c8, c9, c10, c11, c12, c13, c14, c15⟩ := cells16m (x := (f, ⟨pe1, pe2, pb, pa, pc, pi, L.length, pic⟩)) HT.out.b0); (obtain ⟨d0, d1, d2, d3, d4, d5, d6, d7, d8, d9, d10, d11, d12, d13, d14, d15⟩ := cells16m (x := (g, ⟨qe1, qe2, qb, qa, qc, qi, L.length, qic⟩)) HT.out.b1)
  go_enter Try.func29, Try.ntmps29
  go_wp2_with (first | (go_at_call 63; refine Calls.mono (HF.out _ HT.out.beh) ?_; rintro e w' ⟨rfl, hb⟩; (have HT := Lib.hid (HT.out.on hb)); clear hb; (obtain ⟨c0, c1, c2, c3, c4, c5, c6, c7, c8, c9, c10, c11, c12, c13, c14, c15⟩ := cells16m (x := (f, ⟨pe1, pe2, pb, pa, pc, pi, L.length, pic⟩)) HT.out.b0); (obtain ⟨d0, d1, d2, d3, d4, d5, d6, d7, d8, d9, d10, d11, d12, d13, d14, d15⟩ := cells16m (x := (g, ⟨qe1, qe2, qb, qa, qc, qi, L.length, qic⟩)) HT.out.b1)))
  go_loopw [5] (fun i wr => ∃ k : Nat, k ≤ L.length ∧ i = .int .i64 k ∧ Hid (∀ j, j < k → Mr.same (L.getD j Mr.zero) (M.getD j Mr.zero) = true) ∧ Hid (Bh.Bx w [Mr.obj (f, ⟨pe1, pe2, pb, pa, pc, pi, L.length, pic⟩), Mr.obj (g, ⟨qe1, qe2, qb, qa, qc, qi, L.length, qic⟩)] wr)) (fun i _ => L.length - (intOf i).toNat)
  case atStart => exact ⟨0, by omega, rfl, fun j hj => absurd hj (by omega), HT.out⟩
  case round =>
    clear HT
    clear c0 c1 c2 c3 c4 c5 c6 c7 c8 c9 c10 c11 c12 c13 c14 c15 d0 d1 d2 d3 d4 d5 d6 d7 d8 d9 d10 d11 d12 d13 d14 d15
    obtain ⟨k, hk, rfl, HUP, HT⟩ := hrel
    (obtain ⟨c0, c1, c2, c3, c4, c5, c6, c7, c8, c9, c10, c11, c12, c13, c14, c15⟩ := cells16m (x := (f, ⟨pe1, pe2, pb, pa, pc, pi, L.length, pic⟩)) HT.out.b0); (obtain ⟨d0, d1, d2, d3, d4, d5, d6, d7, d8, d9, d10, d11, d12, d13, d14, d15⟩ := cells16m (x := (g, ⟨qe1, qe2, qb, qa, qc, qi, L.length, qic⟩)) HT.out.b1)
    by_cases hlt : k < L.length
    · obtain ⟨cS, oS, rfl, _⟩ := MsgsAt.cells HI.out (by omega)
      obtain ⟨cT, oT, rfl, _⟩ := MsgsAt.cells HJ.out (by have := HM.out; omega)
      have HPS : Hid (∀ wq, Kv.Beh w wq → MrCells wq cS (oS + k * 16) (L.getD k Mr.zero)) := fun wq hq => by
        obtain ⟨_, _, he, hc⟩ := MsgsAt.cells (HI.out.below hq) (by omega); cases he; exact hc k hlt
      have HPT : Hid (∀ wq, Kv.Beh w wq → MrCells wq cT (oT + k * 16) (M.getD k Mr.zero)) := fun wq hq => by
        obtain ⟨_, _, he, hc⟩ := MsgsAt.cells (HJ.out.below hq) (by have := HM.out; omega); cases he; exact hc k (by have := HM.out; omega)
      have HK : Hid (∀ W, Kv.Beh w W → Calls Try.prog 63 #[(L.getD k Mr.zero).val, (M.getD k Mr.zero).val] W fun e w' => e = .returned (.bool (Mr.same (L.getD k Mr.zero) (M.getD k Mr.zero))) ∧ Below W.heap.size W w') := fun W hW =>
        keepFlat_any _ _ W ((HA.out _ (getD_inn hlt)).on hW) ((HAM.out _ (getD_inn (k := k) (by have := HM.out; omega))).on hW) (HS.out _ (getD_inn hlt)) (HSM.out _ (getD_inn (k := k) (by have := HM.out; omega)))
      have HOK := Lib.hid (HOUT.out k hlt)
      have HNX : Hid (Mr.same (L.getD k Mr.zero) (M.getD k Mr.zero) = true → ∀ j, j < k + 1 → Mr.same (L.getD j Mr.zero) (M.getD j Mr.zero) = true) := fun h j hj => by
        by_cases e : j = k
        · rw [e]; exact h
        · exact HUP.out j (by omega)
      generalize L.getD k Mr.zero = x at *
      generalize M.getD k Mr.zero = y at *
      cases hq1 : Mr.same x y
      · as_aux_lemma =>
          rw [hq1] at HK HOK
          replace HOK := Lib.hid (HOK.out rfl)
          clear HNX hq1 HUP
          go_wp2_with fail
          have HW0 := Lib.hid HT.out.beh
          clear c0 c1 c2 c3 c4 c5 c6 c7 c8 c9 c10 c11 c12 c13 c14 c15 d0 d1 d2 d3 d4 d5 d6 d7 d8 d9 d10 d11 d12 d13 d14 d15
          refine wp_region_quiet (C := Kv.Beh wr) (by kernel_rfl) (by kernel_rfl) (Beh.start _).drew ?_
          repeat (first
            | (refine BigFrame.wpQuiet_skip (by exact Eq.refl false) ?_
               ((try simp only [Act.put]); (try simp only [List.setIfInBounds_toArray]); (try simp only [List.set_cons_zero, List.set_cons_succ])))
            | (refine BigFrame.wpQuiet_want (by exact Eq.refl true) (fun K hK => ?_)
               first
               | (refine quiet_move2 _ rfl (by go_simp; rfl) ?_; refine hK _ ?_)
               | (apply Exists.intro
                  refine ⟨fun wq hq => ?_, hK _ ?_⟩
                  · ((have HTQ := HT.out.on hq); (obtain ⟨c0, c1, c2, c3, c4, c5, c6, c7, c8, c9, c10, c11, c12, c13, c14, c15⟩ := cells16m (x := (f, ⟨pe1, pe2, pb, pa, pc, (some ⟨cS, oS, none⟩), L.length, pic⟩)) HTQ.b0); (obtain ⟨d0, d1, d2, d3, d4, d5, d6, d7, d8, d9, d10, d11, d12, d13, d14, d15⟩ := cells16m (x := (g, ⟨qe1, qe2, qb, qa, qc, (some ⟨cT, oT, none⟩), L.length, qic⟩)) HTQ.b1); (obtain ⟨g0, g1, g2, g3, g4, g5, g6, g7, g8, g9, g10, g11, g12, g13, g14, g15⟩ := HPS.out _ (HW0.out.trans hq)); (obtain ⟨k0, k1, k2, k3, k4, k5, k6, k7, k8, k9, k10, k11, k12, k13, k14, k15⟩ := HPT.out _ (HW0.out.trans hq)); clear HTQ
                     have HQ := Lib.hid hq
                     clear hq
                     unfold Oper.quietAt
                     go_simp
                     first
                     | rfl
                     | (go_at_call 63; exact (HK.out _ (HW0.out.trans HQ.out)).mono (fun e w' ⟨he, hb⟩ => ⟨he, HQ.out.on hb⟩))))
               clear hK K
               ((try simp only [Act.put]); (try simp only [List.setIfInBounds_toArray]); (try simp only [List.set_cons_zero, List.set_cons_succ]))))
          refine wpQuiet_nil ?_
          intro wq hq
          have HT := Lib.hid (HT.out.on hq)
          clear hq
          go_wp2_with fail
          go_ret
          exact ktold_no HOK.out HT.out.beh
      · as_aux_lemma =>
          rw [hq1] at HK HNX
          replace HNX := Lib.hid (HNX.out rfl)
          clear hq1 HUP HOK
          go_wp2_with fail
          have HW0 := Lib.hid HT.out.beh
          clear c0 c1 c2 c3 c4 c5 c6 c7 c8 c9 c10 c11 c12 c13 c14 c15 d0 d1 d2 d3 d4 d5 d6 d7 d8 d9 d10 d11 d12 d13 d14 d15
          refine wp_region_quiet (C := Kv.Beh wr) (by kernel_rfl) (by kernel_rfl) (Beh.start _).drew ?_
          repeat (first
            | (refine BigFrame.wpQuiet_skip (by exact Eq.refl false) ?_
               ((try simp only [Act.put]); (try simp only [List.setIfInBounds_toArray]); (try simp only [List.set_cons_zero, List.set_cons_succ])))
            | (refine BigFrame.wpQuiet_want (by exact Eq.refl true) (fun K hK => ?_)
               first
               | (refine quiet_move2 _ rfl (by go_simp; rfl) ?_; refine hK _ ?_)
               | (apply Exists.intro
                  refine ⟨fun wq hq => ?_, hK _ ?_⟩
                  · ((have HTQ := HT.out.on hq); (obtain ⟨c0, c1, c2, c3, c4, c5, c6, c7, c8, c9, c10, c11, c12, c13, c14, c15⟩ := cells16m (x := (f, ⟨pe1, pe2, pb, pa, pc, (some ⟨cS, oS, none⟩), L.length, pic⟩)) HTQ.b0); (obtain ⟨d0, d1, d2, d3, d4, d5, d6, d7, d8, d9, d10, d11, d12, d13, d14, d15⟩ := cells16m (x := (g, ⟨qe1, qe2, qb, qa, qc, (some ⟨cT, oT, none⟩), L.length, qic⟩)) HTQ.b1); (obtain ⟨g0, g1, g2, g3, g4, g5, g6, g7, g8, g9, g10, g11, g12, g13, g14, g15⟩ := HPS.out _ (HW0.out.trans hq)); (obtain ⟨k0, k1, k2, k3, k4, k5, k6, k7, k8, k9, k10, k11, k12, k13, k14, k15⟩ := HPT.out _ (HW0.out.trans hq)); clear HTQ
                     have HQ := Lib.hid hq
                     clear hq
                     unfold Oper.quietAt
                     go_simp
                     first
                     | rfl
                     | (go_at_call 63; exact (HK.out _ (HW0.out.trans HQ.out)).mono (fun e w' ⟨he, hb⟩ => ⟨he, HQ.out.on hb⟩))))
               clear hK K
               ((try simp only [Act.put]); (try simp only [List.setIfInBounds_toArray]); (try simp only [List.set_cons_zero, List.set_cons_succ]))))
          refine wpQuiet_nil ?_
          intro wq hq
          have HT := Lib.hid (HT.out.on hq)
          clear hq
          go_wp2_with fail
          go_roundw
          case rel => exact ⟨k + 1, by omega, by go_num, HNX, HT.out⟩
          case measure => simp [intOf]; omega
    · as_aux_lemma =>
        obtain rfl : k = L.length := by omega
        go_wp2
        go_ret
        exact ktold_yes (HYES.out HUP.out) HT.out.beh
end Go.Proofs.Ytjdebdfbjcpjgaa.Wr
