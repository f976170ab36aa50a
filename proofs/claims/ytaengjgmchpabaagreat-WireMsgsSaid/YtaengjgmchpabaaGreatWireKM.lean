/- The keeper's Msg, of one message with itself in two places. -/
import Derived.Test.YtaengjgmchpabaaGreatWireKS
import Derived.Test.YtaengjgmchpabaaGreatWireEncM
namespace Go.Proofs.YtaengjgmchpabaaGreat.Wr
open Go Go.RowKit Vl Kv Ss Cn Lg Li Nm
attribute [local go_sem] Nm.run_bits Nm.run_frombits run_store_float
attribute [local irreducible] wpQuiet
theorem fst_len {L M : List Mr} (h : L.map Prod.fst = M.map Prod.fst) : L.length = M.length := by
  have := congrArg List.length h
  rwa [List.length_map, List.length_map] at this
theorem fst_getD {L M : List Mr} (h : L.map Prod.fst = M.map Prod.fst) (k : Nat) : (L.getD k Mr.zero).1 = (M.getD k Mr.zero).1 := by
  have e : ∀ N : List Mr, (N.getD k Mr.zero).1 = (N.map Prod.fst).getD k Mr.zero.1 := fun N => by
    rw [List.getD_eq_getElem?_getD, List.getD_eq_getElem?_getD, List.getElem?_map]
    cases N[k]? <;> rfl
  rw [e, e, h]
theorem getD_in {L : List Mr} {k : Nat} (hk : k < L.length) : L.getD k Mr.zero ∈ L := by
  have e : L.getD k Mr.zero = L[k] := by simp [hk]
  rw [e]; exact List.getElem_mem hk
set_option maxHeartbeats 6400000 in
set_option maxRecDepth 100000 in
theorem keepMsg_self (f : Fl) (p q : Mp) (L M : List Mr) (w : World) (hx : MsgAt w (f, p) L) (hy : MsgAt w (f, q) M) (he : L.map Prod.fst = M.map Prod.fst) (hn : ∀ k, k < L.length → (L.getD k Mr.zero).2.n = (M.getD k Mr.zero).2.n)
    (hsx : f.snap.length ≤ 100000) (hsl : ∀ y ∈ L, y.1.snap.length ≤ 100000) :
    Calls Tryz.prog 12 #[Mr.val (f, p), Mr.val (f, q)] w fun e w' => e = .returned (.bool true) ∧ Below w.heap.size w w' := by
  have HT := Lib.hid (Bh.Bx.two w (Mr.obj (f, p)) (Mr.obj (f, q)))
  have hlen := fst_len he
  obtain ⟨hx1, hx2, hx3, hx4⟩ := hx
  obtain ⟨hy1, hy2, hy3, hy4⟩ := hy
  have hpq : p.n = q.n := by
    have h1 : L.length = p.n := hx2
    have h2 : M.length = q.n := hy2
    omega
  have HF : Hid (∀ W, Kv.Beh w W → Calls Tryz.prog 30 #[Mr.val (f, p), Mr.val (f, q)] W fun e w' => e = .returned (.bool true) ∧ Below W.heap.size W w') := fun W hW => keepFlat_self f p q W hpq (hx1.on hW) (hy1.on hW) hsx
  have HI := Lib.hid hx3
  have HJ := Lib.hid hy3
  have hmx : L.length ≤ 9223372036854775807 := Nat.le_trans hx3.len hx3.max
  have HA := Lib.hid hx4
  have HAM := Lib.hid hy4
  have HE := Lib.hid he
  have HN := Lib.hid hn
  have HM := Lib.hid hlen
  have HS := Lib.hid hsl
  obtain ⟨pe1, pe2, pb, pa, pc, pi, n, pic⟩ := p
  obtain ⟨qe1, qe2, qb, qa, qc, qi, qn, qic⟩ := q
  dsimp only at hpq HI HJ
  have hx2 : L.length = n := hx2
  subst hpq
  subst hx2
  clear hx1 hx3 hx4 hy1 hy2 hy3 hy4 he hn hlen hsl hsx
  (obtain ⟨c0, c1, c2, c3, c4, c5, c6, c7, c8, c9, c10, c11, c12, c13, c14, c15⟩ := cells16m (x := (f, ⟨pe1, pe2, pb, pa, pc, pi, L.length, pic⟩)) HT.out.b0); (obtain ⟨d0, d1, d2, d3, d4, d5, d6, d7, d8, d9, d10, d11, d12, d13, d14, d15⟩ := cells16m (x := (f, ⟨qe1, qe2, qb, qa, qc, qi, L.length, qic⟩)) HT.out.b1)
  go_enter Tryz.func12, Tryz.ntmps12
  go_wp2_with (first | (go_at_call 30; refine Calls.mono (HF.out _ HT.out.beh) ?_; rintro e w' ⟨rfl, hb⟩; (have HT := Lib.hid (HT.out.on hb)); clear hb; (obtain ⟨c0, c1, c2, c3, c4, c5, c6, c7, c8, c9, c10, c11, c12, c13, c14, c15⟩ := cells16m (x := (f, ⟨pe1, pe2, pb, pa, pc, pi, L.length, pic⟩)) HT.out.b0); (obtain ⟨d0, d1, d2, d3, d4, d5, d6, d7, d8, d9, d10, d11, d12, d13, d14, d15⟩ := cells16m (x := (f, ⟨qe1, qe2, qb, qa, qc, qi, L.length, qic⟩)) HT.out.b1)))
  go_loopw [5] (fun i wr => ∃ k : Nat, k ≤ L.length ∧ i = .int .i64 k ∧ Hid (Bh.Bx w [Mr.obj (f, ⟨pe1, pe2, pb, pa, pc, pi, L.length, pic⟩), Mr.obj (f, ⟨qe1, qe2, qb, qa, qc, qi, L.length, qic⟩)] wr)) (fun i _ => L.length - (intOf i).toNat)
  case atStart => exact ⟨0, by omega, rfl, HT.out⟩
  case round =>
    clear HT
    clear c0 c1 c2 c3 c4 c5 c6 c7 c8 c9 c10 c11 c12 c13 c14 c15 d0 d1 d2 d3 d4 d5 d6 d7 d8 d9 d10 d11 d12 d13 d14 d15
    obtain ⟨k, hk, rfl, HT⟩ := hrel
    (obtain ⟨c0, c1, c2, c3, c4, c5, c6, c7, c8, c9, c10, c11, c12, c13, c14, c15⟩ := cells16m (x := (f, ⟨pe1, pe2, pb, pa, pc, pi, L.length, pic⟩)) HT.out.b0); (obtain ⟨d0, d1, d2, d3, d4, d5, d6, d7, d8, d9, d10, d11, d12, d13, d14, d15⟩ := cells16m (x := (f, ⟨qe1, qe2, qb, qa, qc, qi, L.length, qic⟩)) HT.out.b1)
    by_cases hlt : k < L.length
    · obtain ⟨cS, oS, rfl, _⟩ := MsgsAt.cells HI.out (by omega)
      obtain ⟨cT, oT, rfl, _⟩ := MsgsAt.cells HJ.out (by have := HM.out; omega)
      have HPS : Hid (∀ wq, Kv.Beh w wq → MrCells wq cS (oS + k * 16) (L.getD k Mr.zero)) := fun wq hq => by
        obtain ⟨_, _, he, hc⟩ := MsgsAt.cells (HI.out.below hq) (by omega); cases he; exact hc k hlt
      have HPT : Hid (∀ wq, Kv.Beh w wq → MrCells wq cT (oT + k * 16) (M.getD k Mr.zero)) := fun wq hq => by
        obtain ⟨_, _, he, hc⟩ := MsgsAt.cells (HJ.out.below hq) (by have := HM.out; omega); cases he; exact hc k (by have := HM.out; omega)
      have HK : Hid (∀ W, Kv.Beh w W → Calls Tryz.prog 30 #[(L.getD k Mr.zero).val, (M.getD k Mr.zero).val] W fun e w' => e = .returned (.bool true) ∧ Below W.heap.size W w') := fun W hW => by
        have a1 := HA.out _ (getD_in hlt)
        have a2 := HAM.out _ (getD_in (k := k) (by have := HM.out; omega))
        have a3 := fst_getD HE.out k
        have a4 := HN.out k hlt
        have a5 := HS.out _ (getD_in hlt)
        revert a1 a2 a3 a4 a5
        generalize L.getD k Mr.zero = x
        generalize M.getD k Mr.zero = y
        obtain ⟨xf, xp⟩ := x
        obtain ⟨yf, yp⟩ := y
        intro a1 a2 a3 a4 a5
        have a3 : xf = yf := a3
        subst a3
        exact keepFlat_self xf xp yp W a4 (a1.on hW) (a2.on hW) a5
      generalize L.getD k Mr.zero = x at *
      generalize M.getD k Mr.zero = y at *
      go_wp2_with fail
      have HW0 := Lib.hid HT.out.beh
      clear c0 c1 c2 c3 c4 c5 c6 c7 c8 c9 c10 c11 c12 c13 c14 c15 d0 d1 d2 d3 d4 d5 d6 d7 d8 d9 d10 d11 d12 d13 d14 d15
      refine wp_region_quiet (C := Kv.Beh wr) (by kernel_rfl) (by kernel_rfl) (Beh.start _).drew ?_
      repeat (first
        | (refine BigFrame.wpQuiet_skip (by exact Eq.refl false) ?_
           ((try simp only [Act.put]); (try simp only [List.setIfInBounds_toArray]); (try simp only [List.set_cons_zero, List.set_cons_succ])))
        | (refine BigFrame.wpQuiet_want (by exact Eq.refl true) (fun K hK => ?_)
           first
           | (refine quiet_move2 _ rfl (by go_simp; rfl) ?_; refine hK _ ?_)
           | (apply Exists.intro
              refine ⟨fun wq hq => ?_, hK _ ?_⟩
              · ((have HTQ := HT.out.on hq); (obtain ⟨c0, c1, c2, c3, c4, c5, c6, c7, c8, c9, c10, c11, c12, c13, c14, c15⟩ := cells16m (x := (f, ⟨pe1, pe2, pb, pa, pc, (some ⟨cS, oS, none⟩), L.length, pic⟩)) HTQ.b0); (obtain ⟨d0, d1, d2, d3, d4, d5, d6, d7, d8, d9, d10, d11, d12, d13, d14, d15⟩ := cells16m (x := (f, ⟨qe1, qe2, qb, qa, qc, (some ⟨cT, oT, none⟩), L.length, qic⟩)) HTQ.b1); (obtain ⟨g0, g1, g2, g3, g4, g5, g6, g7, g8, g9, g10, g11, g12, g13, g14, g15⟩ := HPS.out _ (HW0.out.trans hq)); (obtain ⟨k0, k1, k2, k3, k4, k5, k6, k7, k8, k9, k10, k11, k12, k13, k14, k15⟩ := HPT.out _ (HW0.out.trans hq)); clear HTQ
                 have HQ := Lib.hid hq
                 clear hq
                 unfold Oper.quietAt
                 go_simp
                 first
                 | rfl
                 | (go_at_call 30; exact (HK.out _ (HW0.out.trans HQ.out)).mono (fun e w' ⟨he, hb⟩ => ⟨he, HQ.out.on hb⟩))))
           clear hK K
           ((try simp only [Act.put]); (try simp only [List.setIfInBounds_toArray]); (try simp only [List.set_cons_zero, List.set_cons_succ]))))
      refine wpQuiet_nil ?_
      intro wq hq
      have HT := Lib.hid (HT.out.on hq)
      clear hq
      go_wp2_with fail
      go_roundw
      case rel => exact ⟨k + 1, by omega, by go_num, HT.out⟩
      case measure => simp [intOf]; omega
    · obtain rfl : k = L.length := by omega
      go_wp2
      go_ret
      exact ⟨rfl, HT.out.beh⟩
end Go.Proofs.YtaengjgmchpabaaGreat.Wr
