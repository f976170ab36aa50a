import Derived.Test.YtaengjgmchpabaaGreatMergeWr11
import Derived.Test.YtaengjgmchpabaaGreatMergeWr30
section
/- Cut out of WireKE so that every seat fills it. -/
namespace Go.Proofs.YtaengjgmchpabaaGreat.Wr
open Go Go.RowKit Vl Kv Ss Cn Lg
def E.same (x y : E) : Bool := (x.term == y.term) && (x.kind == y.kind) && Cl.same x.call y.call && decide (x.conf = y.conf)
end Go.Proofs.YtaengjgmchpabaaGreat.Wr
end
section
/- The keeper's Entry, of any two. -/
namespace Go.Proofs.YtaengjgmchpabaaGreat.Wr
open Go Go.RowKit Vl Kv Ss Cn Lg Nm
attribute [local go_sem] Nm.run_bits Nm.run_frombits run_store_float
theorem E.same_refl (x : E) : E.same x x = true := by unfold E.same; simp [Cl.same_refl]
set_option maxHeartbeats 3200000 in
set_option maxRecDepth 100000 in
theorem keepEntry_any (x y : E) (w : World) :
    Calls Tryz.prog 79 #[x.agg, y.agg] w fun e w' => e = .returned (.bool (E.same x y)) ∧ Below w.heap.size w w' := by
  have HT := Lib.hid (Bh.Two.start w x.obj y.obj)
  have HK := fun w => Lib.hid (keepCall_any x.call y.call w)
  have HN := fun w => Lib.hid (keepConf_any x.conf y.conf w)
  obtain ⟨xt, xk, xc, xf⟩ := x
  obtain ⟨yt, yk, yc, yf⟩ := y
  have HC := Lib.hid (show E.same ⟨xt, xk, xc, xf⟩ ⟨yt, yk, yc, yf⟩ = ((xt == yt) && (xk == yk) && Cl.same xc yc && decide (xf = yf)) from rfl)
  unfold E.obj at HT
  dsimp only at HT HK HN
  generalize Cl.same xc yc = q at *
  generalize decide (xf = yf) = r at *
  cases h1 : xt == yt
  · go_enter Tryz.func79, Tryz.ntmps79
    go_wp2_with fail
    go_ret
    exact ⟨ret_bool (by rw [HC.out, h1]; rfl), HT.out.beh⟩
  cases h2 : xk == yk
  · go_enter Tryz.func79, Tryz.ntmps79
    go_wp2_with fail
    go_ret
    exact ⟨ret_bool (by rw [HC.out, h1, h2]; rfl), HT.out.beh⟩
  cases q
  · go_enter Tryz.func79, Tryz.ntmps79
    go_wp2_with (go_at_call 90; refine ((HK _).out).mono ?_; rintro e w' ⟨rfl, hb⟩; (have HT := Lib.hid (HT.out.on hb)); clear hb)
    go_ret
    exact ⟨ret_bool (by rw [HC.out, h1, h2]; rfl), HT.out.beh⟩
  go_enter Tryz.func79, Tryz.ntmps79
  go_wp2_with (first
    | (go_at_call 90; refine ((HK _).out).mono ?_; rintro e w' ⟨rfl, hb⟩; (have HT := Lib.hid (HT.out.on hb)); clear hb; (obtain ⟨c0, c1, c2, c3, c4, c5, c6, c7, c8, c9, c10, c11, c12, c13, c14, c15⟩ := cells16 HT.out.a); (obtain ⟨d0, d1, d2, d3, d4, d5, d6, d7, d8, d9, d10, d11, d12, d13, d14, d15⟩ := cells16 HT.out.b))
    | (go_at_call 63; refine ((HN _).out).mono ?_; rintro e w' ⟨rfl, hb⟩; (have HT := Lib.hid (HT.out.on hb)); clear hb))
  go_ret
  exact ⟨ret_bool (by rw [HC.out, h1, h2]; simp), HT.out.beh⟩
end Go.Proofs.YtaengjgmchpabaaGreat.Wr
end
section
/- The keeper's Entries, of any two lists. -/
namespace Go.Proofs.YtaengjgmchpabaaGreat.Wr
open Go Go.RowKit Vl Kv Ss Cn Lg Li Nm
attribute [local go_sem] Nm.run_bits Nm.run_frombits run_store_float
attribute [local irreducible] wpQuiet
/-- two lists, one by one -/
def sameBy {α : Type} (S : α → α → Bool) (z : α) (L M : List α) : Bool := decide (L.length = M.length ∧ ∀ i, i < L.length → S (L.getD i z) (M.getD i z) = true)
theorem sameBy_refl {α : Type} {S : α → α → Bool} {z : α} (h : ∀ x, S x x = true) (L : List α) : sameBy S z L L = true := decide_eq_true ⟨rfl, fun _ _ => h _⟩
theorem sameBy_eq {α : Type} {S : α → α → Bool} {z : α} {L M : List α} (h : sameBy S z L M = true) (hS : ∀ x ∈ L, ∀ y ∈ M, S x y = true → x = y) : L = M := by
  obtain ⟨h1, h2⟩ := of_decide_eq_true h
  refine List.ext_getElem h1 fun i hi hj => ?_
  have h3 := h2 i hi
  have e1 : L.getD i z = L[i] := by simp [hi]
  have e2 : M.getD i z = M[i] := by simp [hj]
  rw [e1, e2] at h3
  exact hS _ (List.getElem_mem hi) _ (List.getElem_mem hj) h3
set_option maxHeartbeats 3200000 in
set_option maxRecDepth 100000 in
theorem keepEnts_any (a : Option Addr) (cap : Nat) (a2 : Option Addr) (cap2 : Nat) (L M : List E) (w : World) (h : EntAt w a cap L) (h2 : EntAt w a2 cap2 M) :
    Calls Tryz.prog 62 #[.slice a L.length cap, .slice a2 M.length cap2] w fun e w' => e = .returned (.bool (sameBy E.same E.zero L M)) ∧ Below w.heap.size w w' := by
  have HI := Lib.hid h
  have HJ := Lib.hid h2
  have hmx : L.length ≤ 9223372036854775807 := Nat.le_trans h.len h.max
  have hmy : M.length ≤ 9223372036854775807 := Nat.le_trans h2.len h2.max
  clear h h2
  by_cases hlen : L.length = M.length
  case neg =>
    have HS := Lib.hid (show sameBy E.same E.zero L M = false from decide_eq_false fun h => hlen h.1)
    have b1 : ((L.length : Int) == (M.length : Int)) = false := beq_eq_false_iff_ne.2 (by omega)
    have b2 : ((L.length : Int) != (M.length : Int)) = true := by rw [bne, b1]; rfl
    clear hlen
    go_enter Tryz.func62, Tryz.ntmps62
    go_wp2
    go_ret
    exact ⟨ret_bool HS.out.symm, Beh.start _⟩
  have HS : Hid (∀ b, b = decide (∀ i, i < L.length → E.same (L.getD i E.zero) (M.getD i E.zero) = true) → sameBy E.same E.zero L M = b) := fun b hb => by
    rw [hb]; unfold sameBy
    rw [Bool.eq_iff_iff, decide_eq_true_eq, decide_eq_true_eq]
    exact ⟨fun h => h.2, fun h => ⟨hlen, h⟩⟩
  have HM := Lib.hid hlen
  have e0 : (M.length : Int) = (L.length : Int) := by rw [hlen]
  go_enter Tryz.func62, Tryz.ntmps62
  rw [← hlen]
  clear hlen e0 hmy
  go_wp2
  go_loopw [5] (fun i wr => ∃ k : Nat, k ≤ L.length ∧ i = .int .i64 k ∧ Hid (Kv.Beh w wr) ∧ Hid (∀ i, i < k → E.same (L.getD i E.zero) (M.getD i E.zero) = true)) (fun i _ => L.length - (intOf i).toNat)
  case atStart => exact ⟨0, by omega, rfl, Beh.start _, fun i hi => by omega⟩
  case round =>
    obtain ⟨k, hk, rfl, HW, HD⟩ := hrel
    by_cases hlt : k < L.length
    · obtain ⟨cS, oS, rfl, _⟩ := EntAt.cells HI.out (by omega)
      obtain ⟨cT, oT, rfl, _⟩ := EntAt.cells HJ.out (by have := HM.out; omega)
      have HPS : Hid (∀ wq, Kv.Beh w wq → E.Cells wq cS (oS + k * 16) (L.getD k E.zero)) := fun wq hq => by
        obtain ⟨_, _, he, hc⟩ := EntAt.cells (HI.out.below hq) (by omega); cases he; exact hc k hlt
      have HPT : Hid (∀ wq, Kv.Beh w wq → E.Cells wq cT (oT + k * 16) (M.getD k E.zero)) := fun wq hq => by
        obtain ⟨_, _, he, hc⟩ := EntAt.cells (HJ.out.below hq) (by have := HM.out; omega); cases he; exact hc k (by have := HM.out; omega)
      have HE : Hid (∀ b, E.same (L.getD k E.zero) (M.getD k E.zero) = b → (b = true → ∀ i, i < k + 1 → E.same (L.getD i E.zero) (M.getD i E.zero) = true) ∧ (b = false → sameBy E.same E.zero L M = false)) := fun b hb => ⟨fun h1 i hi => by
          rcases Nat.lt_or_eq_of_le (Nat.lt_succ_iff.1 hi) with h3 | h3
          · exact HD.out i h3
          · rw [h3, hb, h1], fun h1 => HS.out false (decide_eq_false fun h => by have := h k hlt; rw [hb, h1] at this; cases this).symm⟩
      generalize L.getD k E.zero = x at *
      generalize M.getD k E.zero = y at *
      have HK := fun w => Lib.hid (keepEntry_any x y w)
      have HE := Lib.hid (HE.out _ rfl)
      generalize E.same x y = q at *
      go_wp2_with fail
      refine wp_region_quiet (C := Kv.Beh wr) (by kernel_rfl) (by kernel_rfl) (Beh.start _).drew ?_
      repeat (first
        | (refine BigFrame.wpQuiet_skip (by exact Eq.refl false) ?_
           ((try simp only [Act.put]); (try simp only [List.setIfInBounds_toArray]); (try simp only [List.set_cons_zero, List.set_cons_succ])))
        | (refine BigFrame.wpQuiet_want (by exact Eq.refl true) (fun K hK => ?_)
           first
           | (refine quiet_move2 _ rfl (by go_simp; rfl) ?_; refine hK _ ?_)
           | (apply Exists.intro
              refine ⟨fun wq hq => ?_, hK _ ?_⟩
              · ((obtain ⟨c0, c1, c2, c3, c4, c5, c6, c7, c8, c9, c10, c11, c12, c13, c14, c15⟩ := HPS.out _ (HW.out.trans hq)); (obtain ⟨d0, d1, d2, d3, d4, d5, d6, d7, d8, d9, d10, d11, d12, d13, d14, d15⟩ := HPT.out _ (HW.out.trans hq))
                 have HQ := Lib.hid hq
                 clear hq
                 unfold Oper.quietAt
                 go_simp
                 first
                 | rfl
                 | (go_at_call 79; exact ((HK _).out).mono (fun e w' ⟨he, hb⟩ => ⟨he, HQ.out.on hb⟩))))
           clear hK K
           ((try simp only [Act.put]); (try simp only [List.setIfInBounds_toArray]); (try simp only [List.set_cons_zero, List.set_cons_succ]))))
      refine wpQuiet_nil ?_
      intro wq hq
      have HQ := Lib.hid (HW.out.trans hq)
      clear hq
      cases q
      · go_wp2_with fail
        go_ret
        exact ⟨ret_bool (HE.out.2 (by first | rfl | trivial)).symm, HQ.out⟩
      · go_wp2_with fail
        go_roundw
        case rel => exact ⟨k + 1, by omega, by go_num, HQ.out, HE.out.1 (by first | rfl | trivial)⟩
        case measure => simp [intOf]; omega
    · obtain rfl : k = L.length := by omega
      have HF := Lib.hid (HS.out true (decide_eq_true HD.out).symm)
      go_wp2
      go_ret
      exact ⟨ret_bool HF.out.symm, HW.out⟩
end Go.Proofs.YtaengjgmchpabaaGreat.Wr
end
section
/- The keeper's Entries, of one list with itself. -/
namespace Go.Proofs.YtaengjgmchpabaaGreat.Lg
open Go Go.RowKit Vl Kv Ss Cn Mem Li Nm
attribute [local go_sem] Nm.run_bits Nm.run_frombits run_store_float
attribute [local irreducible] wpQuiet

set_option maxHeartbeats 3200000 in
set_option maxRecDepth 100000 in
theorem keepEnts_self (a : Option Addr) (cap : Nat) (a2 : Option Addr) (cap2 : Nat) (L : List E) (w : World) (h : EntAt w a cap L) (h2 : EntAt w a2 cap2 L) :
    Calls Tryz.prog 62 #[.slice a L.length cap, .slice a2 L.length cap2] w fun e w' => e = .returned (.bool true) ∧ Below w.heap.size w w' := by
  have HI := Lib.hid h
  have HJ := Lib.hid h2
  have hmx : L.length ≤ 9223372036854775807 := Nat.le_trans h.len h.max
  clear h h2
  go_enter Tryz.func62, Tryz.ntmps62
  go_wp2
  go_loopw [5] (fun i wr => ∃ k : Nat, k ≤ L.length ∧ i = .int .i64 k ∧ Hid (Kv.Beh w wr)) (fun i _ => L.length - (intOf i).toNat)
  case atStart => exact ⟨0, by omega, rfl, Beh.start _⟩
  case round =>
    obtain ⟨k, hk, rfl, HW⟩ := hrel
    by_cases hlt : k < L.length
    · obtain ⟨cS, oS, rfl, _⟩ := EntAt.cells HI.out (by omega)
      obtain ⟨cT, oT, rfl, _⟩ := EntAt.cells HJ.out (by omega)
      have HPS : Hid (∀ wq, Kv.Beh w wq → E.Cells wq cS (oS + k * 16) (L.getD k E.zero)) := fun wq hq => by
        obtain ⟨_, _, he, hc⟩ := EntAt.cells (HI.out.below hq) (by omega); cases he; exact hc k hlt
      have HPT : Hid (∀ wq, Kv.Beh w wq → E.Cells wq cT (oT + k * 16) (L.getD k E.zero)) := fun wq hq => by
        obtain ⟨_, _, he, hc⟩ := EntAt.cells (HJ.out.below hq) (by omega); cases he; exact hc k hlt
      generalize L.getD k E.zero = x at *
      go_wp2_with fail
      refine wp_region_quiet (C := Kv.Beh wr) (by kernel_rfl) (by kernel_rfl) (Beh.start _).drew ?_
      repeat (first
        | (refine BigFrame.wpQuiet_skip (by exact Eq.refl false) ?_
           ((try simp only [Act.put]); (try simp only [List.setIfInBounds_toArray]); (try simp only [List.set_cons_zero, List.set_cons_succ])))
        | (refine BigFrame.wpQuiet_want (by exact Eq.refl true) (fun K hK => ?_)
           first
           | (refine quiet_move2 _ rfl (by go_simp; rfl) ?_; refine hK _ ?_)
           | (apply Exists.intro
              refine ⟨fun wq hq => ?_, hK _ ?_⟩
              · ((obtain ⟨c0, c1, c2, c3, c4, c5, c6, c7, c8, c9, c10, c11, c12, c13, c14, c15⟩ := HPS.out _ (HW.out.trans hq)); (obtain ⟨d0, d1, d2, d3, d4, d5, d6, d7, d8, d9, d10, d11, d12, d13, d14, d15⟩ := HPT.out _ (HW.out.trans hq))
                 have HQ := Lib.hid hq
                 clear hq
                 unfold Oper.quietAt
                 go_simp
                 first
                 | rfl
                 | (go_at_call 79; exact (keepEntry_self x _).mono (fun e w' ⟨he, hb⟩ => ⟨he, HQ.out.on hb⟩))))
           clear hK K
           ((try simp only [Act.put]); (try simp only [List.setIfInBounds_toArray]); (try simp only [List.set_cons_zero, List.set_cons_succ]))))
      refine wpQuiet_nil ?_
      intro wq hq
      have HQ := Lib.hid (HW.out.trans hq)
      clear hq
      go_wp2_with fail
      go_roundw
      case rel => exact ⟨k + 1, by omega, by go_num, HQ.out⟩
      case measure => simp [intOf]; omega
    · obtain rfl : k = L.length := by omega
      go_wp2
      go_ret
      exact ⟨rfl, HW.out⟩
end Go.Proofs.YtaengjgmchpabaaGreat.Lg
end
