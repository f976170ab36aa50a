/- The keeper's Entries, of one list with itself. -/
import Derived.Test.YtaifjkilmdnfbaaLogKeepA
namespace Go.Proofs.Ytaifjkilmdnfbaa.Lg
open Go Go.RowKit Vl Kv Ss Cn Mem Li Nm
attribute [local go_sem] Nm.run_bits Nm.run_frombits run_store_float
attribute [local irreducible] wpQuiet

set_option maxHeartbeats 3200000 in
set_option maxRecDepth 100000 in
theorem keepEnts_self (a : Option Addr) (cap : Nat) (a2 : Option Addr) (cap2 : Nat) (L : List E) (w : World) (h : EntAt w a cap L) (h2 : EntAt w a2 cap2 L) :
    Calls Try.prog 27 #[.slice a L.length cap, .slice a2 L.length cap2] w fun e w' => e = .returned (.bool true) ∧ Below w.heap.size w w' := by
  have HI := Lib.hid h
  have HJ := Lib.hid h2
  have hmx : L.length ≤ 9223372036854775807 := Nat.le_trans h.len h.max
  clear h h2
  go_enter Try.func27, Try.ntmps27
  go_wp2
  go_loopw [5] (fun i wr => ∃ k : Nat, k ≤ L.length ∧ i = .int .i64 k ∧ Hid (Kv.Beh w wr)) (fun i _ => L.length - (intOf i).toNat)
  case atStart => exact ⟨0, by omega, rfl, Beh.start _⟩
  case round =>
    obtain ⟨k, hk, rfl, HW⟩ := hrel
    by_cases hlt : k < L.length
    · obtain ⟨cS, oS, rfl, _⟩ := EntAt.cells HI.out (by omega)
      obtain ⟨cT, oT, rfl, _⟩ := EntAt.cells HJ.out (by omega)
      have HPS : Hid (∀ wq, Kv.Beh w wq → E.Cells wq cS (oS + k * 16) (L.getD k E.zero)) := fun wq hq => by
        obtain ⟨_, _, he, hc⟩ := EntAt.cells (HI.out.below hq) (by omega); cases he; exact hc k hlt
      have HPT : Hid (∀ wq, Kv.Beh w wq → E.Cells wq cT (oT + k * 16) (L.getD k E.zero)) := fun wq hq => by
        obtain ⟨_, _, he, hc⟩ := EntAt.cells (HJ.out.below hq) (by omega); cases he; exact hc k hlt
      generalize L.getD k E.zero = x at *
      go_wp2_with fail
      refine wp_region_quiet (C := Kv.Beh wr) (by kernel_rfl) (by kernel_rfl) (Beh.start _).drew ?_
      repeat (first
        | (refine BigFrame.wpQuiet_skip (by exact Eq.refl false) ?_
           ((try simp only [Act.put]); (try simp only [List.setIfInBounds_toArray]); (try simp only [List.set_cons_zero, List.set_cons_succ])))
        | (refine BigFrame.wpQuiet_want (by exact Eq.refl true) (fun K hK => ?_)
           first
           | (refine quiet_move2 _ rfl (by go_simp; rfl) ?_; refine hK _ ?_)
           | (apply Exists.intro
              refine ⟨fun wq hq => ?_, hK _ ?_⟩
              · ((obtain ⟨c0, c1, c2, c3, c4, c5, c6, c7, c8, c9, c10, c11, c12, c13, c14, c15⟩ := HPS.out _ (HW.out.trans hq)); (obtain ⟨d0, d1, d2, d3, d4, d5, d6, d7, d8, d9, d10, d11, d12, d13, d14, d15⟩ := HPT.out _ (HW.out.trans hq))
                 have HQ := Lib.hid hq
                 clear hq
                 unfold Oper.quietAt
                 go_simp
                 first
                 | rfl
                 | (go_at_call 22; exact (keepEntry_self x _).mono (fun e w' ⟨he, hb⟩ => ⟨he, HQ.out.on hb⟩))))
           clear hK K
           ((try simp only [Act.put]); (try simp only [List.setIfInBounds_toArray]); (try simp only [List.set_cons_zero, List.set_cons_succ]))))
      refine wpQuiet_nil ?_
      intro wq hq
      have HQ := Lib.hid (HW.out.trans hq)
      clear hq
      go_wp2_with fail
      go_roundw
      case rel => exact ⟨k + 1, by omega, by go_num, HQ.out⟩
      case measure => simp [intOf]; omega
    · obtain rfl : k = L.length := by omega
      go_wp2
      go_ret
      exact ⟨rfl, HW.out⟩
end Go.Proofs.Ytaifjkilmdnfbaa.Lg
