/- The laws' helpers: Grown, wakes. -/
import Derived.Test.YtlgmjkbaihpmmaaGood6
import Derived.Test.YtlgmjkbaihpmmaaCmdsAt
import Derived.Test.YtlgmjkbaihpmmaaCmds6
namespace Go.Proofs.Ytlgmjkbaihpmmaa.Kv
open Go Go.RowKit Vl Nm Mem
attribute [local go_sem] run_bits run_frombits run_store_float

set_option maxHeartbeats 1600000 in
set_option maxRecDepth 100000 in
theorem grown_any (a : Option Addr) (cap : Nat) (C : List Cm) (w : World) (h : CmdsAt w a C) (hl : C.length ≤ 1000) :
    Calls Try.prog 16 #[.slice a C.length cap] w fun e w' => ∃ (G : List Pr) (a' : Option Addr) (cap' : Nat), e = .returned (.slice a' G.length cap') ∧ Good w' a' cap' G ∧ Beh w w' := by
  have HI := Lib.hid h
  clear h
  go_enter Try.func16, Try.ntmps16
  go_wp2
  go_loopw [3, 4] (fun s i wr => ∃ (k : Nat) (G : List Pr) (a' : Option Addr) (cap' : Nat), k ≤ C.length ∧ i = .int .i64 k ∧ s = .slice a' G.length cap' ∧ Hid (Good wr a' cap' G) ∧ Hid (Beh w wr)) (fun _ i _ => C.length - (intOf i).toNat)
  case atStart => exact ⟨0, [], none, 0, by omega, rfl, rfl, Good.empty _, Beh.start _⟩
  case round =>
    obtain ⟨k, G, a', cap', hk, rfl, rfl, HG, HB⟩ := hrel
    by_cases hlt : k < C.length ∧ k < 200
    · obtain ⟨hlt, hlt2⟩ := hlt
      have d1 : decide ((k : Int) < (C.length : Int)) = true := decide_eq_true (by omega)
      have d2 : decide ((k : Int) < 200) = true := decide_eq_true (by omega)
      have HC : Hid (∀ wq, Beh w wq → ∃ b off, a = some ⟨b, off, none⟩ ∧ (C.getD k Cm.zero).at_ wq b (off + k * 8)) := fun wq hq => by
        obtain ⟨b, off, ha, hc⟩ := (HI.out.below hq.below).at_ (by omega)
        exact ⟨b, off, ha, hc k hlt⟩
      obtain ⟨b, off, rfl, _⟩ := HC.out _ HB.out
      have HC : Hid (∀ wq, Beh w wq → (C.getD k Cm.zero).at_ wq b (off + k * 8)) := fun wq hq => by
        obtain ⟨_, _, he, hc⟩ := HC.out _ hq; cases he; exact hc
      have hok := Lib.hid (HI.out.get hlt)
      generalize C.getD k Cm.zero = c at *
      have HDO := fun w => Lib.hid (fun h hl hF => refDo_told a' cap' G c w h hl hF hok.out.2)
      have HHV := fun w => Lib.hid (heavyCmd_any c w)
      have HGD : Hid (∀ w1 w2 b2 a2 cap2, Good w1 a' cap' G → Made w1 w2 b2 a2 cap2 (doing G c).L → Good w2 a2 cap2 (doing G c).L) := fun w1 w2 b2 a2 cap2 hg hm => hg.doing hok.out hm
      have hsh := HG.out.short
      obtain ⟨hv, hhv⟩ : ∃ v, c.heavy = v := ⟨_, rfl⟩
      rw [hhv] at HHV
      clear hhv hok
      generalize doing G c = D at *
      obtain ⟨k0, key, ⟨ok, on, os⟩, ⟨vk, vn, vs⟩⟩ := c
      obtain ⟨c0, c1, c2, c3, c4, c5, c6, c7⟩ := HC.out _ HB.out
      cases hv
      · go_wp2_with (first | (go_at_call 7; refine ((HHV _).out).mono ?_; rintro e w' ⟨rfl, hb⟩; (have HG := Lib.hid (HG.out.on hb)); (have HB := Lib.hid (HB.out.on hb)); clear hb; obtain ⟨c0, c1, c2, c3, c4, c5, c6, c7⟩ := HC.out _ HB.out) | (go_at_call 32; refine Calls.mono ((HDO _).out (by exact HG.out.at_) (by omega) (by exact HG.out.fits)) ?_; rintro e w' ⟨b2, a2, cap2, rfl, hm⟩; (have HG2 := Lib.hid (HGD.out _ _ _ _ _ HG.out hm)); (have HB := Lib.hid (HB.out.on hm.beh)); clear hm))
        go_roundw
        case rel => exact ⟨k + 1, D.L, a2, cap2, by omega, by go_num, rfl, HG2.out, HB.out⟩
        case measure => simp [intOf]; omega
      · go_wp2_with (first | (go_at_call 7; refine ((HHV _).out).mono ?_; rintro e w' ⟨rfl, hb⟩; (have HG := Lib.hid (HG.out.on hb)); (have HB := Lib.hid (HB.out.on hb)); clear hb))
        go_roundw
        case rel => exact ⟨k + 1, G, a', cap', by omega, by go_num, rfl, HG.out, HB.out⟩
        case measure => simp [intOf]; omega
    · have hstop : (decide ((k : Int) < (C.length : Int)) = false ∧ decide (k < C.length) = false) ∨ (decide ((k : Int) < (C.length : Int)) = true ∧ decide (k < C.length) = true ∧ decide ((k : Int) < 200) = false ∧ decide (k < 200) = false) := by
        by_cases h1 : k < C.length
        · exact .inr ⟨decide_eq_true (by omega), decide_eq_true (by omega), decide_eq_false (by omega), decide_eq_false (by omega)⟩
        · exact .inl ⟨decide_eq_false (by omega), decide_eq_false (by omega)⟩
      clear hlt
      rcases hstop with ⟨e1, e2⟩ | ⟨e1, e2, e3, e4⟩
      · go_wp2
        go_ret
        exact ⟨G, a', cap', rfl, HG.out, HB.out⟩
      · go_wp2
        go_ret
        exact ⟨G, a', cap', rfl, HG.out, HB.out⟩
set_option maxHeartbeats 800000 in
set_option maxRecDepth 100000 in
theorem wakes_any (w : World) : Calls Try.prog 24 #[] w fun e w' => e = .returned (.bool true) ∧ Beh w w' := by
  have HDO := fun w => Lib.hid (Do_told none 0 [] cmA w (PairsAt.empty w) (by simp) Fits.nil (by decide))
  rw [doing_A] at HDO
  have fe : (FloatKind.f64.format.order 4611686018427387904 4611686018427387904 == some .eq) = true := by kernel_rfl
  go_enter Try.func24, Try.ntmps24
  go_wp2_with (first | (go_at_call 18; refine Calls.mono ((HDO _).out) ?_; rintro e w' ⟨b2, a2, cap2, rfl, hm⟩; (have HM := Lib.hid hm); clear hm; obtain ⟨b, off, rfl, hc⟩ := HM.out.pairs.at_ (by simp); (have hc0 := hc 0 (by simp)); (obtain ⟨c0, c1, c2, c3⟩ := hc0); (have hal : ∀ o, (w'.alloc o).cell? ⟨b, off + 1 + 1, none⟩ = some (.float .f64 4611686018427387904) := fun o => cell_on ((Beh.start _).alloc o) (show w'.cell? ⟨b, off + 1 + 1, none⟩ = _ from c2)); clear hc c0 c1 c2 c3))
  go_ret
  exact ⟨rfl, by show Beh w _; repeat' (first | with_reducible exact HM.out.beh | with_reducible refine Beh.alloc ?_ _ | with_reducible refine Beh.drew ?_ | with_reducible refine Beh.drewN ?_ _)⟩
end Go.Proofs.Ytlgmjkbaihpmmaa.Kv
