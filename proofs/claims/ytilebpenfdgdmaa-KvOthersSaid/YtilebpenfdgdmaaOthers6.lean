/- KvOthers' walk. -/
import Derived.Test.YtilebpenfdgdmaaGrown6
import Derived.Test.YtilebpenfdgdmaaRefCmd6
import Derived.Test.YtilebpenfdgdmaaKeep6
namespace Go.Proofs.Ytilebpenfdgdmaa.Kv
open Go Go.RowKit Vl Nm Mem
attribute [local go_sem] run_bits run_frombits run_store_float

set_option maxHeartbeats 1000000 in
theorem KvOthers_any (a : Option Addr) (cap : Nat) (C : List Cm) (c : Cm) (key : ByteArray) (w : World) (h : CmdsAt w a C) (hc : c.ok) :
    Calls Try.prog 5 #[.slice a C.length cap, c.agg, .string key] w fun e w' => e = .returned (.bool true) ∧ Beh w w' := by
  have HI := Lib.hid h
  have HOK := Lib.hid hc
  have HK := Lib.hid (Ck.start w c)
  have HHV := fun w => Lib.hid (heavyCmd_any c w)
  obtain ⟨hv, hhv⟩ : ∃ v, c.heavy = v := ⟨_, rfl⟩
  rw [hhv] at HHV
  have HKT := Lib.hid (key_test key c.key)
  clear hhv h hc
  by_cases hl : C.length ≤ 1000
  case neg =>
    have d1 : decide ((1000 : Int) < (C.length : Int)) = true := decide_eq_true (by omega)
    obtain ⟨k, ckey, ⟨ok, on, os⟩, ⟨vk, vn, vs⟩⟩ := c
    go_enter Try.func5, Try.ntmps5
    go_wp2_with fail
    go_ret
    exact ⟨rfl, HK.out.beh⟩
  have d1 : decide ((1000 : Int) < (C.length : Int)) = false := decide_eq_false (by omega)
  cases hv
  case true =>
    obtain ⟨k, ckey, ⟨ok, on, os⟩, ⟨vk, vn, vs⟩⟩ := c
    go_enter Try.func5, Try.ntmps5
    go_wp2_with (first | (go_at_call 12; refine ((HHV _).out).mono ?_; rintro e w' ⟨rfl, hb⟩; (have HK := Lib.hid (HK.out.on hb)); clear hb))
    go_ret
    exact ⟨rfl, HK.out.beh⟩
  cases d2 : decide ((2000 : Int) < (key.size : Int))
  case true =>
    obtain ⟨k, ckey, ⟨ok, on, os⟩, ⟨vk, vn, vs⟩⟩ := c
    go_enter Try.func5, Try.ntmps5
    go_wp2_with (first | (go_at_call 12; refine ((HHV _).out).mono ?_; rintro e w' ⟨rfl, hb⟩; (have HK := Lib.hid (HK.out.on hb)); clear hb))
    go_ret
    exact ⟨rfl, HK.out.beh⟩
  have HDIFF : Hid (∀ G : List Pr, key ≠ c.key → get (doing G c).L key = get G key) := fun G h => doing_other h
  have HDT : Hid (∀ (G : List Pr) ga gc w1, Good w1 ga gc G → ∀ wq, Beh w1 wq → Calls Try.prog 22 #[.slice ga G.length gc, c.agg] wq (DoTold wq (doing G c))) := fun G ga gc w1 hg wq hq => Do_told ga gc G c wq (hg.at_.below hq) (by have := hg.short; omega) hg.fits HOK.out.2
  have HDL : Hid (∀ (G : List Pr), rightP G = true → (doing G c).L.length ≤ 32) := fun G hG => length_right (doing_right hG c)
  cases e : (key.toList == c.key.toList)
  case true =>
    obtain ⟨k, ckey, ⟨ok, on, os⟩, ⟨vk, vn, vs⟩⟩ := c
    dsimp only at e
    go_enter Try.func5, Try.ntmps5
    go_wp2_with (first | (go_at_call 12; refine ((HHV _).out).mono ?_; rintro e w' ⟨rfl, hb⟩; (have HK := Lib.hid (HK.out.on hb)); clear hb; obtain ⟨c0, c1, c2, c3, c4, c5, c6, c7⟩ := cells8 HK.out.b1; dsimp only at c0 c1 c2 c3 c4 c5 c6 c7))
    go_ret
    exact ⟨rfl, HK.out.beh⟩
  have HNE : Hid (key ≠ c.key) := by
    show key ≠ c.key
    have := HKT.out
    rw [e] at this
    exact of_decide_eq_false this.symm
  obtain ⟨k, ckey, ⟨ok, on, os⟩, ⟨vk, vn, vs⟩⟩ := c
  dsimp only at e
  go_enter Try.func5, Try.ntmps5
  go_wp2_with (first | (go_at_call 12; refine ((HHV _).out).mono ?_; rintro e w' ⟨rfl, hb⟩; (have HK := Lib.hid (HK.out.on hb)); clear hb; obtain ⟨c0, c1, c2, c3, c4, c5, c6, c7⟩ := cells8 HK.out.b1; dsimp only at c0 c1 c2 c3 c4 c5 c6 c7))
  refine Calls.mono (grown_any a cap C _ (HI.out.below HK.out.beh) hl) ?_
  rintro e w1 ⟨G, ga, gc, rfl, hg, hb⟩
  have HG := Lib.hid hg
  have HK1 := Lib.hid (HK.out.on hb)
  clear hb hg
  have HB := Lib.hid (Beh.start w1)
  have HCC : Hid (∀ wq, Beh w1 wq → wq.cell? ⟨w.heap.size, 0, none⟩ = some (.int .i64 k) ∧ wq.cell? ⟨w.heap.size, 1, none⟩ = some (.string ckey) ∧ wq.cell? ⟨w.heap.size, 2, none⟩ = some (.int .i64 ok) ∧ wq.cell? ⟨w.heap.size, 3, none⟩ = some (.float .f64 on) ∧ wq.cell? ⟨w.heap.size, 4, none⟩ = some (.string os) ∧ wq.cell? ⟨w.heap.size, 5, none⟩ = some (.int .i64 vk) ∧ wq.cell? ⟨w.heap.size, 6, none⟩ = some (.float .f64 vn) ∧ wq.cell? ⟨w.heap.size, 7, none⟩ = some (.string vs)) := fun wq hq => cells8 (hq.box HK1.out.b1)
  have HD := fun wq => Lib.hid (HDT.out G ga gc w1 HG.out wq)
  have HLD := Lib.hid (HDL.out G HG.out.right)
  have HLG := Lib.hid HG.out.short
  have HEQ := Lib.hid (HDIFF.out G HNE.out)
  generalize doing G ⟨k, ckey, ⟨ok, on, os⟩, ⟨vk, vn, vs⟩⟩ = D at *
  obtain ⟨c0, c1, c2, c3, c4, c5, c6, c7⟩ := HCC.out _ HB.out
  go_wp2_with fail
  refine Calls.mono ((HD _).out HB.out) ?_
  rintro e w2 ⟨b2, a2, cap2, rfl, hm⟩
  have HB := Lib.hid hm.beh
  have HGA : ∀ (X : List Pr) ax cx, Hid (PairsAt w2 ax cx X ∧ X.length ≤ 32) → ∀ wq, Beh w2 wq → Calls Try.prog 19 #[.slice ax X.length cx, .string key] wq fun e w' => e = .returned (get X key).val ∧ Below wq.heap.size wq w' := fun X ax cx hX wq hq => Get_any ax cx X key wq (hX.out.1.below hq) (by have := hX.out.2; omega)
  have HGA := Lib.hid HGA
  have HP1 : Hid (PairsAt w2 ga gc G ∧ G.length ≤ 32) := ⟨HG.out.at_.below HB.out, HLG.out⟩
  have HP2 : Hid (PairsAt w2 a2 cap2 D.L ∧ D.L.length ≤ 32) := ⟨hm.pairs, HLD.out⟩
  have hsame : (get G key).same (get D.L key) = true := by rw [HEQ.out]; exact V.same_refl _
  have HBW := Lib.hid (HK1.out.beh.trans HB.out)
  have HB := Lib.hid (Beh.start w2)
  clear hm HD HEQ HDT HDIFF HDL HHV HG
  go_wp2_with (first | (go_at_call 19; refine Calls.mono (HGA.out _ _ _ (by first | exact HP1 | exact HP2) _ (by exact (by repeat' (first | with_reducible exact HB.out | with_reducible refine Beh.alloc ?_ _ | with_reducible refine Beh.drew ?_ | with_reducible refine Beh.drewN ?_ _ | with_reducible refine Beh.set ?_ (by omega) _ _)))) ?_; rintro e w' ⟨rfl, hb⟩; (have HB := Lib.hid (Beh.trans (w0 := w2) (by repeat' (first | with_reducible exact HB.out | with_reducible refine Beh.alloc ?_ _ | with_reducible refine Beh.drew ?_ | with_reducible refine Beh.drewN ?_ _ | with_reducible refine Beh.set ?_ (by omega) _ _)) hb)); clear hb) | (go_at_call 18; refine Calls.mono (keepValue_any _ _ _) ?_; rintro e w' ⟨rfl, hb⟩; (have HB := Lib.hid (Beh.trans (w0 := w2) (by repeat' (first | with_reducible exact HB.out | with_reducible refine Beh.alloc ?_ _ | with_reducible refine Beh.drew ?_ | with_reducible refine Beh.drewN ?_ _ | with_reducible refine Beh.set ?_ (by omega) _ _)) hb)); clear hb) | (go_at_call 27; refine Calls.mono (wakes_any _) ?_; rintro e w' ⟨rfl, hb⟩; (have HB := Lib.hid (Beh.trans (w0 := w2) (by repeat' (first | with_reducible exact HB.out | with_reducible refine Beh.alloc ?_ _ | with_reducible refine Beh.drew ?_ | with_reducible refine Beh.drewN ?_ _ | with_reducible refine Beh.set ?_ (by omega) _ _)) hb)); clear hb))
  go_ret
  exact ⟨rfl, HBW.out.trans HB.out⟩
theorem KvOthers_law (a : Option Addr) (len cap : Nat) (c : Cm) (key : ByteArray) (W : World) (h0 : ∃ C : List Cm, C.length = len ∧ CmdsAt W a C) (h1 : c.ok) (_h2 : key.size ≤ maxLen) :
    Calls Try.prog 5 #[.slice a len cap, c.agg, .string key] W fun e w' => e = .returned (.bool true) ∧ Below W.heap.size W w' := by
  obtain ⟨C, rfl, hC⟩ := h0
  exact KvOthers_any a cap C c key W hC h1
end Go.Proofs.Ytilebpenfdgdmaa.Kv
