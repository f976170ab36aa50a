/- KvFull's walk. -/
import Derived.Test.YtilebpenfdgdmaaGrown6
import Derived.Test.YtilebpenfdgdmaaKeep6
import Derived.Test.YtilebpenfdgdmaaFullM6
import Derived.Test.YtilebpenfdgdmaaChk6
import Derived.Test.YtilebpenfdgdmaaRefVal
import Derived.Test.YtilebpenfdgdmaaDo6
namespace Go.Proofs.Ytilebpenfdgdmaa.Kv
open Go Go.RowKit Vl Nm Mem
attribute [local go_sem] run_bits run_frombits run_store_float

/-- the boxes of the two values -/
structure Cv (w0 w : World) (v u : V) : Prop where
  b0 : w.heap[w0.heap.size]? = some (Vobj v)
  b1 : w.heap[w0.heap.size + 1]? = some (Vobj u)
  beh : Beh w0 w
theorem Cv.start (w : World) (v u : V) : Cv w ((w.alloc (Vobj v)).alloc (Vobj u)) v u := ⟨old_alloc _ (alloc_here _ rfl), alloc_here _ (by simp), ((Beh.start w).alloc _).alloc _⟩
theorem Cv.on {w0 w w' : World} {v u : V} (h : Cv w0 w v u) (hb : Below w.heap.size w w') : Cv w0 w' v u := ⟨box_on h.b0 hb, box_on h.b1 hb, h.beh.on hb⟩
theorem Cv.set {w0 w : World} {v u : V} (h : Cv w0 w v u) {k : Nat} (hk : w0.heap.size + 1 < k) (i : Nat) (x : Value) : Cv w0 (w.setCell ⟨k, i, none⟩ x) v u :=
  ⟨heap_seto h.b0 i (by omega) x, heap_seto h.b1 i (by omega) x, h.beh.set (by omega) i x⟩
theorem Cv.set4 {w0 w : World} {v u : V} (h : Cv w0 w v u) {k : Nat} (hk : w0.heap.size + 1 < k) (x0 x1 x2 x3 : Value) : Cv w0 ((((w.setCell ⟨k, 0, none⟩ x0).setCell ⟨k, 1, none⟩ x1).setCell ⟨k, 2, none⟩ x2).setCell ⟨k, 3, none⟩ x3) v u :=
  (((h.set hk 0 x0).set hk 1 x1).set hk 2 x2).set hk 3 x3
theorem Made.set4 {w0 w : World} {b : Nat} {a : Option Addr} {cap : Nat} {L : List Pr} (m : Made w0 w b a cap L) {k : Nat} (h0 : w0.heap.size ≤ k) (hk : k < b) (x0 x1 x2 x3 : Value) : Made w0 ((((w.setCell ⟨k, 0, none⟩ x0).setCell ⟨k, 1, none⟩ x1).setCell ⟨k, 2, none⟩ x2).setCell ⟨k, 3, none⟩ x3) b a cap L :=
  (((m.set h0 hk 0 x0).set h0 hk 1 x1).set h0 hk 2 x2).set h0 hk 3 x3
theorem set4_heap {w : World} {b : Nat} {y0 y1 y2 y3 : Value} {t : TypeId} (h : w.heap[b]? = some (.cells #[y0, y1, y2, y3] t)) (x0 x1 x2 x3 : Value) : ((((w.setCell ⟨b, 0, none⟩ x0).setCell ⟨b, 1, none⟩ x1).setCell ⟨b, 2, none⟩ x2).setCell ⟨b, 3, none⟩ x3).heap[b]? = some (.cells #[x0, x1, x2, x3] t) :=
  heap_setc (heap_setc (heap_setc (heap_setc h)))
theorem samePs_full (L : List Pr) : samePs L L = true := samePs_refl _
set_option maxHeartbeats 3200000 in
set_option maxRecDepth 100000 in
theorem KvFull_any (v u : V) (w : World) (hvn : v.num < 18446744073709551616) (hun : u.num < 18446744073709551616) :
    Calls Try.prog 9 #[v.val, u.val] w fun e w' => e = .returned (.bool true) ∧ Beh w w' := by
  have HVN := Lib.hid hvn
  have HUN := Lib.hid hun
  have HK := Lib.hid (Cv.start w v u)
  clear hvn hun
  obtain ⟨vk, vn, vs⟩ := v
  obtain ⟨uk, un, us⟩ := u
  by_cases k1 : (V.mk vk vn vs).check = 0
  case neg =>
    have n1 := int_nbne k1
    have k2 := 0
    clear k2
    go_enter Try.func9, Try.ntmps9
    go_wp2_with (first | (go_at_call 29; refine Calls.mono (refCheck_any ⟨_, _, _⟩ _) ?_; rintro e w' ⟨rfl, o, rfl⟩; (have HK := Lib.hid (HK.out.on (below_alloc _ o))); (obtain ⟨v0, v1, v2, _⟩ := cells3 HK.out.b0); (obtain ⟨u0, u1, u2, _⟩ := cells3 HK.out.b1); (try rw [k1]); (try rw [k2])))
    go_ret
    exact ⟨rfl, HK.out.beh⟩
  by_cases k2 : (V.mk uk un us).check = 0
  case neg =>
    have n2 := int_nbne k2
    go_enter Try.func9, Try.ntmps9
    go_wp2_with (first | (go_at_call 29; refine Calls.mono (refCheck_any ⟨_, _, _⟩ _) ?_; rintro e w' ⟨rfl, o, rfl⟩; (have HK := Lib.hid (HK.out.on (below_alloc _ o))); (obtain ⟨v0, v1, v2, _⟩ := cells3 HK.out.b0); (obtain ⟨u0, u1, u2, _⟩ := cells3 HK.out.b1); (try rw [k1]); (try rw [k2])))
    go_ret
    exact ⟨rfl, HK.out.beh⟩
  by_cases h3 : vk = 0
  case pos =>
    have n3 : (vk == 0) = true := by rw [h3]; rfl
    clear h3
    go_enter Try.func9, Try.ntmps9
    go_wp2_with (first | (go_at_call 29; refine Calls.mono (refCheck_any ⟨_, _, _⟩ _) ?_; rintro e w' ⟨rfl, o, rfl⟩; (have HK := Lib.hid (HK.out.on (below_alloc _ o))); (obtain ⟨v0, v1, v2, _⟩ := cells3 HK.out.b0); (obtain ⟨u0, u1, u2, _⟩ := cells3 HK.out.b1); (try rw [k1]); (try rw [k2])))
    go_ret
    exact ⟨rfl, HK.out.beh⟩
  by_cases h4 : uk = 0
  case pos =>
    have n3 := int_nbeq h3
    have n4 : (uk == 0) = true := by rw [h4]; rfl
    clear h4
    go_enter Try.func9, Try.ntmps9
    go_wp2_with (first | (go_at_call 29; refine Calls.mono (refCheck_any ⟨_, _, _⟩ _) ?_; rintro e w' ⟨rfl, o, rfl⟩; (have HK := Lib.hid (HK.out.on (below_alloc _ o))); (obtain ⟨v0, v1, v2, _⟩ := cells3 HK.out.b0); (obtain ⟨u0, u1, u2, _⟩ := cells3 HK.out.b1); (try rw [k1]); (try rw [k2])))
    go_ret
    exact ⟨rfl, HK.out.beh⟩
  have n3 := int_nbeq h3
  have n4 := int_nbeq h4
  go_enter Try.func9, Try.ntmps9
  go_wp2_with (first | (go_at_call 29; refine Calls.mono (refCheck_any ⟨_, _, _⟩ _) ?_; rintro e w' ⟨rfl, o, rfl⟩; (have HK := Lib.hid (HK.out.on (below_alloc _ o))); (obtain ⟨v0, v1, v2, _⟩ := cells3 HK.out.b0); (obtain ⟨u0, u1, u2, _⟩ := cells3 HK.out.b1); (try rw [k1]); (try rw [k2])))
  generalize hks : (⟨#[97, 98, 99, 100, 101, 102, 103, 104, 105, 106, 107, 108, 109, 110, 111, 112, 113, 114, 115, 116, 117, 118, 119, 120, 121, 122, 65, 66, 67, 68, 69, 70, 71]⟩ : ByteArray) = ks
  have HKS : Hid (ks = keysS) := hks.symm
  clear hks
  go_loopw [5, 7, 8, 9] (fun s i _ _ wr => ∃ (k : Nat) (G : List Pr) (a' : Option Addr) (cap' : Nat), k ≤ 32 ∧ i = .int .i64 k ∧ s = .slice a' G.length cap' ∧ Hid (Full G ⟨vk, vn, vs⟩ k) ∧ Hid (PairsAt wr a' cap' G) ∧ Hid (Cv w wr ⟨vk, vn, vs⟩ ⟨uk, un, us⟩)) (fun _ i _ _ _ => 32 - (intOf i).toNat)
  case atStart => exact ⟨0, [], none, 0, by omega, rfl, rfl, Full.start _, PairsAt.empty _, HK.out⟩
  case round =>
    clear HK v0 v1 v2 u0 u1 u2
    obtain ⟨k, G, a', cap', hk, rfl, rfl, HF, PG, HK⟩ := hrel
    have hlen := Lib.hid HF.out.len
    by_cases hlt : k < 32
    · have d1 : decide ((k : Int) < 32) = true := decide_eq_true (by omega)
      obtain ⟨hd, hf2⟩ := HF.out.next hlt k1 h3 HVN.out
      have HF2 := Lib.hid hf2
      have HDO : Hid (∀ wq, Beh wr wq → Calls Try.prog 22 #[.slice a' G.length cap', (Cm.mk 2 (keyAt k) V.zero ⟨vk, vn, vs⟩).agg] wq (DoTold wq ⟨set G (keyAt k) ⟨vk, vn, vs⟩, 0, V.zero⟩)) := fun wq hq => by
        have := Do_told a' cap' G ⟨2, keyAt k, V.zero, ⟨vk, vn, vs⟩⟩ wq (PG.out.below hq) (by have := hlen.out; omega) HF.out.fits HVN.out
        rw [hd] at this
        exact this
      clear hd hf2
      have hlq := Lib.hid HF2.out.len
      generalize set G (keyAt k) ⟨vk, vn, vs⟩ = Q at *
      have hsl : ∀ wx, (Instr.slice 9 (.string ks) (some (.int .i64 (k : Int))) (some (.int .i64 ((k : Int) + 1))) none).run Try.prog wx = .ok (.string (keyAt k)) wx := fun wx => by
        have := run_slice_string (P := Try.prog) wx 9 ks .i64 .i64 (k : Int) ((k : Int) + 1) Try.underlying9 (by omega) (by omega) (by rw [HKS.out, keysS_size]; omega)
        rw [this, HKS.out]; rfl
      have hz0 : (0 : Int) ≤ (k : Int) := by omega
      have hz1 : (k : Int) ≤ (k : Int) + 1 := by omega
      have hz2 : (k : Int) + 1 ≤ (ks.size : Int) := by rw [HKS.out, keysS_size]; omega
      have hne : (((Q.length : Nat) : Int) != (k : Int) + 1) = false := by rw [hlq.out]; simp
      obtain ⟨v0, v1, v2, _⟩ := cells3 HK.out.b0
      have v0a := fun o => cell_on ((Beh.start _).alloc o) v0
      have v1a := fun o => cell_on ((Beh.start _).alloc o) v1
      have v2a := fun o => cell_on ((Beh.start _).alloc o) v2
      have HZ : Hid (((wr.alloc (.cells #[.int .i64 0, .int .i64 0, .float .f64 0, .string ⟨#[]⟩] 37)).drew).heap[wr.heap.size]? = some (.cells #[.int .i64 0, .int .i64 0, .float .f64 0, .string ⟨#[]⟩] 37)) := alloc_here (w := wr) (.cells #[.int .i64 0, .int .i64 0, .float .f64 0, .string ⟨#[]⟩] 37) rfl
      obtain ⟨m, hm⟩ : ∃ m : Int, (k : Int) + 1 = m := ⟨_, rfl⟩
      rw [hm] at hsl hz1 hz2 hne
      have hz3 : (0 : Int) ≤ m := by omega
      have hz4 : IntKind.i64.wrap m = m := by rw [IntKind.wrap_i64]; omega
      go_wp2_with fail
      go_region_with ((go_at_call 22; refine Calls.mono (HDO.out _ (by repeat' (first | with_reducible exact Beh.start _ | with_reducible refine Beh.alloc ?_ _ | with_reducible refine Beh.drew ?_ | with_reducible refine Beh.drewN ?_ _))) ?_; rintro e w' ⟨b2, a2, cap2, rfl, hm⟩; (have HM := Lib.hid hm); clear hm; (first | ((have HHr := Lib.hid (box_on (v := (.cells #[.int .i64 0, .int .i64 0, .float .f64 0, .string ⟨#[]⟩] 37)) HZ.out HM.out.beh)); (obtain ⟨r0, r1, r2, r3⟩ := cells4 HHr.out); (have g0 := frozen_of HHr.out 0); (have g1 := frozen_of HHr.out 1); (have g2 := frozen_of HHr.out 2); (have g3 := frozen_of HHr.out 3)) | skip)))
      · have PQ := HM.out.pairs.alloc (.cells #[.int .i64 0, .int .i64 0, .float .f64 0, .string ⟨#[]⟩] 37)
        have HQ := Lib.hid (((HK.out.on ((Beh.start wr).drew)).on HM.out.beh).on (below_alloc w' (.cells #[.int .i64 0, .int .i64 0, .float .f64 0, .string ⟨#[]⟩] 37)))
        go_wp2_with fail
        go_roundw
        case rel => exact ⟨k + 1, Q, a2, cap2, by omega, by subst hm; go_num, rfl, HF2.out, PQ, HQ.out⟩
        case measure => simp [intOf]; omega
      all_goals
        have hlt2 := heap_lt HK.out.b1
        have hnew : wr.heap.size < b2 := by
          have h1 := HM.out.new
          have h2 : (wr.alloc (.cells #[.int .i64 0, .int .i64 0, .float .f64 0, .string ⟨#[]⟩] 37)).drew.heap.size = wr.heap.size + 1 := by show (wr.heap.push _).size = _; simp
          have h3 : (wr.alloc (.cells #[.int .i64 0, .int .i64 0, .float .f64 0, .string ⟨#[]⟩] 37)).drew.heap.size ≤ b2 := h1
          omega
        have PQ := ((Made.from (((Beh.start wr).alloc (.cells #[.int .i64 0, .int .i64 0, .float .f64 0, .string ⟨#[]⟩] 37)).drew) HM.out).set4 (Nat.le_refl _) hnew (.int .i64 0) (.int .i64 0) (.float .f64 0) (.string ⟨#[]⟩)).pairs
        have HQ := Lib.hid (((HK.out.on (((Beh.start wr).alloc (.cells #[.int .i64 0, .int .i64 0, .float .f64 0, .string ⟨#[]⟩] 37)).drew)).on HM.out.beh).set4 hlt2 (.int .i64 0) (.int .i64 0) (.float .f64 0) (.string ⟨#[]⟩))
        go_wp2_with fail
        go_roundw
        all_goals first
          | exact ⟨k + 1, Q, a2, cap2, by omega, by subst hm; go_num, rfl, HF2.out, PQ, HQ.out⟩
          | (simp [intOf]; omega)
    · obtain rfl : k = 32 := by omega
      have d1 : decide (((32 : Nat) : Int) < 32) = false := by decide
      obtain ⟨M1, M2, M3, ⟨t1k, t1n, t1s⟩, ⟨t2k, t2n, t2s⟩, he⟩ := HF.out.ends h3 k2 h4 HUN.out
      have HE := Lib.hid he
      clear he
      have HD1 : Hid (∀ wq, Beh wr wq → Calls Try.prog 22 #[.slice a' G.length cap', (Cm.mk 2 ⟨#[71]⟩ V.zero ⟨uk, un, us⟩).agg] wq (DoTold wq ⟨G, 5, V.zero⟩)) := fun wq hq => by
        have := Do_told a' cap' G ⟨2, ⟨#[71]⟩, V.zero, ⟨uk, un, us⟩⟩ wq (PG.out.below hq) (by have := hlen.out; omega) HF.out.fits HUN.out
        rw [HE.out.f1] at this
        exact this
      have HD2 : Hid (∀ wq, Beh wr wq → Calls Try.prog 22 #[.slice a' G.length cap', (Cm.mk 2 ⟨#[97]⟩ V.zero ⟨uk, un, us⟩).agg] wq (DoTold wq ⟨M1, 0, ⟨t1k, t1n, t1s⟩⟩)) := fun wq hq => by
        have := Do_told a' cap' G ⟨2, ⟨#[97]⟩, V.zero, ⟨uk, un, us⟩⟩ wq (PG.out.below hq) (by have := hlen.out; omega) HF.out.fits HUN.out
        rw [HE.out.f2] at this
        exact this
      have HD3 : Hid (∀ ax cx wq, PairsAt wq ax cx M1 → Calls Try.prog 22 #[.slice ax M1.length cx, (Cm.mk 3 ⟨#[98]⟩ V.zero V.zero).agg] wq (DoTold wq ⟨M2, 0, ⟨t2k, t2n, t2s⟩⟩)) := fun ax cx wq hq => by
        have := Do_told ax cx M1 ⟨3, ⟨#[98]⟩, V.zero, V.zero⟩ wq hq (by have := HE.out.l1; omega) HE.out.g1 zero_fit
        rw [HE.out.f3] at this
        exact this
      have HD4 : Hid (∀ ax cx wq, PairsAt wq ax cx M2 → Calls Try.prog 22 #[.slice ax M2.length cx, (Cm.mk 4 ⟨#[71]⟩ V.zero ⟨uk, un, us⟩).agg] wq (DoTold wq ⟨M3, 0, V.zero⟩)) := fun ax cx wq hq => by
        have := Do_told ax cx M2 ⟨4, ⟨#[71]⟩, V.zero, ⟨uk, un, us⟩⟩ wq hq (by have := HE.out.l2; omega) HE.out.g2 HUN.out
        rw [HE.out.f4] at this
        exact this
      have HCK : Hid (∀ ax cx wq, PairsAt wq ax cx M3 → Calls Try.prog 14 #[.slice ax M3.length cx] wq fun e w' => e = .returned (.int .i64 0) ∧ Below wq.heap.size wq w') := fun ax cx wq hq => by
        have := Check_any ax cx M3 wq hq
        rw [if_pos HE.out.r3] at this
        exact this
      have e31 : (((M1.length : Nat) : Int) != 32) = false := by rw [HE.out.l1]; rfl
      have e32 : (((M3.length : Nat) : Int) == 32) = true := by rw [HE.out.l3]; rfl
      have hsG := samePs_full G
      have hlt2 := heap_lt HK.out.b1
      clear HE HF
      obtain ⟨u0, u1, u2, _⟩ := cells3 HK.out.b1
      go_wp2_with fail
      refine Calls.mono (HD1.out _ (Beh.start _)) ?_
      rintro e w1 ⟨b1, a1, c1, rfl, hm⟩
      clear u0 u1 u2
      have HK1 := Lib.hid (HK.out.on hm.beh)
      have P1 := Lib.hid hm.pairs
      have HB1 := Lib.hid hm.beh
      have hs1 := hm.beh.size
      clear hm
      go_wp2_with fail
      refine Calls.mono (keepPairs_any a' cap' G a1 c1 G _ (by exact PG.out.below (HB1.out.alloc _)) (by exact P1.out.alloc _) (by have := hlen.out; omega)) ?_
      rintro e w2 ⟨rfl, hb⟩
      have HT := Lib.hid (box_on (v := (.cells #[.int .i64 5, .int .i64 0, .float .f64 0, .string ⟨#[]⟩] 37)) (alloc_here (w := w1) (.cells #[.int .i64 5, .int .i64 0, .float .f64 0, .string ⟨#[]⟩] 37) rfl) hb)
      have HK2 := Lib.hid ((HK1.out.on (below_alloc w1 (.cells #[.int .i64 5, .int .i64 0, .float .f64 0, .string ⟨#[]⟩] 37))).on hb)
      have HB2 := Lib.hid (Beh.trans (w0 := wr) (HB1.out.alloc (.cells #[.int .i64 5, .int .i64 0, .float .f64 0, .string ⟨#[]⟩] 37)) hb)
      have hs2 : w1.heap.size < w2.heap.size := heap_lt HT.out
      clear hb HK1 P1 HB1
      obtain ⟨u0, u1, u2, _⟩ := cells3 HK2.out.b1
      go_wp2_with fail
      refine Calls.mono (HD2.out _ HB2.out) ?_
      rintro e w3 ⟨b3, a3, c3, rfl, hm⟩
      clear u0 u1 u2
      have hn3 := hm.new
      have HM3 := Lib.hid ((Made.from (w0 := wr) HB2.out hm).set4 (k := w1.heap.size) hs1 (by omega) (.int .i64 0) (.int .i64 t1k) (.float .f64 t1n) (.string t1s))
      have HT3 := Lib.hid (box_on HT.out hm.beh)
      have HT3s := Lib.hid (set4_heap HT3.out (.int .i64 0) (.int .i64 t1k) (.float .f64 t1n) (.string t1s))
      have HK3 := Lib.hid ((HK2.out.on hm.beh).set4 (k := w1.heap.size) (by omega) (.int .i64 0) (.int .i64 t1k) (.float .f64 t1n) (.string t1s))
      clear hm HT HK2 HB2
      obtain ⟨r0, r1, r2, r3⟩ := cells4 HT3.out
      have g0 := frozen_of HT3.out 0
      have g1 := frozen_of HT3.out 1
      have g2 := frozen_of HT3.out 2
      have g3 := frozen_of HT3.out 3
      go_wp2_with fail
      refine Calls.mono (HD3.out _ _ _ (by exact HM3.out.pairs)) ?_
      rintro e w4 ⟨b4, a4, c4, rfl, hm⟩
      clear r0 r1 r2 r3 g0 g1 g2 g3
      have hn4 : w1.heap.size < b4 := Nat.lt_of_lt_of_le (heap_lt HT3s.out) hm.new
      have HM4 := Lib.hid ((Made.from (w0 := wr) HM3.out.beh hm).set4 (k := w1.heap.size) hs1 hn4 (.int .i64 0) (.int .i64 t2k) (.float .f64 t2n) (.string t2s))
      have HT4 := Lib.hid (box_on HT3s.out hm.beh)
      have HT4s := Lib.hid (set4_heap HT4.out (.int .i64 0) (.int .i64 t2k) (.float .f64 t2n) (.string t2s))
      have HK4 := Lib.hid ((HK3.out.on hm.beh).set4 (k := w1.heap.size) (by omega) (.int .i64 0) (.int .i64 t2k) (.float .f64 t2n) (.string t2s))
      clear hm HT3 HT3s HM3 HK3
      obtain ⟨r0, r1, r2, r3⟩ := cells4 HT4.out
      have g0 := frozen_of HT4.out 0
      have g1 := frozen_of HT4.out 1
      have g2 := frozen_of HT4.out 2
      have g3 := frozen_of HT4.out 3
      obtain ⟨u0, u1, u2, _⟩ := cells3 HK4.out.b1
      go_wp2_with fail
      refine Calls.mono (HD4.out _ _ _ (by exact HM4.out.pairs)) ?_
      rintro e w5 ⟨b5, a5, c5, rfl, hm⟩
      clear r0 r1 r2 r3 g0 g1 g2 g3 u0 u1 u2
      have hn5 : w1.heap.size < b5 := Nat.lt_of_lt_of_le (heap_lt HT4s.out) hm.new
      have HM5 := Lib.hid ((Made.from (w0 := wr) HM4.out.beh hm).set4 (k := w1.heap.size) hs1 hn5 (.int .i64 0) (.int .i64 0) (.float .f64 0) (.string ⟨#[]⟩))
      have HT5 := Lib.hid (box_on HT4s.out hm.beh)
      have HK5 := Lib.hid ((HK4.out.on hm.beh).set4 (k := w1.heap.size) (by omega) (.int .i64 0) (.int .i64 0) (.float .f64 0) (.string ⟨#[]⟩))
      clear hm HT4 HT4s HM4 HK4
      obtain ⟨r0, r1, r2, r3⟩ := cells4 HT5.out
      have g0 := frozen_of HT5.out 0
      have g1 := frozen_of HT5.out 1
      have g2 := frozen_of HT5.out 2
      have g3 := frozen_of HT5.out 3
      go_wp2_with fail
      refine Calls.mono (HCK.out _ _ _ (by exact HM5.out.pairs)) ?_
      rintro e w6 ⟨rfl, hb⟩
      have HB6 := Lib.hid (HK5.out.beh.trans hb)
      clear hb r0 r1 r2 r3 g0 g1 g2 g3
      go_wp2_with fail
      refine Calls.mono (wakes_any _) ?_
      rintro e wE ⟨rfl, hb⟩
      have HE := Lib.hid (HB6.out.trans hb)
      clear hb
      go_wp2_with fail
      go_ret
      exact ⟨rfl, HE.out⟩
theorem KvFull_law (v u : V) (W : World) (h0 : v.num < 18446744073709551616) (h1 : u.num < 18446744073709551616) :
    Calls Try.prog 9 #[v.val, u.val] W fun e w' => e = .returned (.bool true) ∧ Below W.heap.size W w' :=
  KvFull_any v u W h0 h1
end Go.Proofs.Ytilebpenfdgdmaa.Kv
