/- KvSound's walk. -/
import Derived.Test.YtilebpenfdgdmaaGrown6
import Derived.Test.YtilebpenfdgdmaaRefCmd6
import Derived.Test.YtilebpenfdgdmaaKeep6
import Derived.Test.YtilebpenfdgdmaaChk6
namespace Go.Proofs.Ytilebpenfdgdmaa.Kv
open Go Go.RowKit Vl Nm Mem
attribute [local go_sem] run_bits run_frombits run_store_float

theorem samePs_of {L M : List Pr} (h : L = M) : samePs L M = true := by subst h; exact samePs_refl _
set_option maxHeartbeats 3200000 in
set_option maxRecDepth 100000 in
theorem KvSound_any (a : Option Addr) (cap : Nat) (C : List Cm) (w : World) (h : CmdsAt w a C) :
    Calls Try.prog 4 #[.slice a C.length cap] w fun e w' => e = .returned (.bool true) ∧ Beh w w' := by
  have HI := Lib.hid h
  clear h
  by_cases hl : C.length ≤ 1000
  case neg =>
    have d1 : decide ((1000 : Int) < (C.length : Int)) = true := decide_eq_true (by omega)
    go_enter Try.func4, Try.ntmps4
    go_wp2
    go_ret
    exact ⟨rfl, Beh.start _⟩
  have d1 : decide ((1000 : Int) < (C.length : Int)) = false := decide_eq_false (by omega)
  go_enter Try.func4, Try.ntmps4
  go_wp2
  go_loopw [3, 4, 5, 6] (fun s i _ _ wr => ∃ (k : Nat) (G : List Pr) (a' : Option Addr) (cap' : Nat), k ≤ C.length ∧ i = .int .i64 k ∧ s = .slice a' G.length cap' ∧ Hid (Good wr a' cap' G) ∧ Hid (Beh w wr)) (fun _ i _ _ _ => C.length - (intOf i).toNat)
  case atStart => exact ⟨0, [], none, 0, by omega, rfl, rfl, Good.empty _, Beh.start _⟩
  case round =>
    obtain ⟨k, G, a', cap', hk, rfl, rfl, HG, HB⟩ := hrel
    by_cases hlt : k < C.length ∧ k < 200
    · obtain ⟨hlt, hlt2⟩ := hlt
      have e1 : decide ((k : Int) < (C.length : Int)) = true := decide_eq_true (by omega)
      have e2 : decide ((k : Int) < 200) = true := decide_eq_true (by omega)
      have HC : Hid (∀ wq, Beh w wq → ∃ b off, a = some ⟨b, off, none⟩ ∧ (C.getD k Cm.zero).at_ wq b (off + k * 8)) := fun wq hq => by
        obtain ⟨b, off, ha, hc⟩ := (HI.out.below hq.below).at_ (by omega)
        exact ⟨b, off, ha, hc k hlt⟩
      obtain ⟨b, off, rfl, _⟩ := HC.out _ HB.out
      have HC : Hid (∀ wq, Beh w wq → (C.getD k Cm.zero).at_ wq b (off + k * 8)) := fun wq hq => by
        obtain ⟨_, _, he, hc⟩ := HC.out _ hq; cases he; exact hc
      have hok := Lib.hid (HI.out.get hlt)
      generalize C.getD k Cm.zero = c at *
      have HDO : Hid (∀ wq, PairsAt wq a' cap' G → Calls Try.prog 22 #[.slice a' G.length cap', c.agg] wq (DoTold wq (doing G c))) := fun wq hq => Do_told a' cap' G c wq hq (by have := HG.out.short; omega) HG.out.fits hok.out.2
      have HHV := fun w => Lib.hid (heavyCmd_any c w)
      have HCH := fun w => Lib.hid (changes_any c w)
      have HGR : Hid (rightP (doing G c).L = true ∧ Fits (doing G c).L) := ⟨doing_right HG.out.right c, HG.out.fits.doing hok.out.2⟩
      have HER : Hid ((doing G c).code ≠ 0 → (doing G c).L = G ∧ ((doing G c).code ≠ 9 → (doing G c).told = V.zero)) := fun h => doing_err h
      have HGE : Hid (c.kind = 1 → (doing G c).L = G) := fun h => doing_get h
      have hsh := HG.out.short
      obtain ⟨hv, hhv⟩ : ∃ v, c.heavy = v := ⟨_, rfl⟩
      rw [hhv] at HHV
      clear hhv hok
      generalize doing G c = D at *
      obtain ⟨k0, key, ⟨ok, on, os⟩, ⟨vk, vn, vs⟩⟩ := c
      dsimp only at HCH HGE
      obtain ⟨c0, c1, c2, c3, c4, c5, c6, c7⟩ := HC.out _ HB.out
      dsimp only at c0 c1 c2 c3 c4 c5 c6 c7
      cases hv
      case true =>
        go_wp2_with (first | (go_at_call 12; refine ((HHV _).out).mono ?_; rintro e w' ⟨rfl, hb⟩; (have HB := Lib.hid (HB.out.on hb)); clear hb))
        go_ret
        exact ⟨rfl, HB.out⟩
      go_wp2_with (first | (go_at_call 12; refine ((HHV _).out).mono ?_; rintro e w1 ⟨rfl, hb⟩; (have HG := Lib.hid (HG.out.on hb)); (have HB := Lib.hid (HB.out.on hb)); clear hb; obtain ⟨c0, c1, c2, c3, c4, c5, c6, c7⟩ := HC.out _ HB.out; dsimp only at c0 c1 c2 c3 c4 c5 c6 c7))
      refine Calls.mono (HDO.out _ HG.out.at_) ?_
      rintro e w2 ⟨b2, a2, cap2, rfl, hm⟩
      have HQ := Lib.hid hm.pairs
      have HG2 := Lib.hid (HG.out.on hm.beh)
      have HB := Lib.hid (HB.out.on hm.beh)
      have HGN : Hid (Good w2 a2 cap2 D.L) := ⟨hm.pairs, HGR.out.1, HGR.out.2⟩
      have HCHK : Hid (∀ wq, Beh w2 wq → Calls Try.prog 14 #[.slice a2 D.L.length cap2] wq fun e w' => e = .returned (.int .i64 0) ∧ Below wq.heap.size wq w') := fun wq hq => by
        have := Check_any a2 cap2 D.L wq (hm.pairs.below hq)
        rw [HGR.out.1] at this
        exact this
      have HKP : Hid (D.L = G → ∀ wq, Beh w2 wq → Calls Try.prog 24 #[.slice a' G.length cap', .slice a2 D.L.length cap2] wq fun e w' => e = .returned (.bool true) ∧ Below wq.heap.size wq w') := fun he wq hq => by
        have := keepPairs_any a' cap' G a2 cap2 D.L wq (HG2.out.at_.below hq) (HQ.out.below hq) (by omega)
        rw [samePs_of he.symm] at this
        exact this
      have HW2 := Lib.hid HB.out
      have HB := Lib.hid (Beh.start w2)
      have HT : Hid (∀ wq, Beh w2 wq → ∀ o : Obj, True) := fun _ _ _ => trivial
      clear hm HT
      have HC2 : Hid (∀ wq, Beh w2 wq → (Cm.mk k0 key ⟨ok, on, os⟩ ⟨vk, vn, vs⟩).at_ wq b (off + k * 8)) := fun wq hq => HC.out wq (HW2.out.trans hq)
      have H6 : Hid (∀ wq, Beh (w2.alloc (.cells #[.int .i64 D.code, .int .i64 D.told.kind, .float .f64 D.told.num, .string D.told.text] 37)) wq → wq.heap[w2.heap.size]? = some (.cells #[.int .i64 D.code, .int .i64 D.told.kind, .float .f64 D.told.num, .string D.told.text] 37)) := fun wq hq => hq.box (alloc_here _ rfl)
      have HA2 : Hid (Beh w2 (w2.alloc (.cells #[.int .i64 D.code, .int .i64 D.told.kind, .float .f64 D.told.num, .string D.told.text] 37))) := (Beh.start w2).alloc _
      have HAX := Lib.hid (Beh.start (w2.alloc (.cells #[.int .i64 D.code, .int .i64 D.told.kind, .float .f64 D.told.num, .string D.told.text] 37)))
      obtain ⟨z0, z1, z2, z3⟩ := cells4 (H6.out _ (Beh.start _))
      obtain ⟨c0, c1, c2, c3, c4, c5, c6, c7⟩ := HC2.out _ HA2.out
      dsimp only at c0 c1 c2 c3 c4 c5 c6 c7
      -- the ways
      have HWAY : Hid ((D.code = 0) ∨ (D.code ≠ 0 ∧ D.code = 9 ∧ D.L = G) ∨ (D.code ≠ 0 ∧ D.code ≠ 9 ∧ D.L = G ∧ D.told = V.zero)) := by
        by_cases h0 : D.code = 0
        · exact .inl h0
        · obtain ⟨h1, h2⟩ := HER.out h0
          by_cases h9 : D.code = 9
          · exact .inr (.inl ⟨h0, h9, h1⟩)
          · exact .inr (.inr ⟨h0, h9, h1, h2 h9⟩)
      have hway := HWAY.out
      clear HER HWAY HGR HDO HHV
      generalize D.code = code at *
      generalize D.told = told at *
      generalize D.L = DL at *
      obtain ⟨tk, tn, ts⟩ := told
      dsimp only at z0 z1 z2 z3
      by_cases hkind : k0 = 1
      · have g1 := int_bne hkind
        have HDG := Lib.hid (HGE.out hkind)
        have HKPG := Lib.hid (HKP.out HDG.out)
        clear hkind HKP HDG HGE
        rcases hway with h0 | ⟨hn0, h9, hd⟩ | ⟨hn0, hn9, hd, ht⟩
        · subst h0
          go_wp2_with fail
          refine Calls.mono (HCHK.out _ (HA2.out.trans HAX.out)) ?_
          rintro e w' ⟨rfl, hb⟩
          have HAX := Lib.hid (HAX.out.on hb)
          clear hb
          obtain ⟨z0, z1, z2, z3⟩ := cells4 (H6.out _ HAX.out)
          obtain ⟨c0, c1, c2, c3, c4, c5, c6, c7⟩ := HC2.out _ (HA2.out.trans HAX.out)
          dsimp only at c0 c1 c2 c3 c4 c5 c6 c7
          go_wp2_with fail
          refine Calls.mono ((HCH _).out) ?_
          rintro e w' ⟨rfl, hb⟩
          have HAX := Lib.hid (HAX.out.on hb)
          clear hb
          obtain ⟨z0, z1, z2, z3⟩ := cells4 (H6.out _ HAX.out)
          obtain ⟨c0, c1, c2, c3, c4, c5, c6, c7⟩ := HC2.out _ (HA2.out.trans HAX.out)
          dsimp only at c0 c1 c2 c3 c4 c5 c6 c7
          go_wp2_with fail
          refine Calls.mono (HKPG.out _ (HA2.out.trans HAX.out)) ?_
          rintro e w' ⟨rfl, hb⟩
          have HAX := Lib.hid (HAX.out.on hb)
          clear hb
          obtain ⟨z0, z1, z2, z3⟩ := cells4 (H6.out _ HAX.out)
          obtain ⟨c0, c1, c2, c3, c4, c5, c6, c7⟩ := HC2.out _ (HA2.out.trans HAX.out)
          dsimp only at c0 c1 c2 c3 c4 c5 c6 c7
          go_wp2_with fail
          go_roundw
          case rel => exact ⟨k + 1, DL, a2, cap2, by omega, by go_num, rfl, HGN.out.on (HA2.out.trans HAX.out), HW2.out.trans (HA2.out.trans HAX.out)⟩
          case measure => simp [intOf]; omega
        · subst h9
          clear hn0 hd
          go_wp2_with fail
          refine Calls.mono (HKPG.out _ (HA2.out.trans HAX.out)) ?_
          rintro e w' ⟨rfl, hb⟩
          have HAX := Lib.hid (HAX.out.on hb)
          clear hb
          obtain ⟨z0, z1, z2, z3⟩ := cells4 (H6.out _ HAX.out)
          obtain ⟨c0, c1, c2, c3, c4, c5, c6, c7⟩ := HC2.out _ (HA2.out.trans HAX.out)
          dsimp only at c0 c1 c2 c3 c4 c5 c6 c7
          go_wp2_with fail
          refine Calls.mono (HCHK.out _ (HA2.out.trans HAX.out)) ?_
          rintro e w' ⟨rfl, hb⟩
          have HAX := Lib.hid (HAX.out.on hb)
          clear hb
          obtain ⟨z0, z1, z2, z3⟩ := cells4 (H6.out _ HAX.out)
          obtain ⟨c0, c1, c2, c3, c4, c5, c6, c7⟩ := HC2.out _ (HA2.out.trans HAX.out)
          dsimp only at c0 c1 c2 c3 c4 c5 c6 c7
          go_wp2_with fail
          refine Calls.mono ((HCH _).out) ?_
          rintro e w' ⟨rfl, hb⟩
          have HAX := Lib.hid (HAX.out.on hb)
          clear hb
          obtain ⟨z0, z1, z2, z3⟩ := cells4 (H6.out _ HAX.out)
          obtain ⟨c0, c1, c2, c3, c4, c5, c6, c7⟩ := HC2.out _ (HA2.out.trans HAX.out)
          dsimp only at c0 c1 c2 c3 c4 c5 c6 c7
          go_wp2_with fail
          refine Calls.mono (HKPG.out _ (HA2.out.trans HAX.out)) ?_
          rintro e w' ⟨rfl, hb⟩
          have HAX := Lib.hid (HAX.out.on hb)
          clear hb
          obtain ⟨z0, z1, z2, z3⟩ := cells4 (H6.out _ HAX.out)
          obtain ⟨c0, c1, c2, c3, c4, c5, c6, c7⟩ := HC2.out _ (HA2.out.trans HAX.out)
          dsimp only at c0 c1 c2 c3 c4 c5 c6 c7
          go_wp2_with fail
          go_roundw
          case rel => exact ⟨k + 1, DL, a2, cap2, by omega, by go_num, rfl, HGN.out.on (HA2.out.trans HAX.out), HW2.out.trans (HA2.out.trans HAX.out)⟩
          case measure => simp [intOf]; omega
        · have m0 := int_nbne hn0
          have m9 := int_nbne hn9
          clear hn0 hn9 hd
          obtain ⟨rfl, rfl, rfl⟩ : tk = 0 ∧ tn = 0 ∧ ts = ⟨#[]⟩ := by injection ht with a b c; exact ⟨a, b, c⟩
          clear ht
          go_wp2_with fail
          refine Calls.mono (HKPG.out _ (HA2.out.trans HAX.out)) ?_
          rintro e w' ⟨rfl, hb⟩
          have HAX := Lib.hid (HAX.out.on hb)
          clear hb
          obtain ⟨z0, z1, z2, z3⟩ := cells4 (H6.out _ HAX.out)
          obtain ⟨c0, c1, c2, c3, c4, c5, c6, c7⟩ := HC2.out _ (HA2.out.trans HAX.out)
          dsimp only at c0 c1 c2 c3 c4 c5 c6 c7
          go_wp2_with fail
          refine Calls.mono (keepValue_any V.zero V.zero _) ?_
          rw [V.same_refl]
          rintro e w' ⟨rfl, hb⟩
          have HAX := Lib.hid (HAX.out.on hb)
          clear hb
          obtain ⟨z0, z1, z2, z3⟩ := cells4 (H6.out _ HAX.out)
          obtain ⟨c0, c1, c2, c3, c4, c5, c6, c7⟩ := HC2.out _ (HA2.out.trans HAX.out)
          dsimp only at c0 c1 c2 c3 c4 c5 c6 c7
          go_wp2_with fail
          refine Calls.mono (HCHK.out _ (HA2.out.trans HAX.out)) ?_
          rintro e w' ⟨rfl, hb⟩
          have HAX := Lib.hid (HAX.out.on hb)
          clear hb
          obtain ⟨z0, z1, z2, z3⟩ := cells4 (H6.out _ HAX.out)
          obtain ⟨c0, c1, c2, c3, c4, c5, c6, c7⟩ := HC2.out _ (HA2.out.trans HAX.out)
          dsimp only at c0 c1 c2 c3 c4 c5 c6 c7
          go_wp2_with fail
          refine Calls.mono ((HCH _).out) ?_
          rintro e w' ⟨rfl, hb⟩
          have HAX := Lib.hid (HAX.out.on hb)
          clear hb
          obtain ⟨z0, z1, z2, z3⟩ := cells4 (H6.out _ HAX.out)
          obtain ⟨c0, c1, c2, c3, c4, c5, c6, c7⟩ := HC2.out _ (HA2.out.trans HAX.out)
          dsimp only at c0 c1 c2 c3 c4 c5 c6 c7
          go_wp2_with fail
          refine Calls.mono (HKPG.out _ (HA2.out.trans HAX.out)) ?_
          rintro e w' ⟨rfl, hb⟩
          have HAX := Lib.hid (HAX.out.on hb)
          clear hb
          obtain ⟨z0, z1, z2, z3⟩ := cells4 (H6.out _ HAX.out)
          obtain ⟨c0, c1, c2, c3, c4, c5, c6, c7⟩ := HC2.out _ (HA2.out.trans HAX.out)
          dsimp only at c0 c1 c2 c3 c4 c5 c6 c7
          go_wp2_with fail
          go_roundw
          case rel => exact ⟨k + 1, DL, a2, cap2, by omega, by go_num, rfl, HGN.out.on (HA2.out.trans HAX.out), HW2.out.trans (HA2.out.trans HAX.out)⟩
          case measure => simp [intOf]; omega
      · have g1 := int_nbne hkind
        clear HGE hkind
        rcases hway with h0 | ⟨hn0, h9, hd⟩ | ⟨hn0, hn9, hd, ht⟩
        · subst h0
          clear HKP
          go_wp2_with fail
          refine Calls.mono (HCHK.out _ (HA2.out.trans HAX.out)) ?_
          rintro e w' ⟨rfl, hb⟩
          have HAX := Lib.hid (HAX.out.on hb)
          clear hb
          obtain ⟨z0, z1, z2, z3⟩ := cells4 (H6.out _ HAX.out)
          obtain ⟨c0, c1, c2, c3, c4, c5, c6, c7⟩ := HC2.out _ (HA2.out.trans HAX.out)
          dsimp only at c0 c1 c2 c3 c4 c5 c6 c7
          go_wp2_with fail
          refine Calls.mono ((HCH _).out) ?_
          rintro e w' ⟨rfl, hb⟩
          have HAX := Lib.hid (HAX.out.on hb)
          clear hb
          obtain ⟨z0, z1, z2, z3⟩ := cells4 (H6.out _ HAX.out)
          obtain ⟨c0, c1, c2, c3, c4, c5, c6, c7⟩ := HC2.out _ (HA2.out.trans HAX.out)
          dsimp only at c0 c1 c2 c3 c4 c5 c6 c7
          go_wp2_with fail
          go_roundw
          case rel => exact ⟨k + 1, DL, a2, cap2, by omega, by go_num, rfl, HGN.out.on (HA2.out.trans HAX.out), HW2.out.trans (HA2.out.trans HAX.out)⟩
          case measure => simp [intOf]; omega
        · have HKPG := Lib.hid (HKP.out hd)
          subst h9
          clear hn0 hd HKP
          go_wp2_with fail
          refine Calls.mono (HKPG.out _ (HA2.out.trans HAX.out)) ?_
          rintro e w' ⟨rfl, hb⟩
          have HAX := Lib.hid (HAX.out.on hb)
          clear hb
          obtain ⟨z0, z1, z2, z3⟩ := cells4 (H6.out _ HAX.out)
          obtain ⟨c0, c1, c2, c3, c4, c5, c6, c7⟩ := HC2.out _ (HA2.out.trans HAX.out)
          dsimp only at c0 c1 c2 c3 c4 c5 c6 c7
          go_wp2_with fail
          refine Calls.mono (HCHK.out _ (HA2.out.trans HAX.out)) ?_
          rintro e w' ⟨rfl, hb⟩
          have HAX := Lib.hid (HAX.out.on hb)
          clear hb
          obtain ⟨z0, z1, z2, z3⟩ := cells4 (H6.out _ HAX.out)
          obtain ⟨c0, c1, c2, c3, c4, c5, c6, c7⟩ := HC2.out _ (HA2.out.trans HAX.out)
          dsimp only at c0 c1 c2 c3 c4 c5 c6 c7
          go_wp2_with fail
          refine Calls.mono ((HCH _).out) ?_
          rintro e w' ⟨rfl, hb⟩
          have HAX := Lib.hid (HAX.out.on hb)
          clear hb
          obtain ⟨z0, z1, z2, z3⟩ := cells4 (H6.out _ HAX.out)
          obtain ⟨c0, c1, c2, c3, c4, c5, c6, c7⟩ := HC2.out _ (HA2.out.trans HAX.out)
          dsimp only at c0 c1 c2 c3 c4 c5 c6 c7
          go_wp2_with fail
          go_roundw
          case rel => exact ⟨k + 1, DL, a2, cap2, by omega, by go_num, rfl, HGN.out.on (HA2.out.trans HAX.out), HW2.out.trans (HA2.out.trans HAX.out)⟩
          case measure => simp [intOf]; omega
        · have HKPG := Lib.hid (HKP.out hd)
          have m0 := int_nbne hn0
          have m9 := int_nbne hn9
          clear hn0 hn9 hd HKP
          obtain ⟨rfl, rfl, rfl⟩ : tk = 0 ∧ tn = 0 ∧ ts = ⟨#[]⟩ := by injection ht with a b c; exact ⟨a, b, c⟩
          clear ht
          go_wp2_with fail
          refine Calls.mono (HKPG.out _ (HA2.out.trans HAX.out)) ?_
          rintro e w' ⟨rfl, hb⟩
          have HAX := Lib.hid (HAX.out.on hb)
          clear hb
          obtain ⟨z0, z1, z2, z3⟩ := cells4 (H6.out _ HAX.out)
          obtain ⟨c0, c1, c2, c3, c4, c5, c6, c7⟩ := HC2.out _ (HA2.out.trans HAX.out)
          dsimp only at c0 c1 c2 c3 c4 c5 c6 c7
          go_wp2_with fail
          refine Calls.mono (keepValue_any V.zero V.zero _) ?_
          rw [V.same_refl]
          rintro e w' ⟨rfl, hb⟩
          have HAX := Lib.hid (HAX.out.on hb)
          clear hb
          obtain ⟨z0, z1, z2, z3⟩ := cells4 (H6.out _ HAX.out)
          obtain ⟨c0, c1, c2, c3, c4, c5, c6, c7⟩ := HC2.out _ (HA2.out.trans HAX.out)
          dsimp only at c0 c1 c2 c3 c4 c5 c6 c7
          go_wp2_with fail
          refine Calls.mono (HCHK.out _ (HA2.out.trans HAX.out)) ?_
          rintro e w' ⟨rfl, hb⟩
          have HAX := Lib.hid (HAX.out.on hb)
          clear hb
          obtain ⟨z0, z1, z2, z3⟩ := cells4 (H6.out _ HAX.out)
          obtain ⟨c0, c1, c2, c3, c4, c5, c6, c7⟩ := HC2.out _ (HA2.out.trans HAX.out)
          dsimp only at c0 c1 c2 c3 c4 c5 c6 c7
          go_wp2_with fail
          refine Calls.mono ((HCH _).out) ?_
          rintro e w' ⟨rfl, hb⟩
          have HAX := Lib.hid (HAX.out.on hb)
          clear hb
          obtain ⟨z0, z1, z2, z3⟩ := cells4 (H6.out _ HAX.out)
          obtain ⟨c0, c1, c2, c3, c4, c5, c6, c7⟩ := HC2.out _ (HA2.out.trans HAX.out)
          dsimp only at c0 c1 c2 c3 c4 c5 c6 c7
          go_wp2_with fail
          go_roundw
          case rel => exact ⟨k + 1, DL, a2, cap2, by omega, by go_num, rfl, HGN.out.on (HA2.out.trans HAX.out), HW2.out.trans (HA2.out.trans HAX.out)⟩
          case measure => simp [intOf]; omega
    · have hstop : (decide ((k : Int) < (C.length : Int)) = false ∧ decide (k < C.length) = false) ∨ (decide ((k : Int) < (C.length : Int)) = true ∧ decide (k < C.length) = true ∧ decide ((k : Int) < 200) = false ∧ decide (k < 200) = false) := by
        by_cases h1 : k < C.length
        · exact .inr ⟨decide_eq_true (by omega), decide_eq_true (by omega), decide_eq_false (by omega), decide_eq_false (by omega)⟩
        · exact .inl ⟨decide_eq_false (by omega), decide_eq_false (by omega)⟩
      clear hlt
      rcases hstop with ⟨e1, e2⟩ | ⟨e1, e2, e3, e4⟩
      all_goals
        go_wp2_with fail
        refine Calls.mono (wakes_any _) ?_
        rintro e w2 ⟨rfl, hb⟩
        have HB := Lib.hid (HB.out.trans hb)
        clear hb
        go_wp2_with fail
        go_ret
        exact ⟨rfl, HB.out⟩
theorem KvSound_law (a : Option Addr) (len cap : Nat) (W : World) (h0 : ∃ C : List Cm, C.length = len ∧ CmdsAt W a C) :
    Calls Try.prog 4 #[.slice a len cap] W fun e w' => e = .returned (.bool true) ∧ Below W.heap.size W w' := by
  obtain ⟨C, rfl, hC⟩ := h0
  exact KvSound_any a cap C W hC
end Go.Proofs.Ytilebpenfdgdmaa.Kv
