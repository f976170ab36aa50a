import Derived.Test.YtbheofibdogabaaGreatMergeSb18
import Derived.Test.YtbheofibdogabaaGreatMergeSb3
import Derived.Test.YtbheofibdogabaaGreatMergeSb14
section
/- The landed read, walked. -/
namespace Go.Proofs.YtbheofibdogabaaGreat.Ss
open Go Go.RowKit Vl Kv Mem Nm
attribute [local go_sem] run_bits run_frombits run_store_float

/-- a machine in memory of its own -/
structure MadeM (w w' : World) (s : Ms) (m : Ma) (bp bq : Nat) : Prop where
  op : OwnP 61 w' bp s.a s.cap m.pairs
  oq : OwnS 54 w' bq s.a2 s.cap2 m.sess
  lo1 : s.a ≠ none → w.heap.size ≤ bp
  lo2 : s.a2 ≠ none → w.heap.size ≤ bq
  ne : s.a ≠ none → s.a2 ≠ none → bp ≠ bq
theorem MadeM.at_ {w w' : World} {s : Ms} {m : Ma} {bp bq : Nat} (h : MadeM w w' s m bp bq) : MaAt w' s m := ⟨OwnP.pairs h.op, OwnS.sess h.oq⟩
theorem RdS.seto {w wr wr0 : World} {br bs n5 : Nat} {r r0 : List Nat} {e e0 : Int} {P : List Pr} {S : List Se} {s : Ms} {bp bq : Nat} (h : RdS w wr br bs r e P S s bp bq) (h0 : RdS w wr0 br bs r0 e0 P S s bp bq) (hn : wr0.heap.size ≤ n5) (i : Nat) (v : Value) :
    RdS w (wr.setCell ⟨n5, i, none⟩ v) br bs r e P S s bp bq := by
  have hl0 := h0.len
  have hb := h.lbr
  have hset : Kept (Only n5) wr (wr.setCell ⟨n5, i, none⟩ v) := (Kept.refl (Only n5) wr).setAt (.inl rfl) _ _
  refine ⟨RAt.seto h.rd (by omega) (fun hr => by have := h.lbs hr; omega) _ _, h.kept.setAt (.inr (by omega)) _ _, hset.heap h.mbox (fun e => by have e : w.heap.size + 1 = n5 := e; omega), hset.heap h.zbox (fun e => by have e : w.heap.size = n5 := e; omega), OwnC.kept h.op hset (fun ha e => ?_), OwnC.kept h.oq hset (fun ha e => ?_), h.lo1, h.lo2, h.ne, h.lbr, h.lbs⟩
  · have e : bp = n5 := e; have := OwnC.lt h0.op ha; omega
  · have e : bq = n5 := e; have := OwnC.lt h0.oq ha; omega
theorem RdS.start {w : World} {br bs : Nat} {l : List Nat} {e : Int} (h : Pk.RAt w br bs l e) :
    RdS w ((w.alloc (.cells #[.slice none 0 0, .slice none 0 0] 25)).alloc (.cells #[.slice none 0 0, .slice none 0 0] 25)) br bs l e [] [] Ms.zero 0 0 :=
  ⟨RAt.allo (RAt.allo h _) _, ((Kept.refl _ _).alloc _).alloc _, alloc_here _ (by simp), old_alloc _ (alloc_here _ rfl), OwnC.nil _ _ _ _, OwnC.nil _ _ _ _, fun h => absurd rfl h, fun h => absurd rfl h, fun h => absurd rfl h, RAt.lt1 h, fun hl => RAt.lt2 h hl⟩
set_option maxHeartbeats 6400000 in
set_option maxRecDepth 100000 in
theorem read_any {w : World} {br bs : Nat} {l : List Nat} (h : Pk.RAt w br bs l 0) (hl : l.length ≤ 100000) :
    Calls Tryz.prog 30 #[.pointer (some ⟨br, 0, none⟩)] w fun x w' => ∃ (s : Ms) (bp bq : Nat), x = .returned (s.agg (readM l)) ∧ MadeM w w' s (readM l) bp bq ∧ Kept (Only br) w w' := by
  have HS := Lib.hid (RdS.start h)
  have h8 := h.len.1
  have hr1 := Lib.hid (intOut_rest h8 0)
  have HP := Lib.hid (show rdP l = rdN rdPr (Pk.intOut l 0).2.1 (Pk.intOut l 0).2.2 (min (Pk.intOut l 0).1 32).toNat from rfl)
  have HRM : Hid (∀ A B, rdP l = A → rdS A.2.1 A.2.2 = B → readM l = ⟨A.1, B.1⟩) := fun A B hA hB => by unfold readM; rw [hA, hB]
  clear h h8
  go_enter Tryz.func30, Tryz.ntmps30
  go_wp2_with fail
  refine (rInt HS.out.rd hl).mono ?_
  rintro x w1 ⟨rfl, h1, k1⟩
  have HS := Lib.hid (HS.out.call h1 k1 hr1.out)
  clear h1 k1
  generalize Pk.intOut l 0 = o at *
  obtain ⟨n, r1, e1⟩ := o
  dsimp only at HS hr1 HP
  obtain ⟨N, hN⟩ : ∃ N, (min n 32).toNat = N := ⟨_, rfl⟩
  rw [hN] at HP
  have hNk : ∀ k : Nat, ((k : Int) < min n 32) ↔ k < N := fun k => by omega
  have HNK := Lib.hid hNk
  have hN32 : N ≤ 32 := by omega
  clear hN hNk
  go_wp2_with fail
  go_loopw [4, 9] (fun _ i wr => ∃ (k : Nat) (s : Ms) (bp bq : Nat), k ≤ N ∧ i = .int .i64 k ∧ Hid (RdS w wr br bs (rdN rdPr r1 e1 k).2.1 (rdN rdPr r1 e1 k).2.2 (rdN rdPr r1 e1 k).1 [] s bp bq)) (fun _ i _ => N - (intOf i).toNat)
  case atStart => exact ⟨0, Ms.zero, 0, 0, by omega, rfl, HS.out⟩
  case round =>
    clear HS
    obtain ⟨k, s, bp, bq, hk, rfl, HS⟩ := hrel
    have hr1' := rdN_rest (f := rdPr) (fun h e => rdPr_rest h e) hr1.out.2 e1 k
    have hlen : (rdN rdPr r1 e1 k).2.1.length ≤ 100000 := Nat.le_trans hr1'.1 (Nat.le_trans hr1.out.1 hl)
    have hrk := Lib.hid hr1'
    clear hr1'
    by_cases hlt : k < N
    · have d1 : decide ((k : Int) < min n 32) = true := decide_eq_true ((HNK.out k).2 hlt)
      have hPl := rdN_length rdPr r1 e1 k
      have HT := Lib.hid (show rdN rdPr r1 e1 (k + 1) = ((rdN rdPr r1 e1 k).1 ++ [⟨lb (Pk.textOut (rdN rdPr r1 e1 k).2.1 (rdN rdPr r1 e1 k).2.2).1, (rdV (Pk.textOut (rdN rdPr r1 e1 k).2.1 (rdN rdPr r1 e1 k).2.2).2.1 (Pk.textOut (rdN rdPr r1 e1 k).2.1 (rdN rdPr r1 e1 k).2.2).2.2).1⟩], (rdV (Pk.textOut (rdN rdPr r1 e1 k).2.1 (rdN rdPr r1 e1 k).2.2).2.1 (Pk.textOut (rdN rdPr r1 e1 k).2.1 (rdN rdPr r1 e1 k).2.2).2.2).2) from rfl)
      generalize rdN rdPr r1 e1 k = st at *
      obtain ⟨P, r, e⟩ := st
      dsimp only at HS hlen hrk hPl HT
      have hP32 : P.length ≤ 32 := by omega
      clear hPl
      have hr2 := Lib.hid (textOut_rest hrk.out.2 e)
      go_wp2_with fail
      refine (rText HS.out.rd hlen).mono ?_
      rintro x w2 ⟨bt, at_, ct, rfl, ho, h2, k2⟩
      have HS2 := Lib.hid (HS.out.call h2 k2 hr2.out)
      clear h2 k2
      generalize Pk.textOut r e = o2 at *
      obtain ⟨t, r2, e2⟩ := o2
      dsimp only at HS2 hr2 ho HT
      have kc := run_lb w2 bt at_ ct _ t rfl ho
      clear ho
      have hlen2 : r2.length ≤ 100000 := Nat.le_trans hr2.out.1 hlen
      have HRV : Hid (∀ v : World, v.heap = w2.heap → Calls Tryz.prog 55 #[.pointer (some ⟨br, 0, none⟩)] v fun x w' => x = .returned (rdV r2 e2).1.val ∧ Pk.RAt w' br bs (rdV r2 e2).2.1 (rdV r2 e2).2.2 ∧ Kept (Only br) v w') := fun v hv => readValue_any (RAt.heap HS2.out.rd hv) hlen2
      have hr3 := Lib.hid (rdV_rest hr2.out.2 e2)
      generalize rdV r2 e2 = o3 at *
      obtain ⟨⟨vk, vn, vs⟩, r3, e3⟩ := o3
      dsimp only at hr3 HRV HT
      obtain ⟨m0, m1⟩ := cells2 HS2.out.mbox
      go_wp2_with fail
      go_region_law ((first
        | (go_simp; go_at_call 55; refine Calls.mono (HRV.out _ (by exact rfl)) ?_; rintro x w3 ⟨rfl, h3, k3⟩; (have HS3 := Lib.hid (HS2.out.call h3 (k3.heap2 (v := w2) rfl rfl rfl rfl) hr3.out)); (obtain ⟨d0, d1'⟩ := cells2 HS3.out.mbox); (have d0a := fun o => cellOn ((Beh.start _).alloc o) d0); clear h3 k3)
        | (refine step_append_cells rfl (.tmp 15) (.tmp 20) 22 rfl 61 4 _ _ 48 Tryz.underlying22 rfl rfl rfl rfl rfl bp s.a s.cap P.length (flat P) (by simp [Act.eval]) (OwnC.kept HS3.out.op ((Kept.refl Mem.None _).alloc _) (fun _ h => h)) _ 1 1 _ (by simp [Act.eval]) (one_pair (p := ⟨lb t, ⟨vk, vn, vs⟩⟩) (alloc_here _ rfl)).src flat_one (by omega) (by omega) ?_; intro b' a' cap' w5 h2 h3 h4 h5; (have HP5 := Lib.hid ((HS3.out.on ((Kept.refl Mem.None _).alloc _)).pair h2 h3 h4)); (have HM5 := Lib.hid (h3.heap (old_alloc _ HS3.out.mbox) (fun e => by have := HS3.out.lo1 e.1; have := e.2; omega))); (obtain ⟨q0, q1⟩ := cells2 HM5.out); (have f0 := frozen_of HM5.out 0); clear h2 h3 h4 h5)))
      all_goals
        go_wp2_with fail
        go_roundw
        all_goals first
          | exact ⟨k + 1, ⟨a', cap', s.a2, s.cap2⟩, b', bq, by omega, by go_num, by show RdS _ _ _ _ _ _ _ _ _ _ _; rw [HT.out]; exact HP5.out⟩
          | (simp [intOf]; omega)
    · obtain rfl : k = N := by omega
      have d1 : decide ((k : Int) < min n 32) = false := decide_eq_false (fun h => hlt ((HNK.out k).1 h))
      have HS := Lib.hid (show RdS w wr br bs (rdP l).2.1 (rdP l).2.2 (rdP l).1 [] s bp bq by rw [HP.out]; exact HS.out)
      rw [← HP.out] at hlen
      have hrk := Lib.hid (show Rest r1 (rdP l).2.1 by rw [HP.out]; exact hrk.out)
      have hP32 : (rdP l).1.length ≤ 32 := by rw [HP.out, rdN_length]; omega
      clear HP HNK hN32 hlt hk
      generalize hA : rdP l = A at *
      have HR2 : Hid (∀ B, rdS A.2.1 A.2.2 = B → readM l = ⟨A.1, B.1⟩) := fun B hB => HRM.out A B rfl hB
      clear HRM hA
      obtain ⟨P, r, e⟩ := A
      dsimp only at HS hlen hrk hP32 HR2
      have hr2 := Lib.hid (intOut_rest hrk.out.2 e)
      have HPS := Lib.hid (show rdS r e = rdN rdSe (Pk.intOut r e).2.1 (Pk.intOut r e).2.2 (min (Pk.intOut r e).1 4).toNat from rfl)
      go_wp2_with fail
      refine (rInt HS.out.rd hlen).mono ?_
      rintro x w3 ⟨rfl, h1, k1⟩
      have HS := Lib.hid (HS.out.call h1 k1 hr2.out)
      clear h1 k1
      generalize Pk.intOut r e = o at *
      obtain ⟨n2, r2, e2⟩ := o
      dsimp only at HS hr2 HPS
      obtain ⟨N2, hN2⟩ : ∃ N2, (min n2 4).toNat = N2 := ⟨_, rfl⟩
      rw [hN2] at HPS
      have hNk : ∀ k : Nat, ((k : Int) < min n2 4) ↔ k < N2 := fun k => by omega
      have HNK := Lib.hid hNk
      have hN4 : N2 ≤ 4 := by omega
      clear hN2 hNk
      have hl2 : r2.length ≤ 100000 := Nat.le_trans hr2.out.1 hlen
      go_wp2_with fail
      go_loopw [5, 27] (fun _ i wr => ∃ (k : Nat) (s : Ms) (bp bq : Nat), k ≤ N2 ∧ i = .int .i64 k ∧ Hid (RdS w wr br bs (rdN rdSe r2 e2 k).2.1 (rdN rdSe r2 e2 k).2.2 P (rdN rdSe r2 e2 k).1 s bp bq)) (fun _ i _ => N2 - (intOf i).toNat)
      case atStart => exact ⟨0, s, bp, bq, by omega, rfl, HS.out⟩
      case round =>
        clear HS
        obtain ⟨k, s, bp, bq, hk, rfl, HS⟩ := hrel
        have hr1' := rdN_rest (f := rdSe) (fun h e => rdSe_rest h e) hr2.out.2 e2 k
        have hlen : (rdN rdSe r2 e2 k).2.1.length ≤ 100000 := Nat.le_trans hr1'.1 hl2
        have hrk := Lib.hid hr1'
        clear hr1'
        by_cases hlt : k < N2
        · have d1 : decide ((k : Int) < min n2 4) = true := decide_eq_true ((HNK.out k).2 hlt)
          have hSl := rdN_length rdSe r2 e2 k
          have HT := Lib.hid (show rdN rdSe r2 e2 (k + 1) = ((rdN rdSe r2 e2 k).1 ++ [(rdSe (rdN rdSe r2 e2 k).2.1 (rdN rdSe r2 e2 k).2.2).1], (rdSe (rdN rdSe r2 e2 k).2.1 (rdN rdSe r2 e2 k).2.2).2) from rfl)
          generalize rdN rdSe r2 e2 k = st at *
          obtain ⟨S, r, e⟩ := st
          dsimp only at HS hlen hrk hSl HT
          have hS4 : S.length ≤ 4 := by omega
          clear hSl
          have HTS := Lib.hid (show rdSe r e = (⟨(Pk.intOut r e).1, (Pk.intOut (Pk.intOut r e).2.1 (Pk.intOut r e).2.2).1, (Pk.intOut (Pk.intOut (Pk.intOut r e).2.1 (Pk.intOut r e).2.2).2.1 (Pk.intOut (Pk.intOut r e).2.1 (Pk.intOut r e).2.2).2.2).1, (rdV (Pk.intOut (Pk.intOut (Pk.intOut r e).2.1 (Pk.intOut r e).2.2).2.1 (Pk.intOut (Pk.intOut r e).2.1 (Pk.intOut r e).2.2).2.2).2.1 (Pk.intOut (Pk.intOut (Pk.intOut r e).2.1 (Pk.intOut r e).2.2).2.1 (Pk.intOut (Pk.intOut r e).2.1 (Pk.intOut r e).2.2).2.2).2.2).1⟩, (rdV (Pk.intOut (Pk.intOut (Pk.intOut r e).2.1 (Pk.intOut r e).2.2).2.1 (Pk.intOut (Pk.intOut r e).2.1 (Pk.intOut r e).2.2).2.2).2.1 (Pk.intOut (Pk.intOut (Pk.intOut r e).2.1 (Pk.intOut r e).2.2).2.1 (Pk.intOut (Pk.intOut r e).2.1 (Pk.intOut r e).2.2).2.2).2.2).2) from rfl)
          generalize rdSe r e = RS at *
          have hr3 := Lib.hid (intOut_rest hrk.out.2 e)
          go_wp2_with fail
          refine (rInt HS.out.rd hlen).mono ?_
          rintro x w3 ⟨rfl, h1, k1⟩
          have HS3 := Lib.hid (HS.out.call h1 k1 hr3.out)
          clear h1 k1
          generalize Pk.intOut r e = o3 at *
          obtain ⟨pc, r3, e3⟩ := o3
          dsimp only at HS3 hr3 HTS
          have hl3 : r3.length ≤ 100000 := Nat.le_trans hr3.out.1 hlen
          have hr4 := Lib.hid (intOut_rest hr3.out.2 e3)
          go_wp2_with fail
          refine (rInt HS3.out.rd hl3).mono ?_
          rintro x w4 ⟨rfl, h1, k1⟩
          have HS4 := Lib.hid (HS3.out.call h1 k1 hr4.out)
          clear h1 k1
          generalize Pk.intOut r3 e3 = o4 at *
          obtain ⟨ps, r4, e4⟩ := o4
          dsimp only at HS4 hr4 HTS
          have hl4 : r4.length ≤ 100000 := Nat.le_trans hr4.out.1 hl3
          have hr5 := Lib.hid (intOut_rest hr4.out.2 e4)
          have HS4a := Lib.hid (HS4.out.on ((Kept.refl Mem.None w4).alloc (.cells #[.int .i64 pc, .int .i64 ps, .int .i64 0, .int .i64 0, .float .f64 0, .string ⟨#[]⟩] 54)))
          have HB4 := Lib.hid (alloc_here (w := w4) (.cells #[.int .i64 pc, .int .i64 ps, .int .i64 0, .int .i64 0, .float .f64 0, .string ⟨#[]⟩] 54) rfl)
          have hlow : w.heap.size + 1 < w4.heap.size := HS4.out.len
          have hlbr := HS4.out.lbr
          go_wp2_with fail
          refine (rInt HS4a.out.rd hl4).mono ?_
          rintro x w5 ⟨rfl, h1, k1⟩
          have HS5 := Lib.hid (HS4a.out.call h1 k1 hr5.out)
          have HB5 := Lib.hid (keptO k1 HB4.out (by omega))
          clear h1 k1
          generalize Pk.intOut r4 e4 = o5 at *
          obtain ⟨pd, r5, e5⟩ := o5
          dsimp only at HS5 hr5 HTS
          have hl5 : r5.length ≤ 100000 := Nat.le_trans hr5.out.1 hl4
          have hr6 := Lib.hid (rdV_rest hr5.out.2 e5)
          have HS5s := Lib.hid (HS5.out.seto HS4.out (Nat.le_refl _) 2 (.int .i64 pd))
          have HB5s := Lib.hid (heap_setc (i := 2) (v := .int .i64 pd) HB5.out)
          obtain ⟨c0, c1, c2, c3, c4, c5⟩ := cells6 HB5.out
          have g2 := frozen_of HB5.out 2
          go_wp2_with fail
          refine (readValue_any HS5s.out.rd hl5).mono ?_
          rintro x w6 ⟨rfl, h1, k1⟩
          have HS6 := Lib.hid (HS5s.out.call h1 k1 hr6.out)
          have hb6 := keptO k1 HB5s.out (by omega)
          simp only [List.setIfInBounds_toArray, List.set_cons_succ, List.set_cons_zero] at hb6
          have HB6 := Lib.hid hb6
          clear h1 k1 hb6 c0 c1 c2 c3 c4 c5 g2
          generalize rdV r5 e5 = o6 at *
          obtain ⟨⟨vk, vn, vs⟩, r6, e6⟩ := o6
          dsimp only at HS6 hr6 HTS
          have HS7 := Lib.hid (((HS6.out.seto HS4.out (Nat.le_refl _) 3 (.int .i64 vk)).seto HS4.out (Nat.le_refl _) 4 (.float .f64 vn)).seto HS4.out (Nat.le_refl _) 5 (.string vs))
          obtain ⟨c0, c1, c2, c3, c4, c5⟩ := cells6 HB6.out
          have g3 := frozen_of HB6.out 3
          have g4 := frozen_of HB6.out 4
          have g5 := frozen_of HB6.out 5
          obtain ⟨m0, m1⟩ := cells2 HS6.out.mbox
          have hne : w4.heap.size ≠ w.heap.size + 1 := by omega
          go_wp2_with (at_builtin; refine wpList_append_cells rfl _ _ _ rfl 54 6 _ _ 56 Tryz.underlying23 rfl rfl rfl rfl rfl bq s.a2 s.cap2 S.length (flatS S) rfl (OwnC.kept HS7.out.oq ((Kept.refl Mem.None _).alloc _) (fun _ h => h)) _ 1 1 _ rfl (one_sess (s := ⟨pc, ps, pd, ⟨vk, vn, vs⟩⟩) (alloc_here _ (by simp))).src flatS_one (by omega) (by omega) ?_; intro b' a' cap' w8 h2 h3 h4 h5; (have HP8 := Lib.hid ((HS7.out.on ((Kept.refl Mem.None _).alloc _)).sess h2 h3 h4)); (have HM8 := Lib.hid (h3.heap (old_alloc _ HS7.out.mbox) (fun e => by have := HS7.out.lo2 e.1; have := e.2; omega))); (obtain ⟨q0, q1⟩ := cells2 HM8.out); (have f1 := frozen_of HM8.out 1); clear h2 h3 h4 h5)
          go_roundw
          case rel => exact ⟨k + 1, ⟨s.a, s.cap, a', cap'⟩, bp, b', by omega, by go_num, by show RdS _ _ _ _ _ _ _ _ _ _ _; rw [HT.out, HTS.out]; exact HP8.out⟩
          case measure => simp [intOf]; omega
        · obtain rfl : k = N2 := by omega
          have d1 : decide ((k : Int) < min n2 4) = false := decide_eq_false (fun h => hlt ((HNK.out k).1 h))
          have HRL := Lib.hid (HR2.out _ HPS.out)
          clear HR2 HPS hrk hlen
          generalize rdN rdSe r2 e2 k = B at *
          obtain ⟨S, r, e⟩ := B
          dsimp only at HS HRL
          obtain ⟨m0, m1⟩ := cells2 HS.out.mbox
          obtain ⟨z0, z1⟩ := cells2 HS.out.zbox
          have g0 := frozen_of HS.out.zbox 0
          have g1 := frozen_of HS.out.zbox 1
          have hlow : w.heap.size + 1 < wr.heap.size := HS.out.len
          go_wp2_with fail
          (try simp only [Exit.inBlock, Exit.then])
          refine bodyPost_ret (v := s.agg ⟨P, S⟩) ?_ rfl ⟨s, bp, bq, by rw [HRL.out], ?_, ?_⟩
          · rw [results_cell_one rfl]
            go_simp
          · rw [HRL.out]
            have hset : ∀ {W : World} {i : Nat} {v : Value}, Kept (Only w.heap.size) W (W.setCell ⟨w.heap.size, i, none⟩ v) := (Kept.refl (Only w.heap.size) _).setAt (.inl rfl) _ _
            exact ⟨OwnC.kept (OwnC.kept HS.out.op hset (fun ha e => by have := HS.out.lo1 ha; have e : bp = w.heap.size := e; omega)) hset (fun ha e => by have := HS.out.lo1 ha; have e : bp = w.heap.size := e; omega),
              OwnC.kept (OwnC.kept HS.out.oq hset (fun ha e => by have := HS.out.lo2 ha; have e : bq = w.heap.size := e; omega)) hset (fun ha e => by have := HS.out.lo2 ha; have e : bq = w.heap.size := e; omega),
              fun ha => by have := HS.out.lo1 ha; omega, fun ha => by have := HS.out.lo2 ha; omega, HS.out.ne⟩
          · exact (HS.out.kept.setAt (.inr (Nat.le_refl _)) _ _).setAt (.inr (Nat.le_refl _)) _ _
end Go.Proofs.YtbheofibdogabaaGreat.Ss
end
section
/- Walks on commands: HeavyCmd, hasRightValues. -/
namespace Go.Proofs.YtbheofibdogabaaGreat.Kv
open Go Go.RowKit Vl Nm Mem
attribute [local go_sem] run_bits run_frombits run_store_float
def Cm.heavy (c : Cm) : Bool := decide (2000 < c.key.size) || decide (2000 < c.old.text.size) || decide (2000 < c.val.text.size)
set_option maxHeartbeats 800000 in
theorem heavyCmd_any (c : Cm) (w : World) :
    Calls Tryz.prog 40 #[c.agg] w fun e w' => e = .returned (.bool c.heavy) ∧ Below w.heap.size w w' := by
  obtain ⟨k, key, ⟨ok, on, os⟩, ⟨vk, vn, vs⟩⟩ := c
  have HC := Lib.hid (show (Cm.mk k key ⟨ok, on, os⟩ ⟨vk, vn, vs⟩).heavy = (decide ((2000 : Int) < (key.size : Int)) || decide ((2000 : Int) < (os.size : Int)) || decide ((2000 : Int) < (vs.size : Int))) by
    unfold Cm.heavy; rw [← int_gt (n := 2000), ← int_gt (n := 2000), ← int_gt (n := 2000)]; rfl)
  cases h0 : decide ((2000 : Int) < (key.size : Int)) <;> cases h1 : decide ((2000 : Int) < (os.size : Int))
  all_goals
    go_enter Tryz.func40, Tryz.ntmps40
    go_wp2_with fail
    go_ret
    exact ⟨ret_bool (by rw [HC.out, h0, h1]; simp), below_alloc _ _⟩
theorem vals_told (c : Cm) : c.vals = ((c.old.check == 0) && (c.val.check == 0) &&
    (if c.kind = 2 then (c.old.kind == 0) && (c.val.kind != 0) else if c.kind = 4 then true
     else if c.kind = 5 ∨ c.kind = 6 then (c.old.kind == 0) && (c.val.kind == 1) else (c.old.kind == 0) && (c.val.kind == 0))) := by
  have e : ∀ a b : Int, decide (a = b) = (a == b) := fun a b => by rw [Bool.eq_iff_iff]; simp
  have e2 : ∀ a b : Int, decide (a ≠ b) = (a != b) := fun a b => by rw [Bool.eq_iff_iff]; simp
  unfold Cm.vals
  simp only [e, e2]
set_option maxHeartbeats 3200000 in
theorem hasRight_any (c : Cm) (w : World) :
    Calls Tryz.prog 101 #[c.agg] w fun e w' => e = .returned (.bool c.vals) ∧ Below w.heap.size w w' := by
  have HC := Lib.hid (vals_told c)
  have HA := Lib.hid (alloc_here (w := w) c.obj rfl)
  have HB := Lib.hid (below_alloc w c.obj)
  obtain ⟨k, key, ⟨ok, on, os⟩, ⟨vk, vn, vs⟩⟩ := c
  unfold Cm.obj at HA HB
  cases a1 : ((V.mk ok on os).check == 0)
  · have a2 : ((V.mk ok on os).check != 0) = true := by rw [bne, a1]; rfl
    go_enter Tryz.func101, Tryz.ntmps101
    go_wp2_with (first | (go_at_call 70; refine (Check_any ⟨_, _, _⟩ _).mono ?_; rintro e w' ⟨rfl, hb⟩; (have HA := Lib.hid (box_on HA.out hb)); (have HB := Lib.hid (blw HB.out hb)); clear hb; obtain ⟨c0, c1, c2, c3, c4, c5, c6, c7⟩ := cells8 HA.out))
    go_ret
    exact ⟨ret_bool (by rw [HC.out]; simp [a1]), HB.out⟩
  · have a2 : ((V.mk ok on os).check != 0) = false := by rw [bne, a1]; rfl
    cases b1 : ((V.mk vk vn vs).check == 0)
    · have b2 : ((V.mk vk vn vs).check != 0) = true := by rw [bne, b1]; rfl
      go_enter Tryz.func101, Tryz.ntmps101
      go_wp2_with (first | (go_at_call 70; refine (Check_any ⟨_, _, _⟩ _).mono ?_; rintro e w' ⟨rfl, hb⟩; (have HA := Lib.hid (box_on HA.out hb)); (have HB := Lib.hid (blw HB.out hb)); clear hb; obtain ⟨c0, c1, c2, c3, c4, c5, c6, c7⟩ := cells8 HA.out))
      go_ret
      exact ⟨ret_bool (by rw [HC.out]; simp [a1, b1]), HB.out⟩
    · have b2 : ((V.mk vk vn vs).check != 0) = false := by rw [bne, b1]; rfl
      rcases (show k = 2 ∨ k = 4 ∨ k = 5 ∨ k = 6 ∨ (k ≠ 2 ∧ k ≠ 4 ∧ k ≠ 5 ∧ k ≠ 6) by omega) with rfl | rfl | rfl | rfl | ⟨n2, n4, n5, n6⟩
      case' inr.inr.inr.inr =>
        have m2 := int_nbeq n2
        have m4 := int_nbeq n4
        have m5 := int_nbeq n5
        have m6 := int_nbeq n6
        replace HC := Lib.hid (HC.out.trans (by rw [if_neg n2, if_neg n4, if_neg (by omega : ¬(k = 5 ∨ k = 6))]))
        clear n2 n4 n5 n6
      all_goals cases o1 : (ok == 0) <;> cases v1 : (vk == 0) <;> cases v2 : (vk == 1)
      all_goals
        have v3 : (vk != 0) = !(vk == 0) := rfl
        rw [v1] at v3
        go_enter Tryz.func101, Tryz.ntmps101
        go_wp2_with (first | (go_at_call 70; refine (Check_any ⟨_, _, _⟩ _).mono ?_; rintro e w' ⟨rfl, hb⟩; (have HA := Lib.hid (box_on HA.out hb)); (have HB := Lib.hid (blw HB.out hb)); clear hb; obtain ⟨c0, c1, c2, c3, c4, c5, c6, c7⟩ := cells8 HA.out))
        go_ret
        exact ⟨ret_bool (by rw [HC.out]; simp [a1, b1, o1, v1, v2, bne]), HB.out⟩
end Go.Proofs.YtbheofibdogabaaGreat.Kv
end
section
/- Walks on commands: Right; the reference's zero. -/
namespace Go.Proofs.YtbheofibdogabaaGreat.Kv
open Go Go.RowKit Vl Nm Mem
attribute [local go_sem] run_bits run_frombits run_store_float
theorem str_empty (s : ByteArray) : (s.toList == []) = decide (s.size = 0) := by
  rw [Bool.eq_iff_iff, beq_iff_eq, decide_eq_true_eq, Nm.toList_data, ← ByteArray.size_data]
  exact ⟨fun h => by simpa using congrArg List.length h, fun h => List.eq_nil_of_length_eq_zero (by simpa using h)⟩
theorem right_kind {c : Cm} (h : c.kind < 1 ∨ 6 < c.kind) : c.right = 15 := by unfold Cm.right; rw [if_pos h]
theorem right_long {c : Cm} (h : ¬ (c.kind < 1 ∨ 6 < c.kind)) (h2 : 8 < c.key.size) : c.right = 2 := by unfold Cm.right; rw [if_neg h, if_pos h2]
theorem right_type {c : Cm} (h : ¬ (c.kind < 1 ∨ 6 < c.kind)) (h2 : ¬ 8 < c.key.size) (h3 : c.key.size = 0 ∨ c.vals = false) : c.right = 8 := by unfold Cm.right; rw [if_neg h, if_neg h2, if_pos h3]
theorem right_ok {c : Cm} (h : ¬ (c.kind < 1 ∨ 6 < c.kind)) (h2 : ¬ 8 < c.key.size) (h3 : ¬ c.key.size = 0) (h4 : c.vals = true) : c.right = 0 := by unfold Cm.right; rw [if_neg h, if_neg h2, if_neg (by simp [h3, h4])]
set_option maxHeartbeats 1600000 in
theorem Right_any (c : Cm) (w : World) :
    Calls Tryz.prog 81 #[c.agg] w fun e w' => e = .returned (.int .i64 c.right) ∧ Below w.heap.size w w' := by
  have HA := Lib.hid (alloc_here (w := w) c.obj rfl)
  have HB := Lib.hid (below_alloc w c.obj)
  have HS := Lib.hid (str_empty c.key)
  have r1 := Lib.hid (right_kind (c := c))
  have r2 := Lib.hid (right_long (c := c))
  have r3 := Lib.hid (right_type (c := c))
  have r4 := Lib.hid (right_ok (c := c))
  obtain ⟨q, hq⟩ : ∃ q, c.vals = q := ⟨_, rfl⟩
  have HR := fun w => Lib.hid (hasRight_any c w)
  rw [hq] at HR
  have HQ := Lib.hid hq
  clear hq
  obtain ⟨k, key, ⟨ok, on, os⟩, ⟨vk, vn, vs⟩⟩ := c
  unfold Cm.obj at HA HB
  by_cases h1 : k < 1
  · have HE := Lib.hid (r1.out (.inl h1))
    clear r1 r2 r3 r4
    go_enter Tryz.func81, Tryz.ntmps81
    go_wp2_with fail
    go_ret
    exact ⟨ret_int HE.out.symm, HB.out⟩
  · by_cases h2 : 6 < k
    · have HE := Lib.hid (r1.out (.inr h2))
      clear r1 r2 r3 r4
      go_enter Tryz.func81, Tryz.ntmps81
      go_wp2_with fail
      go_ret
      exact ⟨ret_int HE.out.symm, HB.out⟩
    · have hk : ¬ (k < 1 ∨ 6 < k) := by omega
      by_cases h3 : 8 < key.size
      · have HE := Lib.hid (r2.out hk h3)
        have d3 : decide ((8 : Int) < (key.size : Int)) = true := decide_eq_true (by omega)
        clear r1 r2 r3 r4 hk
        go_enter Tryz.func81, Tryz.ntmps81
        go_wp2_with fail
        go_ret
        exact ⟨ret_int HE.out.symm, HB.out⟩
      · have d3 : decide ((8 : Int) < (key.size : Int)) = false := decide_eq_false (by omega)
        by_cases h4 : key.size = 0
        · have HE := Lib.hid (r3.out hk h3 (.inl h4))
          have d4 : (key.toList == []) = true := by rw [HS.out]; exact decide_eq_true h4
          clear r1 r2 r3 r4 hk h3 h4
          go_enter Tryz.func81, Tryz.ntmps81
          go_wp2_with fail
          go_ret
          exact ⟨ret_int HE.out.symm, HB.out⟩
        · have d4 : (key.toList == []) = false := by rw [HS.out]; exact decide_eq_false h4
          cases q
          · have HE := Lib.hid (r3.out hk h3 (.inr HQ.out))
            clear r1 r2 r3 r4 hk h3 h4
            go_enter Tryz.func81, Tryz.ntmps81
            go_wp2_with (first | (go_at_call 101; refine ((HR _).out).mono ?_; rintro e w' ⟨rfl, hb⟩; (have HB := Lib.hid (blw HB.out hb)); clear hb))
            go_ret
            exact ⟨ret_int HE.out.symm, HB.out⟩
          · have HE := Lib.hid (r4.out hk h3 h4 HQ.out)
            clear r1 r2 r3 r4 hk h3 h4
            go_enter Tryz.func81, Tryz.ntmps81
            go_wp2_with (first | (go_at_call 101; refine ((HR _).out).mono ?_; rintro e w' ⟨rfl, hb⟩; (have HB := Lib.hid (blw HB.out hb)); clear hb))
            go_ret
            exact ⟨ret_int HE.out.symm, HB.out⟩
def V.zeroB (v : V) : Bool := (v.kind == 0) && (v.check == 0)
set_option maxHeartbeats 400000 in
theorem zero_any (v : V) (w : World) :
    Calls Tryz.prog 113 #[v.val] w fun e w' => e = .returned (.bool (Kv.V.zeroB v)) ∧ Below w.heap.size w w' := by
  have HC := Lib.hid (show Kv.V.zeroB v = ((v.kind == 0) && (v.check == 0)) from rfl)
  obtain ⟨k, n, s⟩ := v
  cases h : (k == 0)
  · go_enter Tryz.func113, Tryz.ntmps113
    go_wp2_with fail
    go_ret
    exact ⟨ret_bool (by rw [HC.out, h]; rfl), below_alloc _ _⟩
  · go_enter Tryz.func113, Tryz.ntmps113
    go_wp2_with (first | (go_at_call 25; refine (refCheck_any ⟨_, _, _⟩ _).mono ?_; rintro e w' ⟨rfl, o, rfl⟩))
    go_ret
    exact ⟨ret_bool (by rw [HC.out, h]; simp), below_alloc2 _ _ _⟩
end Go.Proofs.YtbheofibdogabaaGreat.Kv
end
