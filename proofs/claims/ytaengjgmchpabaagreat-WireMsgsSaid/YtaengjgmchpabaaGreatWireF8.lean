/- The reference's writers: may a message be written, is one of its texts too long: walks. -/
import Derived.Test.YtaengjgmchpabaaGreatWireF7
import Derived.StillTailTactics
namespace Go.Proofs.YtaengjgmchpabaaGreat.Wr
open Go Go.RowKit Vl Kv Ss Cn Lg Li Nm
attribute [local go_sem] Nm.run_bits Nm.run_frombits run_store_float
set_option maxHeartbeats 12800000 in
set_option maxRecDepth 100000 in
theorem refMayM (x : Mr) (L : List Mr) (w : World) (h : MsgAt w x L) (hl : x.1.ents.length ≤ 1000) (hls : ∀ y ∈ L, y.1.ents.length ≤ 1000) :
    Calls Tryz.prog 18 #[x.val] w fun e w' => e = .returned (.bool (mayB x L)) ∧ Below w.heap.size w w' := by
  obtain ⟨f, ⟨ea, ec, sb, sa, sc, ia, n, ic⟩⟩ := x
  obtain ⟨hf, hn, hL, hA⟩ := h
  dsimp only at hn hL hl
  subst hn
  have HB := Lib.hid (Bh.Bx.one w (Mr.obj (f, ⟨ea, ec, sb, sa, sc, ia, L.length, ic⟩)))
  have HF : Hid (∀ W, Kv.Beh w W → Calls Tryz.prog 41 #[Mr.val (f, ⟨ea, ec, sb, sa, sc, ia, L.length, ic⟩)] W fun e w' => e = .returned (.bool (okF f)) ∧ Below W.heap.size W w') := fun W hW => refFlatM _ W (hf.on hW) hl
  have HI := Lib.hid hL
  have HA := Lib.hid hA
  have HLS := Lib.hid hls
  have HR := Lib.hid (show mayB (f, ⟨ea, ec, sb, sa, sc, ia, L.length, ic⟩) L = (okF f && (decide ((L.length : Int) ≤ 16) && L.all okI)) from rfl)
  generalize mayB (f, ⟨ea, ec, sb, sa, sc, ia, L.length, ic⟩) L = q at *
  have hmx : L.length ≤ 9223372036854775807 := Nat.le_trans hL.len hL.max
  (obtain ⟨c0, c1, c2, c3, c4, c5, c6, c7, c8, c9, c10, c11, c12, c13, c14, c15⟩ := cells16m (x := (f, ⟨ea, ec, sb, sa, sc, ia, L.length, ic⟩)) HB.out.b0)
  clear hf hL hA hl hls
  cases hq : okF f
  case false => as_aux_lemma =>
    rw [hq] at HF HR
    have HQ : Hid (q = false) := Lib.hid (by rw [HR.out]; rfl)
    clear HR
    go_enter Tryz.func18, Tryz.ntmps18
    go_wp2_with (go_at_call 41; refine Calls.mono (HF.out _ HB.out.beh) ?_; rintro e w' ⟨rfl, hb⟩; (have HB := Lib.hid (HB.out.on hb)); clear hb; (obtain ⟨c0, c1, c2, c3, c4, c5, c6, c7, c8, c9, c10, c11, c12, c13, c14, c15⟩ := cells16m (x := (f, ⟨ea, ec, sb, sa, sc, ia, L.length, ic⟩)) HB.out.b0))
    go_ret
    exact ⟨ret_bool HQ.out.symm, HB.out.beh⟩
  rw [hq] at HF HR
  clear hq
  by_cases hm : 16 < L.length
  · as_aux_lemma =>
      have d1 : decide ((16 : Int) < (L.length : Int)) = true := decide_eq_true (by omega)
      have HQ : Hid (q = false) := Lib.hid (by rw [HR.out, decide_eq_false (by omega : ¬ (L.length : Int) ≤ 16)]; rfl)
      clear hm HR
      go_enter Tryz.func18, Tryz.ntmps18
      go_wp2_with (go_at_call 41; refine Calls.mono (HF.out _ HB.out.beh) ?_; rintro e w' ⟨rfl, hb⟩; (have HB := Lib.hid (HB.out.on hb)); clear hb; (obtain ⟨c0, c1, c2, c3, c4, c5, c6, c7, c8, c9, c10, c11, c12, c13, c14, c15⟩ := cells16m (x := (f, ⟨ea, ec, sb, sa, sc, ia, L.length, ic⟩)) HB.out.b0))
      go_ret
      exact ⟨ret_bool HQ.out.symm, HB.out.beh⟩
  have d1 : decide ((16 : Int) < (L.length : Int)) = false := decide_eq_false (by omega)
  have HR : Hid (q = L.all okI) := Lib.hid (by rw [HR.out, decide_eq_true (by omega : (L.length : Int) ≤ 16)]; rfl)
  clear hm
  go_enter Tryz.func18, Tryz.ntmps18
  go_wp2_with (go_at_call 41; refine Calls.mono (HF.out _ HB.out.beh) ?_; rintro e w' ⟨rfl, hb⟩; (have HB := Lib.hid (HB.out.on hb)); clear hb; (obtain ⟨c0, c1, c2, c3, c4, c5, c6, c7, c8, c9, c10, c11, c12, c13, c14, c15⟩ := cells16m (x := (f, ⟨ea, ec, sb, sa, sc, ia, L.length, ic⟩)) HB.out.b0))
  go_loopw [3] (fun i wr => ∃ k : Nat, k ≤ L.length ∧ i = .int .i64 k ∧ Hid (Bh.Bx w [Mr.obj (f, ⟨ea, ec, sb, sa, sc, ia, L.length, ic⟩)] wr) ∧ Hid ((L.take k).all okI = true)) (fun i _ => L.length - (intOf i).toNat)
  case atStart => exact ⟨0, by omega, rfl, HB.out, rfl⟩
  case round =>
    clear HB
    clear c0 c1 c2 c3 c4 c5 c6 c7 c8 c9 c10 c11 c12 c13 c14 c15
    obtain ⟨k, hk, rfl, HB, HD⟩ := hrel
    (obtain ⟨c0, c1, c2, c3, c4, c5, c6, c7, c8, c9, c10, c11, c12, c13, c14, c15⟩ := cells16m (x := (f, ⟨ea, ec, sb, sa, sc, ia, L.length, ic⟩)) HB.out.b0)
    by_cases hlt : k < L.length
    · obtain ⟨cS, oS, rfl, _⟩ := MsgsAt.cells HI.out (by omega)
      have HPL : Hid (∀ wq, Kv.Beh w wq → MrCells wq cS (oS + k * 16) (L.getD k Mr.zero)) := fun wq hq => by
        obtain ⟨_, _, he, hc⟩ := MsgsAt.cells (HI.out.below hq) (by omega); cases he; exact hc k hlt
      have hg := HA.out _ (getD_mem hlt)
      have hgl := HLS.out _ (getD_mem hlt)
      have HN := Lib.hid (okI_next hlt HD.out)
      have HH : Hid (okI (L.getD k Mr.zero) = false → q = false) := fun h => by rw [HR.out]; exact Bool.eq_false_iff.2 (okI_hit hlt h)
      clear HD
      generalize L.getD k Mr.zero = y at *
      have HG : Hid (∀ W, Kv.Beh w W → Calls Tryz.prog 41 #[y.val] W fun e w' => e = .returned (.bool (okF y.1)) ∧ Below W.heap.size W w') := fun W hW => refFlatM _ W (hg.on hW) hgl
      have HE : Hid (okI y = (okF y.1 && decide (y.2.n = 0))) := rfl
      clear hg hgl
      obtain ⟨g, ⟨ea2, ec2, sb2, sa2, sc2, ia2, n2, ic2⟩⟩ := y
      dsimp only at HG HE
      (obtain ⟨d0, d1, d2, d3, d4, d5, d6, d7, d8, d9, d10, d11, d12, d13, d14, d15⟩ := HPL.out _ HB.out.beh)
      cases hq : okF g
      case false => as_aux_lemma =>
        rw [hq] at HG
        have HQ := Lib.hid (HH.out (by rw [HE.out, hq]; rfl))
        clear hq HN HE HH
        go_wp2_with (go_at_call 41; refine Calls.mono (HG.out _ HB.out.beh) ?_; rintro e w' ⟨rfl, hb⟩; (have HB := Lib.hid (HB.out.on hb)); clear hb; (obtain ⟨c0, c1, c2, c3, c4, c5, c6, c7, c8, c9, c10, c11, c12, c13, c14, c15⟩ := cells16m (x := (f, ⟨ea, ec, sb, sa, sc, (some ⟨cS, oS, none⟩), L.length, ic⟩)) HB.out.b0); (obtain ⟨d0, d1, d2, d3, d4, d5, d6, d7, d8, d9, d10, d11, d12, d13, d14, d15⟩ := HPL.out _ HB.out.beh))
        go_ret
        exact ⟨ret_bool HQ.out.symm, HB.out.beh⟩
      rw [hq] at HG
      rcases Nat.eq_zero_or_pos n2 with rfl | hn2
      · as_aux_lemma =>
          have HN := Lib.hid (HN.out (by rw [HE.out, hq]; rfl))
          clear hq HE HH
          go_wp2_with (go_at_call 41; refine Calls.mono (HG.out _ HB.out.beh) ?_; rintro e w' ⟨rfl, hb⟩; (have HB := Lib.hid (HB.out.on hb)); clear hb; (obtain ⟨c0, c1, c2, c3, c4, c5, c6, c7, c8, c9, c10, c11, c12, c13, c14, c15⟩ := cells16m (x := (f, ⟨ea, ec, sb, sa, sc, (some ⟨cS, oS, none⟩), L.length, ic⟩)) HB.out.b0); (obtain ⟨d0, d1, d2, d3, d4, d5, d6, d7, d8, d9, d10, d11, d12, d13, d14, d15⟩ := HPL.out _ HB.out.beh))
          go_roundw
          case rel => exact ⟨k + 1, by omega, by go_num, HB.out, HN.out⟩
          case measure => simp [intOf]; omega
      · as_aux_lemma =>
          have HQ := Lib.hid (HH.out (by rw [HE.out, hq, decide_eq_false (by omega : ¬ n2 = 0)]; rfl))
          clear hq HN HE HH
          go_wp2_with (go_at_call 41; refine Calls.mono (HG.out _ HB.out.beh) ?_; rintro e w' ⟨rfl, hb⟩; (have HB := Lib.hid (HB.out.on hb)); clear hb; (obtain ⟨c0, c1, c2, c3, c4, c5, c6, c7, c8, c9, c10, c11, c12, c13, c14, c15⟩ := cells16m (x := (f, ⟨ea, ec, sb, sa, sc, (some ⟨cS, oS, none⟩), L.length, ic⟩)) HB.out.b0); (obtain ⟨d0, d1, d2, d3, d4, d5, d6, d7, d8, d9, d10, d11, d12, d13, d14, d15⟩ := HPL.out _ HB.out.beh))
          go_ret
          exact ⟨ret_bool HQ.out.symm, HB.out.beh⟩
    · as_aux_lemma =>
        obtain rfl : k = L.length := by omega
        have HQ : Hid (q = true) := Lib.hid (by rw [HR.out]; have := HD.out; rwa [List.take_length] at this)
        clear HD HR
        go_wp2
        go_ret
        exact ⟨ret_bool HQ.out.symm, HB.out.beh⟩
set_option maxHeartbeats 6400000 in
set_option maxRecDepth 100000 in
theorem refLongM (x : Mr) (L : List Mr) (w : World) (h : MsgAt w x L) :
    Calls Tryz.prog 19 #[x.val] w fun e w' => e = .returned (.bool (longB x L)) ∧ Below w.heap.size w w' := by
  obtain ⟨f, ⟨ea, ec, sb, sa, sc, ia, n, ic⟩⟩ := x
  obtain ⟨hf, hn, hL, hA⟩ := h
  dsimp only at hn hL
  subst hn
  have HB := Lib.hid (Bh.Bx.one w (Mr.obj (f, ⟨ea, ec, sb, sa, sc, ia, L.length, ic⟩)))
  have HI := Lib.hid hL
  have HH := Lib.hid (fun k hk hx => any_hit (L := L) (k := k) hk hx (f, ⟨ea, ec, sb, sa, sc, ia, L.length, ic⟩))
  have HE := Lib.hid (fun h => any_no (L := L) h (f, ⟨ea, ec, sb, sa, sc, ia, L.length, ic⟩))
  have HS : Hid (f.snap.length ≤ 9223372036854775807) := hf.snap.len
  generalize longB (f, ⟨ea, ec, sb, sa, sc, ia, L.length, ic⟩) L = q at *
  have hmx : L.length ≤ 9223372036854775807 := Nat.le_trans hL.len hL.max
  clear hf hL hA
  go_enter Tryz.func19, Tryz.ntmps19
  (obtain ⟨c0, c1, c2, c3, c4, c5, c6, c7, c8, c9, c10, c11, c12, c13, c14, c15⟩ := cells16m (x := (f, ⟨ea, ec, sb, sa, sc, ia, L.length, ic⟩)) HB.out.b0)
  go_wp2_with fail
  go_loopw [3] (fun i wr => ∃ k : Nat, k ≤ L.length ∧ i = .int .i64 k ∧ Hid (Bh.Bx w [Mr.obj (f, ⟨ea, ec, sb, sa, sc, ia, L.length, ic⟩)] wr) ∧ Hid (∀ j, j < k → ¬ 16384 < (L.getD j Mr.zero).1.snap.length)) (fun i _ => L.length - (intOf i).toNat)
  case atStart => exact ⟨0, by omega, rfl, HB.out, fun j hj => by omega⟩
  case round =>
    clear HB
    clear c0 c1 c2 c3 c4 c5 c6 c7 c8 c9 c10 c11 c12 c13 c14 c15
    obtain ⟨k, hk, rfl, HB, HD⟩ := hrel
    (obtain ⟨c0, c1, c2, c3, c4, c5, c6, c7, c8, c9, c10, c11, c12, c13, c14, c15⟩ := cells16m (x := (f, ⟨ea, ec, sb, sa, sc, ia, L.length, ic⟩)) HB.out.b0)
    by_cases hlt : k < L.length
    · obtain ⟨cS, oS, rfl, _⟩ := MsgsAt.cells HI.out (by omega)
      have HPL : Hid (∀ wq, Kv.Beh w wq → MrCells wq cS (oS + k * 16) (L.getD k Mr.zero)) := fun wq hq => by
        obtain ⟨_, _, he, hc⟩ := MsgsAt.cells (HI.out.below hq) (by omega); cases he; exact hc k hlt
      have HN : Hid (¬ 16384 < (L.getD k Mr.zero).1.snap.length → ∀ j, j < k + 1 → ¬ 16384 < (L.getD j Mr.zero).1.snap.length) := fun h1 j hj => by
        rcases Nat.lt_or_eq_of_le (Nat.lt_succ_iff.1 hj) with h3 | h3
        · exact HD.out j h3
        · rw [h3]; exact h1
      have HQ := Lib.hid (HH.out k hlt)
      clear HD
      generalize L.getD k Mr.zero = y at *
      (obtain ⟨d0, d1, d2, d3, d4, d5, d6, d7, d8, d9, d10, d11, d12, d13, d14, d15⟩ := HPL.out _ HB.out.beh)
      by_cases hs : 16384 < y.1.snap.length
      · have e1 : decide ((16384 : Int) < (y.1.snap.length : Int)) = true := decide_eq_true (by omega)
        have HQ := Lib.hid (HQ.out hs)
        clear hs HN
        go_wp2_with fail
        go_ret
        exact ⟨ret_bool HQ.out.symm, HB.out.beh⟩
      · have e1 : decide ((16384 : Int) < (y.1.snap.length : Int)) = false := decide_eq_false (by omega)
        have HN := Lib.hid (HN.out hs)
        clear hs HQ
        go_wp2_with fail
        go_roundw
        case rel => exact ⟨k + 1, by omega, by go_num, HB.out, HN.out⟩
        case measure => simp [intOf]; omega
    · obtain rfl : k = L.length := by omega
      have HE := Lib.hid (HE.out HD.out)
      clear HD HH
      by_cases hs : 16384 < f.snap.length
      · have e1 : decide ((16384 : Int) < (f.snap.length : Int)) = true := decide_eq_true (by omega)
        have HQ : Hid (q = true) := Lib.hid (by rw [HE.out]; exact decide_eq_true hs)
        clear hs HE
        go_wp2_with fail
        go_ret
        exact ⟨ret_bool HQ.out.symm, HB.out.beh⟩
      · have e1 : decide ((16384 : Int) < (f.snap.length : Int)) = false := decide_eq_false (by omega)
        have HQ : Hid (q = false) := Lib.hid (by rw [HE.out]; exact decide_eq_false hs)
        clear hs HE
        go_wp2_with fail
        go_ret
        exact ⟨ret_bool HQ.out.symm, HB.out.beh⟩
end Go.Proofs.YtaengjgmchpabaaGreat.Wr
