import Derived.Test.YtaengjgmchpabaaGreatMergeWr41
import Derived.Test.YtaengjgmchpabaaGreatWireHv
/- The law's HeavyMsg. -/
namespace Go.Proofs.YtaengjgmchpabaaGreat.Wr
open Go Go.RowKit Vl Kv Ss Cn Lg Li Nm
attribute [local go_sem] Nm.run_bits Nm.run_frombits run_store_float
/-- as much as is played -/
structure Light (x : Mr) (L : List Mr) : Prop where
  self : heavyF x.1 = false
  len : L.length ≤ 20
  all : ∀ y ∈ L, heavyF y.1 = false ∧ y.2.n ≤ 3
/-- a message that came in -/
structure MsgIn (w : World) (x : Mr) (L : List Mr) : Prop where
  flat : FlAt w x
  len : L.length = x.2.n
  list : MsgsAt w x.2.ia x.2.ic L
  all : ∀ y ∈ L, FlAt w y ∧ ∃ K : List Mr, K.length = y.2.n ∧ MsgsAt w y.2.ia y.2.ic K ∧ ∀ z ∈ K, FlAt w z
theorem MsgD.open_ {w : World} {x : Mr} (h : MsgD w 2 x) : ∃ L, MsgIn w x L ∧ RF x.1 ∧ ∀ y ∈ L, RF y.1 := by
  obtain ⟨h1, h2, L, h3, h4, h5⟩ := h
  refine ⟨L, ⟨h1, h3, h4, fun y hy => ?_⟩, h2, fun y hy => (h5 y hy).2.1⟩
  obtain ⟨a1, _, K, a3, a4, a5⟩ := h5 y hy
  exact ⟨a1, K, a3, a4, fun z hz => (a5 z hz).1⟩
def HvTold (x : Mr) (L : List Mr) (w : World) (e : Ending) (w' : World) : Prop := ∃ b, e = .returned (.bool b) ∧ Below w.heap.size w w' ∧ (b = false → Light x L)
theorem getD_mem {L : List Mr} {k : Nat} (hk : k < L.length) : L.getD k Mr.zero ∈ L := by
  have e : L.getD k Mr.zero = L[k] := by simp [hk]
  rw [e]; exact List.getElem_mem hk
theorem mem_getD {L : List Mr} {y : Mr} (h : y ∈ L) : ∃ i, i < L.length ∧ L.getD i Mr.zero = y := by
  obtain ⟨i, hi, e⟩ := List.getElem_of_mem h
  exact ⟨i, hi, by rw [← e]; simp [hi]⟩
set_option maxHeartbeats 12800000 in
set_option maxRecDepth 100000 in
theorem heavyMsg_any (x : Mr) (L : List Mr) (w : World) (h : MsgIn w x L) :
    Calls Tryz.prog 4 #[x.val] w (HvTold x L w) := by
  obtain ⟨f, ⟨ea, ec, sb, sa, sc, ia, n, ic⟩⟩ := x
  obtain ⟨hf, hn, hL, hA⟩ := h
  dsimp only at hn hL
  subst hn
  have HB := Lib.hid (Bh.Bx.one w (Mr.obj (f, ⟨ea, ec, sb, sa, sc, ia, L.length, ic⟩)))
  have HF : Hid (∀ W, Kv.Beh w W → Calls Tryz.prog 14 #[Mr.val (f, ⟨ea, ec, sb, sa, sc, ia, L.length, ic⟩)] W fun e w' => e = .returned (.bool (heavyF f)) ∧ Below W.heap.size W w') := fun W hW => heavyFlat_any _ W (hf.on hW)
  have HI := Lib.hid hL
  have HA := Lib.hid hA
  have hmx : L.length ≤ 9223372036854775807 := Nat.le_trans hL.len hL.max
  (obtain ⟨c0, c1, c2, c3, c4, c5, c6, c7, c8, c9, c10, c11, c12, c13, c14, c15⟩ := cells16m (x := (f, ⟨ea, ec, sb, sa, sc, ia, L.length, ic⟩)) HB.out.b0)
  clear hf hL hA
  cases hq : heavyF f
  case true => as_aux_lemma =>
    rw [hq] at HF
    go_enter Tryz.func4, Tryz.ntmps4
    go_wp2_with (go_at_call 14; refine Calls.mono (HF.out _ HB.out.beh) ?_; rintro e w' ⟨rfl, hb⟩; (have HB := Lib.hid (HB.out.on hb)); clear hb; (obtain ⟨c0, c1, c2, c3, c4, c5, c6, c7, c8, c9, c10, c11, c12, c13, c14, c15⟩ := cells16m (x := (f, ⟨ea, ec, sb, sa, sc, ia, L.length, ic⟩)) HB.out.b0))
    go_ret
    exact ⟨true, rfl, HB.out.beh, fun h => by cases h⟩
  rw [hq] at HF
  have HQ := Lib.hid hq
  clear hq
  by_cases hm : 20 < L.length
  · as_aux_lemma =>
      have d1 : decide ((20 : Int) < (L.length : Int)) = true := decide_eq_true (by omega)
      clear hm
      go_enter Tryz.func4, Tryz.ntmps4
      go_wp2_with (go_at_call 14; refine Calls.mono (HF.out _ HB.out.beh) ?_; rintro e w' ⟨rfl, hb⟩; (have HB := Lib.hid (HB.out.on hb)); clear hb; (obtain ⟨c0, c1, c2, c3, c4, c5, c6, c7, c8, c9, c10, c11, c12, c13, c14, c15⟩ := cells16m (x := (f, ⟨ea, ec, sb, sa, sc, ia, L.length, ic⟩)) HB.out.b0))
      go_ret
      exact ⟨true, rfl, HB.out.beh, fun h => by cases h⟩
  have d1 : decide ((20 : Int) < (L.length : Int)) = false := decide_eq_false (by omega)
  have HM := Lib.hid hm
  clear hm
  go_enter Tryz.func4, Tryz.ntmps4
  go_wp2_with (go_at_call 14; refine Calls.mono (HF.out _ HB.out.beh) ?_; rintro e w' ⟨rfl, hb⟩; (have HB := Lib.hid (HB.out.on hb)); clear hb; (obtain ⟨c0, c1, c2, c3, c4, c5, c6, c7, c8, c9, c10, c11, c12, c13, c14, c15⟩ := cells16m (x := (f, ⟨ea, ec, sb, sa, sc, ia, L.length, ic⟩)) HB.out.b0))
  go_loopw [3] (fun i wr => ∃ k : Nat, k ≤ L.length ∧ i = .int .i64 k ∧ Hid (Bh.Bx w [Mr.obj (f, ⟨ea, ec, sb, sa, sc, ia, L.length, ic⟩)] wr) ∧ Hid (∀ j, j < k → heavyF (L.getD j Mr.zero).1 = false ∧ (L.getD j Mr.zero).2.n ≤ 3)) (fun i _ => L.length - (intOf i).toNat)
  case atStart => exact ⟨0, by omega, rfl, HB.out, fun j hj => by omega⟩
  case round =>
    clear HB
    clear c0 c1 c2 c3 c4 c5 c6 c7 c8 c9 c10 c11 c12 c13 c14 c15
    obtain ⟨k, hk, rfl, HB, HD⟩ := hrel
    (obtain ⟨c0, c1, c2, c3, c4, c5, c6, c7, c8, c9, c10, c11, c12, c13, c14, c15⟩ := cells16m (x := (f, ⟨ea, ec, sb, sa, sc, ia, L.length, ic⟩)) HB.out.b0)
    by_cases hlt : k < L.length
    · obtain ⟨cS, oS, rfl, _⟩ := MsgsAt.cells HI.out (by omega)
      have HPL : Hid (∀ wq, Kv.Beh w wq → MrCells wq cS (oS + k * 16) (L.getD k Mr.zero)) := fun wq hq => by
        obtain ⟨_, _, he, hc⟩ := MsgsAt.cells (HI.out.below hq) (by omega); cases he; exact hc k hlt
      obtain ⟨hg, K, hK1, hK2, hK3⟩ := HA.out _ (getD_mem hlt)
      have HN : Hid (heavyF (L.getD k Mr.zero).1 = false → (L.getD k Mr.zero).2.n ≤ 3 → ∀ j, j < k + 1 → heavyF (L.getD j Mr.zero).1 = false ∧ (L.getD j Mr.zero).2.n ≤ 3) := fun h1 h2 j hj => by
        rcases Nat.lt_or_eq_of_le (Nat.lt_succ_iff.1 hj) with h3 | h3
        · exact HD.out j h3
        · rw [h3]; exact ⟨h1, h2⟩
      clear HD
      generalize L.getD k Mr.zero = y at *
      obtain ⟨g, ⟨ea2, ec2, sb2, sa2, sc2, ia2, n2, ic2⟩⟩ := y
      dsimp only at hK1 hK2 HN
      subst hK1
      have HG : Hid (∀ W, Kv.Beh w W → Calls Tryz.prog 14 #[Mr.val (g, ⟨ea2, ec2, sb2, sa2, sc2, ia2, K.length, ic2⟩)] W fun e w' => e = .returned (.bool (heavyF g)) ∧ Below W.heap.size W w') := fun W hW => heavyFlat_any _ W (hg.on hW)
      have HJ := Lib.hid hK2
      have HK := Lib.hid hK3
      have hmy : K.length ≤ 9223372036854775807 := Nat.le_trans hK2.len hK2.max
      clear hg hK2 hK3
      (obtain ⟨d0, d1, d2, d3, d4, d5, d6, d7, d8, d9, d10, d11, d12, d13, d14, d15⟩ := HPL.out _ HB.out.beh)
      cases hq : heavyF g
      case true => as_aux_lemma =>
        rw [hq] at HG
        clear hq
        go_wp2_with (go_at_call 14; refine Calls.mono (HG.out _ HB.out.beh) ?_; rintro e w' ⟨rfl, hb⟩; (have HB := Lib.hid (HB.out.on hb)); clear hb; (obtain ⟨c0, c1, c2, c3, c4, c5, c6, c7, c8, c9, c10, c11, c12, c13, c14, c15⟩ := cells16m (x := (f, ⟨ea, ec, sb, sa, sc, (some ⟨cS, oS, none⟩), L.length, ic⟩)) HB.out.b0); (obtain ⟨d0, d1, d2, d3, d4, d5, d6, d7, d8, d9, d10, d11, d12, d13, d14, d15⟩ := HPL.out _ HB.out.beh))
        go_ret
        exact ⟨true, rfl, HB.out.beh, fun h => by cases h⟩
      rw [hq] at HG
      have HN := Lib.hid (HN.out hq)
      clear hq
      by_cases hm3 : 3 < K.length
      · as_aux_lemma =>
          have d2 : decide ((3 : Int) < (K.length : Int)) = true := decide_eq_true (by omega)
          clear hm3
          go_wp2_with (go_at_call 14; refine Calls.mono (HG.out _ HB.out.beh) ?_; rintro e w' ⟨rfl, hb⟩; (have HB := Lib.hid (HB.out.on hb)); clear hb; (obtain ⟨c0, c1, c2, c3, c4, c5, c6, c7, c8, c9, c10, c11, c12, c13, c14, c15⟩ := cells16m (x := (f, ⟨ea, ec, sb, sa, sc, (some ⟨cS, oS, none⟩), L.length, ic⟩)) HB.out.b0); (obtain ⟨d0, d1, d2, d3, d4, d5, d6, d7, d8, d9, d10, d11, d12, d13, d14, d15⟩ := HPL.out _ HB.out.beh))
          go_ret
          exact ⟨true, rfl, HB.out.beh, fun h => by cases h⟩
      have d2 : decide ((3 : Int) < (K.length : Int)) = false := decide_eq_false (by omega)
      have HN := Lib.hid (HN.out (by omega))
      clear hm3
      go_wp2_with (go_at_call 14; refine Calls.mono (HG.out _ HB.out.beh) ?_; rintro e w' ⟨rfl, hb⟩; (have HB := Lib.hid (HB.out.on hb)); clear hb; (obtain ⟨c0, c1, c2, c3, c4, c5, c6, c7, c8, c9, c10, c11, c12, c13, c14, c15⟩ := cells16m (x := (f, ⟨ea, ec, sb, sa, sc, (some ⟨cS, oS, none⟩), L.length, ic⟩)) HB.out.b0); (obtain ⟨d0, d1, d2, d3, d4, d5, d6, d7, d8, d9, d10, d11, d12, d13, d14, d15⟩ := HPL.out _ HB.out.beh))
      go_loopw [4] (fun i wr => ∃ m : Nat, m ≤ K.length ∧ i = .int .i64 m ∧ Hid (Bh.Bx w [Mr.obj (f, ⟨ea, ec, sb, sa, sc, (some ⟨cS, oS, none⟩), L.length, ic⟩)] wr)) (fun i _ => K.length - (intOf i).toNat)
      case atStart => exact ⟨0, by omega, rfl, HB.out⟩
      case round =>
        clear HB
        clear c0 c1 c2 c3 c4 c5 c6 c7 c8 c9 c10 c11 c12 c13 c14 c15 d0 d1 d2 d3 d4 d5 d6 d7 d8 d9 d10 d11 d12 d13 d14 d15
        obtain ⟨m, hm, rfl, HB⟩ := hrel
        (obtain ⟨c0, c1, c2, c3, c4, c5, c6, c7, c8, c9, c10, c11, c12, c13, c14, c15⟩ := cells16m (x := (f, ⟨ea, ec, sb, sa, sc, (some ⟨cS, oS, none⟩), L.length, ic⟩)) HB.out.b0)
        (obtain ⟨d0, d1, d2, d3, d4, d5, d6, d7, d8, d9, d10, d11, d12, d13, d14, d15⟩ := HPL.out _ HB.out.beh)
        by_cases hlt2 : m < K.length
        · as_aux_lemma =>
            obtain ⟨cT, oT, rfl, _⟩ := MsgsAt.cells HJ.out (by omega)
            have HPK : Hid (∀ wq, Kv.Beh w wq → MrCells wq cT (oT + m * 16) (K.getD m Mr.zero)) := fun wq hq => by
              obtain ⟨_, _, he, hc⟩ := MsgsAt.cells (HJ.out.below hq) (by omega); cases he; exact hc m hlt2
            have hz := HK.out _ (getD_mem hlt2)
            generalize K.getD m Mr.zero = z at *
            have HZ : Hid (∀ W, Kv.Beh w W → Calls Tryz.prog 14 #[z.val] W fun e w' => e = .returned (.bool (heavyF z.1)) ∧ Below W.heap.size W w') := fun W hW => heavyFlat_any _ W (hz.on hW)
            clear hz
            (try obtain ⟨e0, e1, e2, e3, e4, e5, e6, e7, e8, e9, e10, e11, e12, e13, e14, e15⟩ := HPK.out _ HB.out.beh)
            cases hq : heavyF z.1
            case true => as_aux_lemma =>
              rw [hq] at HZ
              clear hq
              go_wp2_with (go_at_call 14; refine Calls.mono (HZ.out _ HB.out.beh) ?_; rintro e w' ⟨rfl, hb⟩; (have HB := Lib.hid (HB.out.on hb)); clear hb; (obtain ⟨c0, c1, c2, c3, c4, c5, c6, c7, c8, c9, c10, c11, c12, c13, c14, c15⟩ := cells16m (x := (f, ⟨ea, ec, sb, sa, sc, (some ⟨cS, oS, none⟩), L.length, ic⟩)) HB.out.b0); (obtain ⟨d0, d1, d2, d3, d4, d5, d6, d7, d8, d9, d10, d11, d12, d13, d14, d15⟩ := HPL.out _ HB.out.beh); (try obtain ⟨e0, e1, e2, e3, e4, e5, e6, e7, e8, e9, e10, e11, e12, e13, e14, e15⟩ := HPK.out _ HB.out.beh))
              go_ret
              exact ⟨true, rfl, HB.out.beh, fun h => by cases h⟩
            rw [hq] at HZ
            clear hq
            obtain ⟨zf, ⟨ea3, ec3, sb3, sa3, sc3, ia3, n3, ic3⟩⟩ := z
            rcases Nat.eq_zero_or_pos n3 with rfl | d3
            · as_aux_lemma =>
                go_wp2_with (go_at_call 14; refine Calls.mono (HZ.out _ HB.out.beh) ?_; rintro e w' ⟨rfl, hb⟩; (have HB := Lib.hid (HB.out.on hb)); clear hb; (obtain ⟨c0, c1, c2, c3, c4, c5, c6, c7, c8, c9, c10, c11, c12, c13, c14, c15⟩ := cells16m (x := (f, ⟨ea, ec, sb, sa, sc, (some ⟨cS, oS, none⟩), L.length, ic⟩)) HB.out.b0); (obtain ⟨d0, d1, d2, d3, d4, d5, d6, d7, d8, d9, d10, d11, d12, d13, d14, d15⟩ := HPL.out _ HB.out.beh); (try obtain ⟨e0, e1, e2, e3, e4, e5, e6, e7, e8, e9, e10, e11, e12, e13, e14, e15⟩ := HPK.out _ HB.out.beh))
                go_roundw
                case rel => exact ⟨m + 1, by omega, by go_num, HB.out⟩
                case measure => simp [intOf]; omega
            · as_aux_lemma =>
                go_wp2_with (go_at_call 14; refine Calls.mono (HZ.out _ HB.out.beh) ?_; rintro e w' ⟨rfl, hb⟩; (have HB := Lib.hid (HB.out.on hb)); clear hb; (obtain ⟨c0, c1, c2, c3, c4, c5, c6, c7, c8, c9, c10, c11, c12, c13, c14, c15⟩ := cells16m (x := (f, ⟨ea, ec, sb, sa, sc, (some ⟨cS, oS, none⟩), L.length, ic⟩)) HB.out.b0); (obtain ⟨d0, d1, d2, d3, d4, d5, d6, d7, d8, d9, d10, d11, d12, d13, d14, d15⟩ := HPL.out _ HB.out.beh); (try obtain ⟨e0, e1, e2, e3, e4, e5, e6, e7, e8, e9, e10, e11, e12, e13, e14, e15⟩ := HPK.out _ HB.out.beh))
                go_ret
                exact ⟨true, rfl, HB.out.beh, fun h => by cases h⟩
        · as_aux_lemma =>
            obtain rfl : m = K.length := by omega
            go_wp2_with fail
            go_roundw
            case rel => exact ⟨k + 1, by omega, by go_num, HB.out, HN.out⟩
            case measure => simp [intOf]; omega
    · as_aux_lemma =>
        obtain rfl : k = L.length := by omega
        have HE : Hid (Light (f, ⟨ea, ec, sb, sa, sc, ia, L.length, ic⟩) L) := ⟨HQ.out, by have := HM.out; omega, fun y hy => by
          obtain ⟨i, hi, rfl⟩ := mem_getD hy
          exact HD.out i hi⟩
        clear HD HQ HM
        go_wp2
        go_ret
        exact ⟨false, rfl, HB.out.beh, fun _ => HE.out⟩
end Go.Proofs.YtaengjgmchpabaaGreat.Wr
