import Derived.Test.YtaengjgmchpabaaGreatMergeWr23
import Derived.Test.YtaengjgmchpabaaGreatWireR7
import Derived.Test.YtaengjgmchpabaaGreatMergeWr12
import Derived.Deep.RegionHeld3
import Derived.Test.YtaengjgmchpabaaGreatMergeWr11
import Derived.Test.YtaengjgmchpabaaGreatMergeWr15
section
/- The reference's readers: a list of entries. -/
namespace Go.Proofs.YtaengjgmchpabaaGreat.Wr
open Go Go.RowKit Vl Kv Ss Cn Mem Lg Nm
attribute [local go_sem] Nm.run_bits Nm.run_frombits run_store_float
/-- a list that is being read, by the reference -/
structure Rq (w : World) (br b : Nat) (a : Option Addr) (cap : Nat) (F l : List Nat) (e most n : Int) (q0 : List Nat) (k : Nat) (r : List Nat) (e' : Int) (L : List E) (gb : Nat) (ga : Option Addr) (gc : Nat) (W : World) : Prop where
  rr : RR W br b a cap F r e'
  kept : Kept (Only br) w W
  lbr : br < w.heap.size
  lb : F ≠ [] → b < w.heap.size
  own : Li.OwnL 70 W gb ga gc L
  lo : w.heap.size ≤ gb
  got : e' = 0 → (cEnt.rep k).rd q0 = some (L, r)
  hdr : e' = 0 → e = 0 ∧ rdUp most l = some (n, q0)
  bad : e' ≠ 0 → e = 0 → (cLi cEnt most).rd l = none
theorem Rq.end_ {w W : World} {br b : Nat} {a : Option Addr} {cap : Nat} {F l : List Nat} {e most n : Int} {q0 : List Nat} {k : Nat} {r : List Nat} {e' : Int} {L : List E} {gb : Nat} {ga : Option Addr} {gc : Nat} (h : Rq w br b a cap F l e most n q0 k r e' L gb ga gc W) (hk : e' = 0 → k = n.toNat) : Rb (cLi cEnt most) l e L r e' := by
  by_cases h0 : e' = 0
  · have h1 := h.hdr h0
    exact .inl ⟨h1.1, h0, cLi_yes (A := cEnt) h1.2 (by rw [← hk h0]; exact h.got h0)⟩
  · exact .inr ⟨h0, h.bad h0⟩
theorem Rq.next {w W W1 W2 W' : World} {br b : Nat} {a : Option Addr} {cap : Nat} {F l : List Nat} {e most n : Int} {q0 : List Nat} {k : Nat} {r : List Nat} {L : List E} {gb gb' : Nat} {ga ga' : Option Addr} {gc gc' : Nat} {x : E} {r2 : List Nat} {e2 : Int}
    (h : Rq w br b a cap F l e most n q0 k r 0 L gb ga gc W) (hk : (k : Int) < n) (hr : RR W1 br b a cap F r2 e2) (hk1 : Kept (Only br) W W1) (hb : Rb cEnt r 0 x r2 e2) (hW : Beh W1 W2)
    (h2 : OwnC 70 16 W' gb' ga' gc' (L.length + 1) (Li.flat L ++ Li.flat [x])) (h3 : Kept (Of ga gb) W2 W') (h4 : (gb' = gb ∧ (ga' = none ∨ ga ≠ none)) ∨ W2.heap.size ≤ gb') :
    Rq w br b a cap F l e most n q0 (k + 1) r2 e2 (L ++ [x]) gb' ga' gc' W' := by
  have hz := h.kept.size
  have hz1 := hk1.size
  have hz2 := hW.size
  have hof : ∀ k, Of ga gb k → w.heap.size ≤ k := fun k e => by have := e.2; have := h.lo; omega
  have h0 := h.hdr rfl
  have hg := h.got rfl
  refine ⟨(hr.kept (kept_beh hW) (fun h => h) (fun _ h => h)).kept h3 (fun e => by have := hof _ e; have := h.lbr; omega) (fun hr e => by have := hof _ e; have := h.lb hr; omega), ?_, h.lbr, h.lb, ?_, ?_, fun he => ?_, fun _ => h0, fun he _ => ?_⟩
  · exact ((h.kept.trans hk1).trans (kept_beh hW).ofNone).trans' h3 (fun k e => .inr (hof k e))
  · show OwnC _ 16 W' gb' ga' gc' (L ++ [x]).length (Li.flat (L ++ [x]))
    rw [List.length_append, Li.flat_append]
    exact h2
  · rcases h4 with ⟨rfl, _⟩ | h4
    · exact h.lo
    · omega
  · rcases hb with ⟨_, _, hd⟩ | ⟨h1, _⟩
    · exact rep_snoc hg hd
    · exact absurd he h1
  · rcases hb with ⟨_, h1, _⟩ | ⟨_, hd⟩
    · exact absurd h1 he
    · exact cLi_no2 h0.2 (rep_stop hg (hd rfl) (by omega))
/-- what is told of a list -/
def Lrt (most : Int) (br b : Nat) (a : Option Addr) (cap : Nat) (F l : List Nat) (e : Int) (w : World) (x : Ending) (w' : World) : Prop :=
  ∃ (L : List E) (r : List Nat) (e' : Int) (gb : Nat) (ga : Option Addr) (gc : Nat), x = .returned (.slice ga L.length gc) ∧ Li.OwnL 70 w' gb ga gc L ∧ w.heap.size ≤ gb ∧ RR w' br b a cap F r e' ∧ Kept (Only br) w w' ∧ Rb (cLi cEnt most) l e L r e'
set_option maxHeartbeats 6400000 in
set_option maxRecDepth 100000 in
theorem List_rt {w : World} {br b : Nat} {a : Option Addr} {cap : Nat} {F l : List Nat} {e : Int} (h : RR w br b a cap F l e) (hF : F.length ≤ 100000) (most : Int) (hm : most ≤ 100000) :
    Calls Tryz.prog 58 #[.pointer (some ⟨br, 0, none⟩), .int .i64 most] w (Lrt most br b a cap F l e w) := by
  have HI := Lib.hid (Int_rt h hF)
  have HL0 := Lib.hid (show br < w.heap.size ∧ (F ≠ [] → b < w.heap.size) from ⟨h.lt1, h.lt2⟩)
  clear h
  go_enter Tryz.func58, Tryz.ntmps58
  go_wp2_with fail
  refine HI.out.mono ?_
  rintro x w1 ⟨n, q0, e1, rfl, h1, k1, hb⟩
  have HR := Lib.hid h1
  have HRK := Lib.hid k1
  have HB := Lib.hid hb
  have HFAR : Hid (¬ (0 ≤ n ∧ n ≤ most) → e = 0 → (cLi cEnt most).rd l = none) := fun hn h0 => by
    rcases hb with ⟨_, _, hd⟩ | ⟨_, hd⟩
    · exact cLi_no1 (rdUp_far hd hn)
    · exact cLi_no1 (rdUp_no (hd h0))
  have HNEAR : Hid (0 ≤ n → n ≤ most → Rq w br b a cap F l e most n q0 0 q0 e1 [] w.heap.size none 0 w1) := fun g0 g1 =>
    ⟨h1, k1, HL0.out.1, HL0.out.2, OwnC.nil _ _ _ _, Nat.le_refl _, fun _ => rep_zero _, fun he => by
      rcases hb with ⟨h0, _, hd⟩ | ⟨h1, _⟩
      · exact ⟨h0, rdUp_yes hd g0 g1⟩
      · exact absurd he h1, fun he h0 => by
      rcases hb with ⟨_, h1, _⟩ | ⟨_, hd⟩
      · exact absurd h1 he
      · exact cLi_no1 (rdUp_no (hd h0))⟩
  have HNONE : Hid (∀ w2, RR w2 br b a cap F [] (Pk.keep e1 3) → Kept (Only br) w1 w2 → ¬ (0 ≤ n ∧ n ≤ most) → Rq w br b a cap F l e most n q0 0 [] (Pk.keep e1 3) [] w.heap.size none 0 w2) := fun w2 hr hk hn =>
    ⟨hr, k1.trans hk, HL0.out.1, HL0.out.2, OwnC.nil _ _ _ _, Nat.le_refl _, fun he => absurd he (keep_ne (by decide)), fun he => absurd he (keep_ne (by decide)), fun _ => HFAR.out hn⟩
  have HNO := Lib.hid (refNone_any2 h1 3 (by decide))
  clear h1 k1 hb HI HL0
  by_cases g0 : n < 0
  case pos =>
    have d1 : decide (n < 0) = true := decide_eq_true g0
    have hfar : ¬ (0 ≤ n ∧ n ≤ most) := by omega
    go_wp2_with (go_at_call 28; refine Calls.mono HNO.out ?_; rintro x w2 ⟨rfl, hr, hk⟩)
    have HQ := Lib.hid (HNONE.out _ hr hk hfar)
    clear hr hk HNONE HNEAR HFAR HNO HR HRK HB hfar
    generalize Pk.keep e1 3 = e2 at *
    go_loopw [6, 7] (fun s i wr => ∃ (k : Nat) (r : List Nat) (e' : Int) (L : List E) (gb : Nat) (ga : Option Addr) (gc : Nat), k ≤ n.toNat ∧ L.length = k ∧ s = .slice ga k gc ∧ i = .int .i64 k ∧ Hid (Rq w br b a cap F l e most n q0 k r e' L gb ga gc wr)) (fun _ i _ => n.toNat - (intOf i).toNat)
    case atStart => exact ⟨0, _, _, [], w.heap.size, none, 0, Nat.zero_le _, rfl, rfl, rfl, HQ.out⟩
    case round =>
      clear HQ
      obtain ⟨k, r, e', L, gb, ga, gc, hk, hL, rfl, rfl, HQ⟩ := hrel
      by_cases hlt : (k : Int) < n
      · exact absurd hlt (by omega)
      · have d3 : decide ((k : Int) < n) = false := decide_eq_false hlt
        have HE := Lib.hid (HQ.out.end_ (fun _ => by omega))
        go_wp2_with fail
        go_ret
        exact ⟨L, r, e', gb, ga, gc, by rw [hL]; rfl, HQ.out.own, HQ.out.lo, HQ.out.rr, HQ.out.kept, HE.out⟩
  have d1 : decide (n < 0) = false := decide_eq_false g0
  by_cases g1 : most < n
  case pos =>
    have d2 : decide (most < n) = true := decide_eq_true g1
    have hfar : ¬ (0 ≤ n ∧ n ≤ most) := by omega
    go_wp2_with (go_at_call 28; refine Calls.mono HNO.out ?_; rintro x w2 ⟨rfl, hr, hk⟩)
    have HQ := Lib.hid (HNONE.out _ hr hk hfar)
    clear hr hk HNONE HNEAR HFAR HNO HR HRK HB hfar
    generalize Pk.keep e1 3 = e2 at *
    go_loopw [6, 7] (fun s i wr => ∃ (k : Nat) (r : List Nat) (e' : Int) (L : List E) (gb : Nat) (ga : Option Addr) (gc : Nat), k ≤ n.toNat ∧ L.length = k ∧ s = .slice ga k gc ∧ i = .int .i64 k ∧ Hid (Rq w br b a cap F l e most n q0 k r e' L gb ga gc wr)) (fun _ i _ => n.toNat - (intOf i).toNat)
    case atStart => exact ⟨0, _, _, [], w.heap.size, none, 0, Nat.zero_le _, rfl, rfl, rfl, HQ.out⟩
    case round =>
      clear HQ
      obtain ⟨k, r, e', L, gb, ga, gc, hk, hL, rfl, rfl, HQ⟩ := hrel
      by_cases hlt : (k : Int) < n
      · have d3 : decide ((k : Int) < n) = true := decide_eq_true hlt
        by_cases he : e' = 0
        · subst he
          have hn1 : n ≤ 100000 := by have := (rdUp_int (HQ.out.hdr rfl).2).2.2; omega
          have HE := Lib.hid (Ent_rt HQ.out.rr hF)
          obtain ⟨at_, _, hB, _⟩ := HQ.out.rr
          obtain ⟨c0, c1, c2, _⟩ := cells3 hB
          clear hB
          subst hL
          go_wp2_with fail
          refine HE.out.mono ?_
          rintro x w3 ⟨y, r2, e2, rfl, h1, k1, hb⟩
          have HX : Hid (RR w3 br b a cap F r2 e2 ∧ Kept (Only br) wr w3 ∧ Rb cEnt r 0 y r2 e2 ∧ Li.OwnL 70 w3 gb ga gc L) := ⟨h1, k1, hb, OwnC.kept HQ.out.own k1 (fun _ e => by have e : gb = br := e; have := HQ.out.lo; have := HQ.out.lbr; omega)⟩
          clear h1 k1 hb HE c0 c1 c2
          go_wp2_with (at_builtin; refine wpList_append_cells rfl _ _ _ rfl 70 16 _ _ 152 Tryz.underlying22 rfl rfl rfl rfl rfl gb ga gc L.length (Li.flat L) rfl (OwnC.kept HX.out.2.2.2 ((Kept.refl Mem.None _).alloc _) (fun _ h => h)) _ 1 1 _ rfl (Li.ListAt.src (Li.lit_list (L := [y]) (alloc_here _ rfl) rfl (by simp))) Li.flat_one (by omega) (by omega) ?_; intro b' a' cap' w8 h2 h3 h4 h5; (have HP := Lib.hid (HQ.out.next hlt HX.out.1 HX.out.2.1 HX.out.2.2.1 (below_alloc _ _) h2 h3 h4)); clear h2 h3 h4 h5)
          go_roundw
          case rel => exact ⟨L.length + 1, r2, e2, L ++ [y], b', a', cap', by omega, by simp, by go_num, by go_num, HP.out⟩
          case measure => simp [intOf]; omega
        · have d4 := int_nbeq he
          have HE := Lib.hid (HQ.out.end_ (fun h => absurd h he))
          obtain ⟨at_, _, hB, _⟩ := HQ.out.rr
          obtain ⟨c0, c1, c2, _⟩ := cells3 hB
          clear hB he
          go_wp2_with fail
          go_ret
          exact ⟨L, r, e', gb, ga, gc, by rw [hL]; rfl, HQ.out.own, HQ.out.lo, HQ.out.rr, HQ.out.kept, HE.out⟩
      · have d3 : decide ((k : Int) < n) = false := decide_eq_false hlt
        have HE := Lib.hid (HQ.out.end_ (fun _ => by omega))
        go_wp2_with fail
        go_ret
        exact ⟨L, r, e', gb, ga, gc, by rw [hL]; rfl, HQ.out.own, HQ.out.lo, HQ.out.rr, HQ.out.kept, HE.out⟩
  have d2 : decide (most < n) = false := decide_eq_false g1
  have HQ := Lib.hid (HNEAR.out (by omega) (by omega))
  clear HNONE HNEAR HFAR HNO HR HRK HB
  go_wp2_with fail
  go_loopw [6, 7] (fun s i wr => ∃ (k : Nat) (r : List Nat) (e' : Int) (L : List E) (gb : Nat) (ga : Option Addr) (gc : Nat), k ≤ n.toNat ∧ L.length = k ∧ s = .slice ga k gc ∧ i = .int .i64 k ∧ Hid (Rq w br b a cap F l e most n q0 k r e' L gb ga gc wr)) (fun _ i _ => n.toNat - (intOf i).toNat)
  case atStart => exact ⟨0, _, _, [], w.heap.size, none, 0, Nat.zero_le _, rfl, rfl, rfl, HQ.out⟩
  case round =>
    clear HQ
    obtain ⟨k, r, e', L, gb, ga, gc, hk, hL, rfl, rfl, HQ⟩ := hrel
    by_cases hlt : (k : Int) < n
    · have d3 : decide ((k : Int) < n) = true := decide_eq_true hlt
      by_cases he : e' = 0
      · subst he
        have hn1 : n ≤ 100000 := by have := (rdUp_int (HQ.out.hdr rfl).2).2.2; omega
        have HE := Lib.hid (Ent_rt HQ.out.rr hF)
        obtain ⟨at_, _, hB, _⟩ := HQ.out.rr
        obtain ⟨c0, c1, c2, _⟩ := cells3 hB
        clear hB
        subst hL
        go_wp2_with fail
        refine HE.out.mono ?_
        rintro x w3 ⟨y, r2, e2, rfl, h1, k1, hb⟩
        have HX : Hid (RR w3 br b a cap F r2 e2 ∧ Kept (Only br) wr w3 ∧ Rb cEnt r 0 y r2 e2 ∧ Li.OwnL 70 w3 gb ga gc L) := ⟨h1, k1, hb, OwnC.kept HQ.out.own k1 (fun _ e => by have e : gb = br := e; have := HQ.out.lo; have := HQ.out.lbr; omega)⟩
        clear h1 k1 hb HE c0 c1 c2
        go_wp2_with (at_builtin; refine wpList_append_cells rfl _ _ _ rfl 70 16 _ _ 152 Tryz.underlying22 rfl rfl rfl rfl rfl gb ga gc L.length (Li.flat L) rfl (OwnC.kept HX.out.2.2.2 ((Kept.refl Mem.None _).alloc _) (fun _ h => h)) _ 1 1 _ rfl (Li.ListAt.src (Li.lit_list (L := [y]) (alloc_here _ rfl) rfl (by simp))) Li.flat_one (by omega) (by omega) ?_; intro b' a' cap' w8 h2 h3 h4 h5; (have HP := Lib.hid (HQ.out.next hlt HX.out.1 HX.out.2.1 HX.out.2.2.1 (below_alloc _ _) h2 h3 h4)); clear h2 h3 h4 h5)
        go_roundw
        case rel => exact ⟨L.length + 1, r2, e2, L ++ [y], b', a', cap', by omega, by simp, by go_num, by go_num, HP.out⟩
        case measure => simp [intOf]; omega
      · have d4 := int_nbeq he
        have HE := Lib.hid (HQ.out.end_ (fun h => absurd h he))
        obtain ⟨at_, _, hB, _⟩ := HQ.out.rr
        obtain ⟨c0, c1, c2, _⟩ := cells3 hB
        clear hB he
        go_wp2_with fail
        go_ret
        exact ⟨L, r, e', gb, ga, gc, by rw [hL]; rfl, HQ.out.own, HQ.out.lo, HQ.out.rr, HQ.out.kept, HE.out⟩
    · have d3 : decide ((k : Int) < n) = false := decide_eq_false hlt
      have HE := Lib.hid (HQ.out.end_ (fun _ => by omega))
      go_wp2_with fail
      go_ret
      exact ⟨L, r, e', gb, ga, gc, by rw [hL]; rfl, HQ.out.own, HQ.out.lo, HQ.out.rr, HQ.out.kept, HE.out⟩
end Go.Proofs.YtaengjgmchpabaaGreat.Wr
end
section
/- The reference's readers: a mark. -/
namespace Go.Proofs.YtaengjgmchpabaaGreat.Wr
open Go Go.RowKit Vl Kv Ss Cn Mem Lg Nm
attribute [local go_sem] Nm.run_bits Nm.run_frombits run_store_float
theorem mark_nil : cMark.rd [] = none := rfl
theorem mark_big {y : Nat} {r : List Nat} (h : 1 < y) : cMark.rd (y :: r) = none := by
  show Pk.rdMark (y :: r) = none
  unfold Pk.rdMark
  simp only
  rw [if_pos h]
theorem mark_yes {y : Nat} {r : List Nat} (h : ¬ 1 < y) : cMark.rd (y :: r) = some (y == 1, r) := by
  show Pk.rdMark (y :: r) = _
  unfold Pk.rdMark
  simp only
  rw [if_neg h]
set_option maxHeartbeats 3200000 in
set_option maxRecDepth 100000 in
theorem Mark_rt {w : World} {br b : Nat} {a : Option Addr} {cap : Nat} {F l : List Nat} {e : Int} (h : RR w br b a cap F l e) (hF : F.length ≤ 100000) :
    Calls Tryz.prog 57 #[.pointer (some ⟨br, 0, none⟩)] w (Rtold cMark (fun y => .bool y) br b a cap F l e w) := by
  have HRR := Lib.hid h
  obtain ⟨at_, ha, hB, hs, h8, hne, h0, h1⟩ := h
  obtain ⟨c0, c1, c2, f0, f1, f2⟩ := cells3 hB
  by_cases he : e = 0
  case neg =>
    have d1 : (e != 0) = true := by simpa using he
    have HE := Lib.hid he
    clear h0 h1 hs h8 hne hB ha he
    go_enter Tryz.func57, Tryz.ntmps57
    go_wp2_with fail
    go_ret
    exact ⟨false, l, e, rfl, HRR.out, Kept.refl _ _, .inr ⟨HE.out, fun h => absurd h HE.out⟩⟩
  subst he
  obtain rfl := (h0 rfl).symm
  have HB := Lib.hid hB
  have HS := Lib.hid hs
  have H8 := Lib.hid h8
  have HNE := Lib.hid hne
  unfold RBox at hB
  clear hB hs h8 hne h0 h1
  have HN : Hid (∀ wr, RBox wr br a cap F.length at_ 0 → Kept (Only br) w wr → cMark.rd (F.drop at_) = none → Calls Tryz.prog 28 #[.pointer (some ⟨br, 0, none⟩), .int .i64 3] wr fun x w' => x = .returned (.tuple #[]) ∧ Rtold cMark (fun y => .bool y) br b a cap F (F.drop at_) 0 w (.returned (.bool false)) w') := fun wr hb hk hd => by
    refine (refNone_any hb 3).mono ?_
    rintro x w' ⟨rfl, hb2, hk2⟩
    have hb3 : RBox w' br a cap F.length at_ 3 := hb2
    exact ⟨rfl, false, [], 3, rfl, RR.fell hb3 ha HS.out H8.out HNE.out (hk.trans hk2) (by decide), hk.trans hk2, .inr ⟨by decide, fun _ => hd⟩⟩
  by_cases hlt : at_ < F.length
  case neg =>
    have HD : Hid (cMark.rd (F.drop at_) = none) := Lib.hid (by rw [List.drop_eq_nil_of_le (by omega)]; rfl)
    have d1 : decide (F.length ≤ at_) = true := decide_eq_true (by omega)
    clear hlt
    go_enter Tryz.func57, Tryz.ntmps57
    go_wp2_with fail
    go_quiet (fail)
    go_wp2_with (first | (go_at_call 28; refine Calls.mono (HN.out _ (by exact HB.out) (by exact (Kept.refl (Only br) w).drewN _) HD.out) ?_; rintro x w' ⟨rfl, ht⟩))
    go_ret
    exact ht
  have d1 : decide (F.length ≤ at_) = false := decide_eq_false (by omega)
  obtain ⟨off, rfl, hc⟩ := HS.out.at_ (by omega)
  have hcell := hc at_ hlt
  have hd0 := Lib.hid (Pk.drop_get hlt)
  have hy := H8.out.get at_
  have hbr : b ≠ br := HNE.out (fun e => by rw [e] at hlt; exact absurd hlt (Nat.not_lt_zero _))
  generalize F.getD at_ 0 = y at *
  clear hc
  by_cases y1 : 1 < y
  · have HD : Hid (cMark.rd (F.drop at_) = none) := Lib.hid (by rw [hd0.out]; exact mark_big y1)
    have d2 : decide (1 < y) = true := decide_eq_true (by omega)
    have d3 : decide ((1 : Int) < (y : Int)) = true := decide_eq_true (by omega)
    clear y1
    go_enter Tryz.func57, Tryz.ntmps57
    go_wp2_with fail
    go_quiet (fail)
    go_wp2_with (first | (go_at_call 28; refine Calls.mono (HN.out _ (by exact HB.out) (by exact (Kept.refl (Only br) w).drewN _) HD.out) ?_; rintro x w' ⟨rfl, ht⟩))
    go_ret
    exact ht
  have HD : Hid (cMark.rd (F.drop at_) = some (y == 1, F.drop (at_ + 1))) := Lib.hid (by rw [hd0.out]; exact mark_yes y1)
  have d2 : decide (1 < y) = false := decide_eq_false (by omega)
  have d3 : decide ((1 : Int) < (y : Int)) = false := decide_eq_false (by omega)
  have hq : ((y : Int) == 1) = (y == 1) := by
    by_cases h1 : y = 1
    · subst h1; rfl
    · rw [beq_eq_false_iff_ne.2 h1]; exact beq_eq_false_iff_ne.2 (by omega)
  obtain ⟨m, hm⟩ : ∃ m : Nat, m = at_ + 1 := ⟨_, rfl⟩
  have e1 : (at_ : Int) + 1 = (m : Int) := by omega
  have e2 : IntKind.i64.wrap (m : Int) = (m : Int) := by simp [IntKind.wrap, IntKind.bits, IntKind.signed]; omega
  have e3 : (m : Int) - 1 = (at_ : Int) := by omega
  have e4 : IntKind.i64.wrap (at_ : Int) = (at_ : Int) := by simp [IntKind.wrap, IntKind.bits, IntKind.signed]; omega
  have HM := Lib.hid hm
  clear y1 hm
  go_enter Tryz.func57, Tryz.ntmps57
  go_wp2_with fail
  go_quiet (fail)
  go_wp2_with fail
  go_quiet (fail)
  go_wp2_with fail
  go_ret
  refine ⟨y == 1, F.drop (at_ + 1), 0, rfl, ⟨m, by have := HM.out; omega, ?_, ?_, H8.out, HNE.out, fun _ => by rw [HM.out], fun h => absurd rfl h⟩, ?_, .inl ⟨rfl, rfl, HD.out⟩⟩
  · exact Pk.heap_set (w := w.drewN _) HB.out 1 _
  · exact HS.out.kept ((((Kept.refl (Only br) w).drewN _).setAt (.inl rfl) 1 _).drewN _) (fun hF hb => HNE.out hF hb)
  · exact (((Kept.refl (Only br) w).drewN _).setAt (.inl rfl) 1 _).drewN _
end Go.Proofs.YtaengjgmchpabaaGreat.Wr
end
section
/- Cut out of WireR8 so that every seat fills it. -/
namespace Go.Proofs.YtaengjgmchpabaaGreat.Wr
open Go Go.RowKit Vl Kv Ss Cn Mem Lg Nm
attribute [local go_sem] Nm.run_bits Nm.run_frombits run_store_float
variable {w w' : World} {rb br bs : Nat} {l : List Nat}
/-- bytes of a call's own, behind block g -/
structure Pc (g : Nat) (W : World) (b : Nat) (a : Option Addr) (cap : Nat) (t : List Nat) : Prop where
  own : OwnB 5 W b a cap t
  hi : g < b
/-- entries of a call's own, behind block g -/
structure Pe (g : Nat) (W : World) (b : Nat) (a : Option Addr) (cap : Nat) (L : List E) : Prop where
  own : Li.OwnL 70 W b a cap L
  hi : g < b
variable {g k b cap : Nat} {a : Option Addr} {t : List Nat} {L : List E} {W W' : World}
theorem Pc.call (h : Pc g W b a cap t) (hk : Kept (Only br) W W') (hbr : br ≤ g) : Pc g W' b a cap t := ⟨h.own.kept hk (fun _ e => by have e : b = br := e; have := h.hi; omega), h.hi⟩
theorem Pc.els (h : Pc g W b a cap t) (x : Bh.Else k W W') (hk : k ≤ g) : Pc g W' b a cap t := ⟨ownB_else h.own x (by have := h.hi; omega), h.hi⟩
theorem Pe.call (h : Pe g W b a cap L) (hk : Kept (Only br) W W') (hbr : br ≤ g) : Pe g W' b a cap L := ⟨OwnC.kept h.own hk (fun _ e => by have e : b = br := e; have := h.hi; omega), h.hi⟩
theorem Pe.els (h : Pe g W b a cap L) (x : Bh.Else k W W') (hk : k ≤ g) : Pe g W' b a cap L := ⟨ownL_else h.own x (by have := h.hi; omega), h.hi⟩
theorem Pc.beh (h : Pc g W b a cap t) (hb : Beh W W') : Pc g W' b a cap t := ⟨h.own.kept (kept_beh hb) (fun _ h => h), h.hi⟩
theorem Pe.beh (h : Pe g W b a cap L) (hb : Beh W W') : Pe g W' b a cap L := ⟨Li.OwnL.kept h.own hb, h.hi⟩
end Go.Proofs.YtaengjgmchpabaaGreat.Wr
end
section
/- A region that draws its order, walked by hand: loads out of blocks of the call's own are taken first, allocs and stores of whole structs are steps with worlds of their own. For any program. -/
namespace Go.Proofs.YtaengjgmchpabaaGreat.Bh
open Go Go.RowKit
theorem want_all {o : Oper} {y : Nat → Option Bool} (h : o.guard = none) : Region.wanted o y = true := by simp [Region.wanted, h]
/-- a load of a whole struct out of the block i -/
theorem yif_load_bx {P : Program} {ops : Array Oper} {S : World → Prop} {o : Oper} {a : Go.Act} {w0 : World} {l : List Obj} (i : Nat) (hS : ∀ w, S w → Bx w0 l w) {ty : TypeId} {d : TypeDesc} (hu : P.underlying ty = some d) {t : TypeId} {cs : Array Value} (hl : l[i]? = some (.cells cs t))
    {x : Operand} (hgd : o.guard = none) (ho : o.op = .load ty x) (hx : a.eval x = .pointer (some ⟨w0.heap.size + i, 0, none⟩))
    (hd : (match d with | .struct _ | .array _ _ => true | _ => false) = true) (hi : (P.info? ty).map (·.size) = some cs.size) : YieldsIf P ops S o (.agg cs) a :=
  .inl ⟨want_all hgd, fun w hw => by
    unfold execOp
    simp only [ho, hx, Instr.loadAt, Instr.sureAddr, Sem.run_bind, Sem.run_pure, Result.andThen_ok, run_loadVar_row w _ t ty cs (0, 0) d ((hS w hw).box i _ hl) hu hd hi]⟩
/-- a whole struct stored into the block i -/
theorem step_store_bx {P : Program} {y0 : Nat → Option Bool} {o : Oper} {a : Go.Act} {w0 w : World} {l : List Obj} {K : Go.Act → World → Prop} {Q : Exit → Go.Act → World → Prop} {E : Prop} (n i : Nat) (HB : Bx w0 l w) {t : TypeId} {old : Array Value} (hl : l[i]? = some (.cells old t))
    {ty : TypeId} {x y : Operand} {cells : Array Value} (hgd : o.guard = none) (ho : o.op = .store ty x y)
    (hx : a.eval x = .pointer (some ⟨w0.heap.size + i, 0, none⟩)) (hy : a.eval y = .agg cells) (hn : old.size = n) (hi : (P.info? ty).map (·.size) = some n) (hc : cells.size = n) (h1 : cells.toList.all (·.oneCell') = true)
    (h : ∀ w', Bx w0 (l.set i (.cells cells t)) w' → Else (w0.heap.size + i) w w' → K (a.put o.dst undef) w') : if Region.wanted o y0 = true then Oper.wp P o a w K Q else E := by
  rw [if_pos (want_all hgd)]
  exact wp_store_row ty x y ho _ cells hx hy t old (HB.box i _ hl) (hi.trans (by rw [hc])) (by rw [hn, hc]) (by rw [← h1, Array.all_toList]) (h _ (HB.row i rfl hl cells) (Else.row _ _ _))
/-- a new block -/
theorem step_alloc_bx {P : Program} {y0 : Nat → Option Bool} {o : Oper} {a : Go.Act} {w : World} {K : Go.Act → World → Prop} {Q : Exit → Go.Act → World → Prop} {E : Prop} (hgd : o.guard = none) (ob : Obj)
    (hrun : (execOp a.eval o).run P w = .ok (.value (.pointer (some ⟨w.heap.size, 0, none⟩))) (w.alloc ob))
    (h : ∀ w', Bx w [ob] w' → K (a.put o.dst (.pointer (some ⟨w.heap.size, 0, none⟩))) w') : if Region.wanted o y0 = true then Oper.wp P o a w K Q else E := by
  rw [if_pos (want_all hgd)]
  unfold Oper.wp
  rw [hrun, Oper.upon_value]
  exact h _ (Bx.one w ob)
theorem Bx.els {w0 w w' : World} {l : List Obj} {g : Nat} (h : Bx w0 l w) (x : Else g w w') (hg : w0.heap.size + l.length ≤ g) : Bx w0 l w' :=
  ⟨Below.trans h.beh (⟨x.os, x.tape, x.output, Nat.le_of_eq x.size.symm, fun k hk => x.block k (by omega)⟩ : Below w0.heap.size w w'), fun i o ho => by
    have hlt : i < l.length := (List.getElem?_eq_some_iff.1 ho).1
    rw [x.block _ (by omega)]
    exact h.box i o ho⟩
end Go.Proofs.YtaengjgmchpabaaGreat.Bh
end
section
/- More for a region walked by hand: loads out of one block, of a call's first block alone. For any program. -/
namespace Go.Proofs.YtaengjgmchpabaaGreat.Bh
open Go Go.RowKit
/-- a load of a whole struct out of a block -/
theorem yif_load_at {P : Program} {ops : Array Oper} {S : World → Prop} {o : Oper} {a : Go.Act} {g : Nat} {t : TypeId} {cs : Array Value} (hS : ∀ w, S w → w.heap[g]? = some (.cells cs t)) {ty : TypeId} {d : TypeDesc} (hu : P.underlying ty = some d)
    {x : Operand} (hgd : o.guard = none) (ho : o.op = .load ty x) (hx : a.eval x = .pointer (some ⟨g, 0, none⟩))
    (hd : (match d with | .struct _ | .array _ _ => true | _ => false) = true) (hi : (P.info? ty).map (·.size) = some cs.size) : YieldsIf P ops S o (.agg cs) a :=
  .inl ⟨want_all hgd, fun w hw => by
    unfold execOp
    simp only [ho, hx, Instr.loadAt, Instr.sureAddr, Sem.run_bind, Sem.run_pure, Result.andThen_ok, run_loadVar_row w _ t ty cs (0, 0) d (hS w hw) hu hd hi]⟩
/-- the first block of a call's own -/
theorem Bx.head {w W : World} {o : Obj} {l : List Obj} (h : Bx w (o :: l) W) : Bx w [o] W := ⟨h.beh, fun i x hx => by
  match i, hx with
  | 0, hx => exact h.box 0 x hx⟩
/-- one cell of a block stored -/
theorem step_store1_bk {P : Program} {y0 : Nat → Option Bool} {o : Oper} {a : Go.Act} {w0 w : World} {l : List Obj} {K : Go.Act → World → Prop} {Q : Exit → Go.Act → World → Prop} {E : Prop} (i j : Nat) (HB : Bx w0 l w) {t : TypeId} {old : Array Value} (hl : l[i]? = some (.cells old t)) (hj : decide (j < old.size) = true)
    {ty : TypeId} {x y : Operand} {v : Value} (hgd : o.guard = none) (ho : o.op = .store ty x y)
    (hx : a.eval x = .pointer (some ⟨w0.heap.size + i, j, none⟩)) (hy : a.eval y = v) (hone : v.oneCell' = true) (hi : (P.info? ty).map (·.size) = some 1)
    (h : ∀ w', Bx w0 (l.set i (.cells (old.setIfInBounds j v) t)) w' → Else (w0.heap.size + i) w w' → K (a.put o.dst undef) w') : if Region.wanted o y0 = true then Oper.wp P o a w K Q else E := by
  rw [if_pos (want_all hgd)]
  have hc : v.cells = #[v] := by cases v <;> first | rfl | cases hone
  have hb := HB.box i _ hl
  have hjj := of_decide_eq_true hj
  have e : (storeVar ty ⟨w0.heap.size + i, j, none⟩ v).run P w = .ok () (w.setCell ⟨w0.heap.size + i, j, none⟩ v) := by
    have h2 : storeVar ty ⟨w0.heap.size + i, j, none⟩ v = storeVar ty ⟨w0.heap.size + i, j, none⟩ (.agg #[v]) := by
      unfold storeVar
      rw [hc]
      rfl
    rw [h2, run_storeVar_mid w (w0.heap.size + i) j ty #[v] (fun k hk => by
      obtain rfl : k = 0 := by simp at hk; omega
      refine ⟨?_, frozen_of hb _⟩
      rw [cell_of_row w _ _ _ _ _ hb]
      simp [hjj]) (by simpa using hi) (by simp [hone])]
    rfl
  unfold Oper.wp execOp
  simp only [ho, hx, hy, Instr.storeAt, Instr.sureAddr, Sem.run_bind, Sem.run_pure, Result.andThen_ok, e]
  exact h _ (HB.set1 i j v hl) (Else.set _ _ _ _)
end Go.Proofs.YtaengjgmchpabaaGreat.Bh
end
section
/- Messages in memory. No program's function. -/
namespace Go.Proofs.YtaengjgmchpabaaGreat.Wr
open Go Go.RowKit Vl Kv Ss Cn Mem Lg Li
/-- where a message's parts lie; n: how many inner ones it has -/
structure Mp where
  ea : Option Addr
  ec : Nat
  sb : Nat
  sa : Option Addr
  sc : Nat
  ia : Option Addr
  n : Nat
  ic : Nat
/-- a message as it lies in memory, but for its inner ones -/
abbrev Mr := Fl × Mp
def Fl.zero : Fl := ⟨0, 0, 0, 0, 0, 0, 0, 0, false, [], C.zero, []⟩
def Mp.none : Mp := ⟨Option.none, 0, 0, Option.none, 0, Option.none, 0, 0⟩
def Mr.zero : Mr := (Fl.zero, Mp.none)
instance : Inhabited Mr := ⟨Mr.zero⟩
@[reducible] def Mr.val (x : Mr) : Value := .agg #[.int .i64 x.1.kind, .int .i64 x.1.from_, .int .i64 x.1.to, .int .i64 x.1.term, .int .i64 x.1.index, .int .i64 x.1.logt, .int .i64 x.1.commit, .int .i64 x.1.round, .bool x.1.yes, .slice x.2.ea x.1.ents.length x.2.ec, .int .i64 x.1.conf.f, .int .i64 x.1.conf.w, .int .i64 x.1.conf.l, .int .i64 x.1.conf.x, .slice x.2.sa x.1.snap.length x.2.sc, .slice x.2.ia x.2.n x.2.ic]
def Mr.cells (x : Mr) : List Value := [.int .i64 x.1.kind, .int .i64 x.1.from_, .int .i64 x.1.to, .int .i64 x.1.term, .int .i64 x.1.index, .int .i64 x.1.logt, .int .i64 x.1.commit, .int .i64 x.1.round, .bool x.1.yes, .slice x.2.ea x.1.ents.length x.2.ec, .int .i64 x.1.conf.f, .int .i64 x.1.conf.w, .int .i64 x.1.conf.l, .int .i64 x.1.conf.x, .slice x.2.sa x.1.snap.length x.2.sc, .slice x.2.ia x.2.n x.2.ic]
def Mr.obj (x : Mr) : Obj := .cells #[.int .i64 x.1.kind, .int .i64 x.1.from_, .int .i64 x.1.to, .int .i64 x.1.term, .int .i64 x.1.index, .int .i64 x.1.logt, .int .i64 x.1.commit, .int .i64 x.1.round, .bool x.1.yes, .slice x.2.ea x.1.ents.length x.2.ec, .int .i64 x.1.conf.f, .int .i64 x.1.conf.w, .int .i64 x.1.conf.l, .int .i64 x.1.conf.x, .slice x.2.sa x.1.snap.length x.2.sc, .slice x.2.ia x.2.n x.2.ic] 28
instance : Row Mr where
  k := 16
  cells := Mr.cells
  pos := by decide
  len := fun _ => rfl
  one := fun x u hu => by
    simp only [Mr.cells, List.mem_cons, List.not_mem_nil, or_false] at hu
    rcases hu with rfl | rfl | rfl | rfl | rfl | rfl | rfl | rfl | rfl | rfl | rfl | rfl | rfl | rfl | rfl | rfl <;> rfl
/-- what it points to, but for the inner ones -/
structure FlAt (w : World) (x : Mr) : Prop where
  ents : EntAt w x.2.ea x.2.ec x.1.ents
  snap : Mem.Src w x.2.sb x.2.sa x.2.sc x.1.snap
theorem FlAt.on {w w' : World} {x : Mr} (h : FlAt w x) (hb : Below w.heap.size w w') : FlAt w' x := ⟨h.ents.below hb, h.snap.kept (Kept.of_below hb) (fun _ h => h)⟩
@[reducible] def MsgsAt (w : World) (a : Option Addr) (cap : Nat) (L : List Mr) : Prop := ListAt w a cap L
/-- the cells of a message of a list -/
structure MrCells (w : World) (b o : Nat) (x : Mr) : Prop where
  c0 : w.cell? ⟨b, o, none⟩ = some (.int .i64 x.1.kind)
  c1 : w.cell? ⟨b, o + 1, none⟩ = some (.int .i64 x.1.from_)
  c2 : w.cell? ⟨b, o + 2, none⟩ = some (.int .i64 x.1.to)
  c3 : w.cell? ⟨b, o + 3, none⟩ = some (.int .i64 x.1.term)
  c4 : w.cell? ⟨b, o + 4, none⟩ = some (.int .i64 x.1.index)
  c5 : w.cell? ⟨b, o + 5, none⟩ = some (.int .i64 x.1.logt)
  c6 : w.cell? ⟨b, o + 6, none⟩ = some (.int .i64 x.1.commit)
  c7 : w.cell? ⟨b, o + 7, none⟩ = some (.int .i64 x.1.round)
  c8 : w.cell? ⟨b, o + 8, none⟩ = some (.bool x.1.yes)
  c9 : w.cell? ⟨b, o + 9, none⟩ = some (.slice x.2.ea x.1.ents.length x.2.ec)
  c10 : w.cell? ⟨b, o + 10, none⟩ = some (.int .i64 x.1.conf.f)
  c11 : w.cell? ⟨b, o + 11, none⟩ = some (.int .i64 x.1.conf.w)
  c12 : w.cell? ⟨b, o + 12, none⟩ = some (.int .i64 x.1.conf.l)
  c13 : w.cell? ⟨b, o + 13, none⟩ = some (.int .i64 x.1.conf.x)
  c14 : w.cell? ⟨b, o + 14, none⟩ = some (.slice x.2.sa x.1.snap.length x.2.sc)
  c15 : w.cell? ⟨b, o + 15, none⟩ = some (.slice x.2.ia x.2.n x.2.ic)
theorem mcells_of {w : World} {b o : Nat} {x : Mr} (h : At w b o x) : MrCells w b o x :=
  ⟨h 0 _ rfl, h 1 _ rfl, h 2 _ rfl, h 3 _ rfl, h 4 _ rfl, h 5 _ rfl, h 6 _ rfl, h 7 _ rfl, h 8 _ rfl, h 9 _ rfl, h 10 _ rfl, h 11 _ rfl, h 12 _ rfl, h 13 _ rfl, h 14 _ rfl, h 15 _ rfl⟩
theorem MsgsAt.cells {w : World} {a : Option Addr} {cap : Nat} {L : List Mr} (h : MsgsAt w a cap L) (h0 : 0 < L.length) : ∃ b off, a = some ⟨b, off, none⟩ ∧ ∀ i, i < L.length → MrCells w b (off + i * 16) (L.getD i Mr.zero) := by
  obtain ⟨b, off, ha, hc⟩ := h.at_ h0
  refine ⟨b, off, ha, fun i hi => ?_⟩
  have : L.getD i Mr.zero = L[i] := by simp [hi]
  rw [this]
  exact mcells_of (hc i hi)
theorem cells16m {w : World} {b : Nat} {x : Mr} (h : w.heap[b]? = some x.obj) :
    w.cell? ⟨b, 0, none⟩ = some (.int .i64 x.1.kind) ∧ w.cell? ⟨b, 1, none⟩ = some (.int .i64 x.1.from_) ∧ w.cell? ⟨b, 2, none⟩ = some (.int .i64 x.1.to) ∧ w.cell? ⟨b, 3, none⟩ = some (.int .i64 x.1.term) ∧ w.cell? ⟨b, 4, none⟩ = some (.int .i64 x.1.index) ∧ w.cell? ⟨b, 5, none⟩ = some (.int .i64 x.1.logt) ∧ w.cell? ⟨b, 6, none⟩ = some (.int .i64 x.1.commit) ∧ w.cell? ⟨b, 7, none⟩ = some (.int .i64 x.1.round) ∧ w.cell? ⟨b, 8, none⟩ = some (.bool x.1.yes) ∧ w.cell? ⟨b, 9, none⟩ = some (.slice x.2.ea x.1.ents.length x.2.ec) ∧ w.cell? ⟨b, 10, none⟩ = some (.int .i64 x.1.conf.f) ∧ w.cell? ⟨b, 11, none⟩ = some (.int .i64 x.1.conf.w) ∧ w.cell? ⟨b, 12, none⟩ = some (.int .i64 x.1.conf.l) ∧ w.cell? ⟨b, 13, none⟩ = some (.int .i64 x.1.conf.x) ∧ w.cell? ⟨b, 14, none⟩ = some (.slice x.2.sa x.1.snap.length x.2.sc) ∧ w.cell? ⟨b, 15, none⟩ = some (.slice x.2.ia x.2.n x.2.ic) := Lg.cells16 h
/-- what a program holds of a message -/
structure FitR (f : Fl) : Prop where
  kind : In64 f.kind
  from_ : In64 f.from_
  to : In64 f.to
  term : In64 f.term
  index : In64 f.index
  logt : In64 f.logt
  commit : In64 f.commit
  round : In64 f.round
  ents : ∀ x ∈ f.ents, FitE x
  len : f.ents.length ≤ 1000
  conf : FitC f.conf
  b8 : B8 f.snap
  snap : f.snap.length ≤ 100000
theorem infoMsg : (Tryz.prog.info? 28).map (fun i => (i.zero, i.size, i.bytes)) = some (some Mr.zero.val, 16, 176) := by kernel_rfl
end Go.Proofs.YtaengjgmchpabaaGreat.Wr
end
