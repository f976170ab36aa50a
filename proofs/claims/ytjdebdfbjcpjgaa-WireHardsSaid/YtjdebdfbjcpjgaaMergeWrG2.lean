import Derived.Test.YtjdebdfbjcpjgaaMergeWrG1
import Derived.Test.YtjdebdfbjcpjgaaWireR7
import Derived.Test.YtjdebdfbjcpjgaaWireR8
import Derived.Test.YtjdebdfbjcpjgaaMergeWrF2
import Derived.Test.YtjdebdfbjcpjgaaMergeWr25
import Derived.Test.YtjdebdfbjcpjgaaMergeWr27
import Derived.Test.YtjdebdfbjcpjgaaMergeWrHv
import Derived.Test.YtjdebdfbjcpjgaaMergeWr39
import Derived.Test.YtjdebdfbjcpjgaaMergeWrIn
section
/- The reference's readers: a list of entries. -/
namespace Go.Proofs.Ytjdebdfbjcpjgaa.Wr
open Go Go.RowKit Vl Kv Ss Cn Mem Lg Nm
attribute [local go_sem] Nm.run_bits Nm.run_frombits run_store_float
/-- a list that is being read, by the reference -/
structure Rq (w : World) (br b : Nat) (a : Option Addr) (cap : Nat) (F l : List Nat) (e most n : Int) (q0 : List Nat) (k : Nat) (r : List Nat) (e' : Int) (L : List E) (gb : Nat) (ga : Option Addr) (gc : Nat) (W : World) : Prop where
  rr : RR W br b a cap F r e'
  kept : Kept (Only br) w W
  lbr : br < w.heap.size
  lb : F ≠ [] → b < w.heap.size
  own : Li.OwnL 32 W gb ga gc L
  lo : w.heap.size ≤ gb
  got : e' = 0 → (cEnt.rep k).rd q0 = some (L, r)
  hdr : e' = 0 → e = 0 ∧ rdUp most l = some (n, q0)
  bad : e' ≠ 0 → e = 0 → (cLi cEnt most).rd l = none
theorem Rq.end_ {w W : World} {br b : Nat} {a : Option Addr} {cap : Nat} {F l : List Nat} {e most n : Int} {q0 : List Nat} {k : Nat} {r : List Nat} {e' : Int} {L : List E} {gb : Nat} {ga : Option Addr} {gc : Nat} (h : Rq w br b a cap F l e most n q0 k r e' L gb ga gc W) (hk : e' = 0 → k = n.toNat) : Rb (cLi cEnt most) l e L r e' := by
  by_cases h0 : e' = 0
  · have h1 := h.hdr h0
    exact .inl ⟨h1.1, h0, cLi_yes (A := cEnt) h1.2 (by rw [← hk h0]; exact h.got h0)⟩
  · exact .inr ⟨h0, h.bad h0⟩
theorem Rq.next {w W W1 W2 W' : World} {br b : Nat} {a : Option Addr} {cap : Nat} {F l : List Nat} {e most n : Int} {q0 : List Nat} {k : Nat} {r : List Nat} {L : List E} {gb gb' : Nat} {ga ga' : Option Addr} {gc gc' : Nat} {x : E} {r2 : List Nat} {e2 : Int}
    (h : Rq w br b a cap F l e most n q0 k r 0 L gb ga gc W) (hk : (k : Int) < n) (hr : RR W1 br b a cap F r2 e2) (hk1 : Kept (Only br) W W1) (hb : Rb cEnt r 0 x r2 e2) (hW : Beh W1 W2)
    (h2 : OwnC 32 16 W' gb' ga' gc' (L.length + 1) (Li.flat L ++ Li.flat [x])) (h3 : Kept (Of ga gb) W2 W') (h4 : (gb' = gb ∧ (ga' = none ∨ ga ≠ none)) ∨ W2.heap.size ≤ gb') :
    Rq w br b a cap F l e most n q0 (k + 1) r2 e2 (L ++ [x]) gb' ga' gc' W' := by
  have hz := h.kept.size
  have hz1 := hk1.size
  have hz2 := hW.size
  have hof : ∀ k, Of ga gb k → w.heap.size ≤ k := fun k e => by have := e.2; have := h.lo; omega
  have h0 := h.hdr rfl
  have hg := h.got rfl
  refine ⟨(hr.kept (kept_beh hW) (fun h => h) (fun _ h => h)).kept h3 (fun e => by have := hof _ e; have := h.lbr; omega) (fun hr e => by have := hof _ e; have := h.lb hr; omega), ?_, h.lbr, h.lb, ?_, ?_, fun he => ?_, fun _ => h0, fun he _ => ?_⟩
  · exact ((h.kept.trans hk1).trans (kept_beh hW).ofNone).trans' h3 (fun k e => .inr (hof k e))
  · show OwnC _ 16 W' gb' ga' gc' (L ++ [x]).length (Li.flat (L ++ [x]))
    rw [List.length_append, Li.flat_append]
    exact h2
  · rcases h4 with ⟨rfl, _⟩ | h4
    · exact h.lo
    · omega
  · rcases hb with ⟨_, _, hd⟩ | ⟨h1, _⟩
    · exact rep_snoc hg hd
    · exact absurd he h1
  · rcases hb with ⟨_, h1, _⟩ | ⟨_, hd⟩
    · exact absurd h1 he
    · exact cLi_no2 h0.2 (rep_stop hg (hd rfl) (by omega))
/-- what is told of a list -/
def Lrt (most : Int) (br b : Nat) (a : Option Addr) (cap : Nat) (F l : List Nat) (e : Int) (w : World) (x : Ending) (w' : World) : Prop :=
  ∃ (L : List E) (r : List Nat) (e' : Int) (gb : Nat) (ga : Option Addr) (gc : Nat), x = .returned (.slice ga L.length gc) ∧ Li.OwnL 32 w' gb ga gc L ∧ w.heap.size ≤ gb ∧ RR w' br b a cap F r e' ∧ Kept (Only br) w w' ∧ Rb (cLi cEnt most) l e L r e'
set_option maxHeartbeats 6400000 in
set_option maxRecDepth 100000 in
theorem List_rt {w : World} {br b : Nat} {a : Option Addr} {cap : Nat} {F l : List Nat} {e : Int} (h : RR w br b a cap F l e) (hF : F.length ≤ 100000) (most : Int) (hm : most ≤ 100000) :
    Calls Try.prog 55 #[.pointer (some ⟨br, 0, none⟩), .int .i64 most] w (Lrt most br b a cap F l e w) := by
  have HI := Lib.hid (Int_rt h hF)
  have HL0 := Lib.hid (show br < w.heap.size ∧ (F ≠ [] → b < w.heap.size) from ⟨h.lt1, h.lt2⟩)
  clear h
  go_enter Try.func55, Try.ntmps55
  go_wp2_with fail
  refine HI.out.mono ?_
  rintro x w1 ⟨n, q0, e1, rfl, h1, k1, hb⟩
  have HR := Lib.hid h1
  have HRK := Lib.hid k1
  have HB := Lib.hid hb
  have HFAR : Hid (¬ (0 ≤ n ∧ n ≤ most) → e = 0 → (cLi cEnt most).rd l = none) := fun hn h0 => by
    rcases hb with ⟨_, _, hd⟩ | ⟨_, hd⟩
    · exact cLi_no1 (rdUp_far hd hn)
    · exact cLi_no1 (rdUp_no (hd h0))
  have HNEAR : Hid (0 ≤ n → n ≤ most → Rq w br b a cap F l e most n q0 0 q0 e1 [] w.heap.size none 0 w1) := fun g0 g1 =>
    ⟨h1, k1, HL0.out.1, HL0.out.2, OwnC.nil _ _ _ _, Nat.le_refl _, fun _ => rep_zero _, fun he => by
      rcases hb with ⟨h0, _, hd⟩ | ⟨h1, _⟩
      · exact ⟨h0, rdUp_yes hd g0 g1⟩
      · exact absurd he h1, fun he h0 => by
      rcases hb with ⟨_, h1, _⟩ | ⟨_, hd⟩
      · exact absurd h1 he
      · exact cLi_no1 (rdUp_no (hd h0))⟩
  have HNONE : Hid (∀ w2, RR w2 br b a cap F [] (Pk.keep e1 3) → Kept (Only br) w1 w2 → ¬ (0 ≤ n ∧ n ≤ most) → Rq w br b a cap F l e most n q0 0 [] (Pk.keep e1 3) [] w.heap.size none 0 w2) := fun w2 hr hk hn =>
    ⟨hr, k1.trans hk, HL0.out.1, HL0.out.2, OwnC.nil _ _ _ _, Nat.le_refl _, fun he => absurd he (keep_ne (by decide)), fun he => absurd he (keep_ne (by decide)), fun _ => HFAR.out hn⟩
  have HNO := Lib.hid (refNone_any2 h1 3 (by decide))
  clear h1 k1 hb HI HL0
  by_cases g0 : n < 0
  case pos =>
    have d1 : decide (n < 0) = true := decide_eq_true g0
    have hfar : ¬ (0 ≤ n ∧ n ≤ most) := by omega
    go_wp2_with (go_at_call 84; refine Calls.mono HNO.out ?_; rintro x w2 ⟨rfl, hr, hk⟩)
    have HQ := Lib.hid (HNONE.out _ hr hk hfar)
    clear hr hk HNONE HNEAR HFAR HNO HR HRK HB hfar
    generalize Pk.keep e1 3 = e2 at *
    go_loopw [6, 7] (fun s i wr => ∃ (k : Nat) (r : List Nat) (e' : Int) (L : List E) (gb : Nat) (ga : Option Addr) (gc : Nat), k ≤ n.toNat ∧ L.length = k ∧ s = .slice ga k gc ∧ i = .int .i64 k ∧ Hid (Rq w br b a cap F l e most n q0 k r e' L gb ga gc wr)) (fun _ i _ => n.toNat - (intOf i).toNat)
    case atStart => exact ⟨0, _, _, [], w.heap.size, none, 0, Nat.zero_le _, rfl, rfl, rfl, HQ.out⟩
    case round =>
      clear HQ
      obtain ⟨k, r, e', L, gb, ga, gc, hk, hL, rfl, rfl, HQ⟩ := hrel
      by_cases hlt : (k : Int) < n
      · exact absurd hlt (by omega)
      · have d3 : decide ((k : Int) < n) = false := decide_eq_false hlt
        have HE := Lib.hid (HQ.out.end_ (fun _ => by omega))
        go_wp2_with fail
        go_ret
        exact ⟨L, r, e', gb, ga, gc, by rw [hL]; rfl, HQ.out.own, HQ.out.lo, HQ.out.rr, HQ.out.kept, HE.out⟩
  have d1 : decide (n < 0) = false := decide_eq_false g0
  by_cases g1 : most < n
  case pos =>
    have d2 : decide (most < n) = true := decide_eq_true g1
    have hfar : ¬ (0 ≤ n ∧ n ≤ most) := by omega
    go_wp2_with (go_at_call 84; refine Calls.mono HNO.out ?_; rintro x w2 ⟨rfl, hr, hk⟩)
    have HQ := Lib.hid (HNONE.out _ hr hk hfar)
    clear hr hk HNONE HNEAR HFAR HNO HR HRK HB hfar
    generalize Pk.keep e1 3 = e2 at *
    go_loopw [6, 7] (fun s i wr => ∃ (k : Nat) (r : List Nat) (e' : Int) (L : List E) (gb : Nat) (ga : Option Addr) (gc : Nat), k ≤ n.toNat ∧ L.length = k ∧ s = .slice ga k gc ∧ i = .int .i64 k ∧ Hid (Rq w br b a cap F l e most n q0 k r e' L gb ga gc wr)) (fun _ i _ => n.toNat - (intOf i).toNat)
    case atStart => exact ⟨0, _, _, [], w.heap.size, none, 0, Nat.zero_le _, rfl, rfl, rfl, HQ.out⟩
    case round =>
      clear HQ
      obtain ⟨k, r, e', L, gb, ga, gc, hk, hL, rfl, rfl, HQ⟩ := hrel
      by_cases hlt : (k : Int) < n
      · have d3 : decide ((k : Int) < n) = true := decide_eq_true hlt
        by_cases he : e' = 0
        · subst he
          have hn1 : n ≤ 100000 := by have := (rdUp_int (HQ.out.hdr rfl).2).2.2; omega
          have HE := Lib.hid (Ent_rt HQ.out.rr hF)
          obtain ⟨at_, _, hB, _⟩ := HQ.out.rr
          obtain ⟨c0, c1, c2, _⟩ := cells3 hB
          clear hB
          subst hL
          go_wp2_with fail
          refine HE.out.mono ?_
          rintro x w3 ⟨y, r2, e2, rfl, h1, k1, hb⟩
          have HX : Hid (RR w3 br b a cap F r2 e2 ∧ Kept (Only br) wr w3 ∧ Rb cEnt r 0 y r2 e2 ∧ Li.OwnL 32 w3 gb ga gc L) := ⟨h1, k1, hb, OwnC.kept HQ.out.own k1 (fun _ e => by have e : gb = br := e; have := HQ.out.lo; have := HQ.out.lbr; omega)⟩
          clear h1 k1 hb HE c0 c1 c2
          go_wp2_with (at_builtin; refine wpList_append_cells rfl _ _ _ rfl 32 16 _ _ 152 Try.underlying35 rfl rfl rfl rfl rfl gb ga gc L.length (Li.flat L) rfl (OwnC.kept HX.out.2.2.2 ((Kept.refl Mem.None _).alloc _) (fun _ h => h)) _ 1 1 _ rfl (Li.ListAt.src (Li.lit_list (L := [y]) (alloc_here _ rfl) rfl (by simp))) Li.flat_one (by omega) (by omega) ?_; intro b' a' cap' w8 h2 h3 h4 h5; (have HP := Lib.hid (HQ.out.next hlt HX.out.1 HX.out.2.1 HX.out.2.2.1 (below_alloc _ _) h2 h3 h4)); clear h2 h3 h4 h5)
          go_roundw
          case rel => exact ⟨L.length + 1, r2, e2, L ++ [y], b', a', cap', by omega, by simp, by go_num, by go_num, HP.out⟩
          case measure => simp [intOf]; omega
        · have d4 := int_nbeq he
          have HE := Lib.hid (HQ.out.end_ (fun h => absurd h he))
          obtain ⟨at_, _, hB, _⟩ := HQ.out.rr
          obtain ⟨c0, c1, c2, _⟩ := cells3 hB
          clear hB he
          go_wp2_with fail
          go_ret
          exact ⟨L, r, e', gb, ga, gc, by rw [hL]; rfl, HQ.out.own, HQ.out.lo, HQ.out.rr, HQ.out.kept, HE.out⟩
      · have d3 : decide ((k : Int) < n) = false := decide_eq_false hlt
        have HE := Lib.hid (HQ.out.end_ (fun _ => by omega))
        go_wp2_with fail
        go_ret
        exact ⟨L, r, e', gb, ga, gc, by rw [hL]; rfl, HQ.out.own, HQ.out.lo, HQ.out.rr, HQ.out.kept, HE.out⟩
  have d2 : decide (most < n) = false := decide_eq_false g1
  have HQ := Lib.hid (HNEAR.out (by omega) (by omega))
  clear HNONE HNEAR HFAR HNO HR HRK HB
  go_wp2_with fail
  go_loopw [6, 7] (fun s i wr => ∃ (k : Nat) (r : List Nat) (e' : Int) (L : List E) (gb : Nat) (ga : Option Addr) (gc : Nat), k ≤ n.toNat ∧ L.length = k ∧ s = .slice ga k gc ∧ i = .int .i64 k ∧ Hid (Rq w br b a cap F l e most n q0 k r e' L gb ga gc wr)) (fun _ i _ => n.toNat - (intOf i).toNat)
  case atStart => exact ⟨0, _, _, [], w.heap.size, none, 0, Nat.zero_le _, rfl, rfl, rfl, HQ.out⟩
  case round =>
    clear HQ
    obtain ⟨k, r, e', L, gb, ga, gc, hk, hL, rfl, rfl, HQ⟩ := hrel
    by_cases hlt : (k : Int) < n
    · have d3 : decide ((k : Int) < n) = true := decide_eq_true hlt
      by_cases he : e' = 0
      · subst he
        have hn1 : n ≤ 100000 := by have := (rdUp_int (HQ.out.hdr rfl).2).2.2; omega
        have HE := Lib.hid (Ent_rt HQ.out.rr hF)
        obtain ⟨at_, _, hB, _⟩ := HQ.out.rr
        obtain ⟨c0, c1, c2, _⟩ := cells3 hB
        clear hB
        subst hL
        go_wp2_with fail
        refine HE.out.mono ?_
        rintro x w3 ⟨y, r2, e2, rfl, h1, k1, hb⟩
        have HX : Hid (RR w3 br b a cap F r2 e2 ∧ Kept (Only br) wr w3 ∧ Rb cEnt r 0 y r2 e2 ∧ Li.OwnL 32 w3 gb ga gc L) := ⟨h1, k1, hb, OwnC.kept HQ.out.own k1 (fun _ e => by have e : gb = br := e; have := HQ.out.lo; have := HQ.out.lbr; omega)⟩
        clear h1 k1 hb HE c0 c1 c2
        go_wp2_with (at_builtin; refine wpList_append_cells rfl _ _ _ rfl 32 16 _ _ 152 Try.underlying35 rfl rfl rfl rfl rfl gb ga gc L.length (Li.flat L) rfl (OwnC.kept HX.out.2.2.2 ((Kept.refl Mem.None _).alloc _) (fun _ h => h)) _ 1 1 _ rfl (Li.ListAt.src (Li.lit_list (L := [y]) (alloc_here _ rfl) rfl (by simp))) Li.flat_one (by omega) (by omega) ?_; intro b' a' cap' w8 h2 h3 h4 h5; (have HP := Lib.hid (HQ.out.next hlt HX.out.1 HX.out.2.1 HX.out.2.2.1 (below_alloc _ _) h2 h3 h4)); clear h2 h3 h4 h5)
        go_roundw
        case rel => exact ⟨L.length + 1, r2, e2, L ++ [y], b', a', cap', by omega, by simp, by go_num, by go_num, HP.out⟩
        case measure => simp [intOf]; omega
      · have d4 := int_nbeq he
        have HE := Lib.hid (HQ.out.end_ (fun h => absurd h he))
        obtain ⟨at_, _, hB, _⟩ := HQ.out.rr
        obtain ⟨c0, c1, c2, _⟩ := cells3 hB
        clear hB he
        go_wp2_with fail
        go_ret
        exact ⟨L, r, e', gb, ga, gc, by rw [hL]; rfl, HQ.out.own, HQ.out.lo, HQ.out.rr, HQ.out.kept, HE.out⟩
    · have d3 : decide ((k : Int) < n) = false := decide_eq_false hlt
      have HE := Lib.hid (HQ.out.end_ (fun _ => by omega))
      go_wp2_with fail
      go_ret
      exact ⟨L, r, e', gb, ga, gc, by rw [hL]; rfl, HQ.out.own, HQ.out.lo, HQ.out.rr, HQ.out.kept, HE.out⟩
end Go.Proofs.Ytjdebdfbjcpjgaa.Wr
end
section
/- The reference's readers: a hard state of all bytes. -/
namespace Go.Proofs.Ytjdebdfbjcpjgaa.Wr
open Go Go.RowKit Vl Kv Ss Cn Mem Lg Nm
attribute [local go_sem] Nm.run_bits Nm.run_frombits run_store_float
theorem list_all2 {l : List Nat} (h8 : B8 l) {most : Int} (hm : (l.length : Int) ≤ most) : (cLi cEnt most).rd l = (cList cEnt (fun _ => true)).rd l := by
  cases hu : rdUp most l with
  | none =>
    rw [cLi_no1 hu, cList_rd]
    cases hd : cInt.rd l with
    | none => rw [sel_no1 hd]
    | some p =>
      obtain ⟨n, r⟩ := p
      by_cases h0 : 0 ≤ n
      · have hle := rd_le cInt h8 hd
        cases hr : (cEnt.rep n.toNat).rd r with
        | none => rw [sel_no2 hd (by rw [if_pos ⟨h0, rfl⟩]; exact hr)]
        | some p2 =>
          obtain ⟨L, q⟩ := p2
          have := rep_le (m := 2) (rd_b8 cInt h8 hd) hr cEnt_len
          rw [rdUp_yes hd h0 (by omega)] at hu
          cases hu
      · rw [sel_no2 hd (by rw [if_neg (fun e => h0 e.1)]; rfl)]
  | some p =>
    obtain ⟨n, r⟩ := p
    obtain ⟨hd, h0, h1⟩ := rdUp_int hu
    cases hr : (cEnt.rep n.toNat).rd r with
    | none => rw [cLi_no2 hu hr, cList_rd, sel_no2 hd (by rw [if_pos ⟨h0, rfl⟩]; exact hr)]
    | some p2 =>
      obtain ⟨L, q⟩ := p2
      rw [cLi_yes hu hr, cList_rd, sel_yes hd (by rw [if_pos ⟨h0, rfl⟩]; exact hr)]
theorem rr_len {w : World} {br b : Nat} {a : Option Addr} {cap : Nat} {F l : List Nat} {e : Int} (h : RR w br b a cap F l e) : l.length ≤ F.length := by
  obtain ⟨at_, _, _, _, _, _, h0, h1⟩ := h
  by_cases he : e = 0
  · rw [← h0 he, List.length_drop]; omega
  · rw [h1 he]; exact Nat.zero_le _
theorem Rb.eq {α : Type} {A B : Cod α} {l r : List Nat} {e e' : Int} {x : α} (h : Rb A l e x r e') (hE : A.rd l = B.rd l) : Rb B l e x r e' := by
  unfold Rb at *
  rw [← hE]
  exact h
theorem hard_rb {l r1 r2 r3 r4 r5 r6 r7 : List Nat} {e e1 e2 e3 e4 e5 e6 e7 n1 n2 n3 n4 : Int} {c : C} {t : List Nat} {L : List E} (h1 : Rb cInt l e n1 r1 e1) (h2 : Rb cInt r1 e1 n2 r2 e2) (h3 : Rb cInt r2 e2 n3 r3 e3) (h4 : Rb cInt r3 e3 n4 r4 e4) (h5 : Rb cConf r4 e4 c r5 e5) (h6 : Rb cText r5 e5 t r6 e6) (h7 : Rb (cList cEnt (fun _ => true)) r6 e6 L r7 e7) : Rb cHard l e ⟨n1, n2, n3, n4, c, t, L⟩ r7 e7 :=
  Rb.as (f := fun x : Int × Int × Int × Int × C × List Nat × List E => (⟨x.1, x.2.1, x.2.2.1, x.2.2.2.1, x.2.2.2.2.1, x.2.2.2.2.2.1, x.2.2.2.2.2.2⟩ : H)) (h1.seq (h2.seq (h3.seq (h4.seq (h5.seq (h6.seq h7))))))
/-- what is told of all bytes -/
def AldH (F : List Nat) (w : World) (x : Ending) (w' : World) : Prop :=
  Below w.heap.size w w' ∧ match cHard.all F with
    | some y => ∃ p, x = .returned (.tuple #[y.val p, .bool true]) ∧ HardAt w' y p
    | none => x = .returned (.tuple #[H.zero.val Hp.none, .bool false])
set_option maxHeartbeats 6400000 in
set_option maxRecDepth 100000 in
theorem RefReadHard {w : World} {b : Nat} {a : Option Addr} {cap : Nat} {F : List Nat} (h : Mem.Src w b a cap F) (h8 : B8 F) (hF : F.length ≤ 100000) :
    Calls Try.prog 24 #[.slice a F.length cap] w (AldH F w) := by
  obtain ⟨n, hn⟩ : ∃ n, n = F.length := ⟨_, rfl⟩
  rw [← hn]
  have HX := Lib.hid (Ro1.start h h8 (H.zero.obj Hp.none) n hn)
  have HN := Lib.hid hn
  have HF8 := Lib.hid h8
  clear h h8 hn
  go_enter Try.func24, Try.ntmps24
  go_wp2_with fail
  refine (Int_rt HX.out.rr hF).mono ?_
  rintro x w1 ⟨n1, r1, e1, rfl, h1, k1, b1⟩
  have HX := Lib.hid (HX.out.call h1 k1)
  have HR1 := Lib.hid b1
  clear h1 k1 b1
  go_wp2_with fail
  refine (Int_rt HX.out.rr hF).mono ?_
  rintro x w2 ⟨n2, r2, e2, rfl, h1, k1, b1⟩
  have HX := Lib.hid (HX.out.call h1 k1)
  have HR2 := Lib.hid b1
  clear h1 k1 b1
  go_wp2_with fail
  refine (Int_rt HX.out.rr hF).mono ?_
  rintro x w3 ⟨n3, r3, e3, rfl, h1, k1, b1⟩
  have HX := Lib.hid (HX.out.call h1 k1)
  have HR3 := Lib.hid b1
  clear h1 k1 b1
  go_wp2_with fail
  refine (Int_rt HX.out.rr hF).mono ?_
  rintro x w4 ⟨n4, r4, e4, rfl, h1, k1, b1⟩
  have HX := Lib.hid (HX.out.call h1 k1)
  have HR4 := Lib.hid b1
  clear h1 k1 b1
  have HX := Lib.hid (HX.out.more (H.zero.obj Hp.none))
  go_wp2_with (first | (apply store_g 10 HX.out.xbox; rfl; rfl; rfl; rfl; rfl; kernel_rfl; rfl; rfl; intro wz hz he; have HX := Lib.hid (HX.out.setX hz he); clear hz he))
  refine (Conf_rt HX.out.rr hF).mono ?_
  rintro x w5 ⟨n5, r5, e5, rfl, h1, k1, b1⟩
  have HX := Lib.hid (HX.out.callx h1 k1)
  have HR5 := Lib.hid b1
  clear h1 k1 b1
  go_wp2_with (first | (apply store_gm HX.out.xbox; rfl; rfl; rfl; rfl; rfl; kernel_rfl; rfl; rfl; intro wz hz he; (try simp only [splice, List.setIfInBounds_toArray, List.set_cons_succ, List.set_cons_zero, Nat.reduceAdd] at hz); have HX := Lib.hid (HX.out.setX hz he); clear hz he))
  have HT := Lib.hid (refText_any HX.out.rr hF)
  unfold RTextTold at HT
  have HR6 := Lib.hid (textOut_rb (l := r5) (e := e5))
  generalize Pk.textOut r5 e5 = o at *
  obtain ⟨n6, r6, e6⟩ := o
  dsimp only at HT HR6
  refine HT.out.mono ?_
  rintro x w7 ⟨bt, at_, ct, rfl, ho, hlo, h1, k1⟩
  have HTX := Lib.hid ho
  have HTL := Lib.hid (Nat.le_trans HX.out.beh.size hlo)
  have HNE : Hid (bt ≠ w.heap.size + 1 ∧ bt ≠ w4.heap.size ∧ bt ≠ w.heap.size) := by have i1 := HX.out.rr.lt1; have i2 := heap_lt HX.out.xbox; have i3 := heap_lt HX.out.box; exact ⟨by omega, by omega, by omega⟩
  have HX := Lib.hid (HX.out.callx h1 k1)
  have HB6 := Lib.hid h1.b8
  have HL6 := Lib.hid (rr_len h1)
  clear h1 k1 ho hlo HT HTL
  go_wp2_with (first | (apply store_g1 HX.out.xbox; rfl; rfl; rfl; rfl; rfl; rfl; kernel_rfl; rfl; intro wz hz he; (try simp only [List.setIfInBounds_toArray, List.set_cons_succ, List.set_cons_zero] at hz); have HX := Lib.hid (HX.out.setX hz he); (have HTX := Lib.hid (HTX.out.kept (else_kept he) (fun _ e => HNE.out.2.1 e))); clear hz he))
  refine (List_rt HX.out.rr hF (n : Int) (by have := HN.out; omega)).mono ?_
  rintro x w9 ⟨n7, r7, e7, gb, ga, gc, rfl, ho, hlo, h1, k1, b1⟩
  have HGE : Hid (gb ≠ w.heap.size + 1 ∧ gb ≠ w4.heap.size ∧ gb ≠ w.heap.size) := by have i1 := HX.out.rr.lt1; have i2 := heap_lt HX.out.xbox; have i3 := heap_lt HX.out.box; exact ⟨by omega, by omega, by omega⟩
  have HX := Lib.hid (HX.out.callx h1 k1)
  have HTX := Lib.hid (HTX.out.kept k1 (fun _ e => HNE.out.1 e))
  have HLX := Lib.hid ho
  have HR7 := Lib.hid (b1.eq (list_all2 HB6.out (by have := HL6.out; have := HN.out; omega)))
  have HA := Lib.hid (all_of cHard (hard_rb HR1.out HR2.out HR3.out HR4.out HR5.out HR6.out HR7.out))
  clear h1 k1 b1 ho hlo
  go_wp2_with (first | (apply store_g1 HX.out.xbox; rfl; rfl; rfl; rfl; rfl; rfl; kernel_rfl; rfl; intro wz hz he; (try simp only [List.setIfInBounds_toArray, List.set_cons_succ, List.set_cons_zero] at hz); have HX := Lib.hid (HX.out.setX hz he); (have HTX := Lib.hid (HTX.out.kept (else_kept he) (fun _ e => HNE.out.2.1 e))); (have HLX := Lib.hid (OwnC.kept HLX.out (else_kept he) (fun _ e => HGE.out.2.1 e))); clear hz he))
  refine (Over_rt HX.out.rr a n cap).mono ?_
  rintro x w11 ⟨rfl, nd, hw3⟩
  have HX := Lib.hid (HX.out.callx (W' := w11) (hw3 ▸ HX.out.rr.kept ((Kept.refl Mem.None _).drewN nd) (fun h => h) (fun _ h => h)) (hw3 ▸ (Kept.refl (Only _) _).drewN nd))
  have HTX := Lib.hid (HTX.out.kept (w' := w11) (hw3 ▸ (Kept.refl Mem.None _).drewN nd) (fun _ h => h))
  have HLX := Lib.hid (OwnC.kept (w' := w11) HLX.out (hw3 ▸ (Kept.refl Mem.None _).drewN nd) (fun _ h => h))
  clear hw3
  by_cases hq : e7 = 0 ∧ r7 = [] ∧ n ≤ 16384
  · rw [decide_eq_true hq]
    have HAA : Hid (cHard.all F = some ⟨n1, n2, n3, n4, n5, n6, n7⟩) := Lib.hid (by rw [HA.out, if_pos (by rw [← HN.out]; exact hq)])
    clear hq HA
    go_wp2_with (first | (apply load_g HX.out.xbox Try.underlying48; rfl; rfl; rfl; rfl; kernel_rfl) | (apply store_g 10 HX.out.box; rfl; rfl; rfl; rfl; rfl; kernel_rfl; rfl; rfl; intro wz hz he; have HX := Lib.hid (HX.out.setR hz he); (have HTX := Lib.hid (HTX.out.kept (else_kept he) (fun _ e => HNE.out.2.2 e))); (have HLX := Lib.hid (OwnC.kept HLX.out (else_kept he) (fun _ e => HGE.out.2.2 e))); clear hz he))
    (try simp only [Exit.inBlock, Exit.then])
    refine bodyPost_ret (Bh.results_cell_row2 rfl _ _ _ _ _ _ _ rfl HX.out.box Try.underlying48 rfl (by kernel_rfl)) rfl ?_
    refine ⟨HX.out.beh, ?_⟩
    rw [HAA.out]
    exact ⟨⟨bt, at_, ct, gb, ga, gc⟩, rfl, HTX.out.src, Li.OwnL.list HLX.out⟩
  · rw [decide_eq_false hq]
    have HAA : Hid (cHard.all F = none) := Lib.hid (by rw [HA.out, if_neg (by rw [← HN.out]; exact hq)])
    clear hq HA
    go_wp2_with (first | (apply store_g 10 HX.out.box; rfl; rfl; rfl; rfl; rfl; kernel_rfl; rfl; rfl; intro wz hz he; have HX := Lib.hid (HX.out.setR hz he); (have HTX := Lib.hid (HTX.out.kept (else_kept he) (fun _ e => HNE.out.2.2 e))); (have HLX := Lib.hid (OwnC.kept HLX.out (else_kept he) (fun _ e => HGE.out.2.2 e))); clear hz he))
    (try simp only [Exit.inBlock, Exit.then])
    refine bodyPost_ret (Bh.results_cell_row2 rfl _ _ _ _ _ _ _ rfl HX.out.box Try.underlying48 rfl (by kernel_rfl)) rfl ?_
    refine ⟨HX.out.beh, ?_⟩
    rw [HAA.out]
    rfl
end Go.Proofs.Ytjdebdfbjcpjgaa.Wr
end
section
/- The reference's writers: a hard state. -/
namespace Go.Proofs.Ytjdebdfbjcpjgaa.Wr
open Go Go.RowKit Vl Kv Ss Cn Mem Lg Nm
attribute [local go_sem] Nm.run_bits Nm.run_frombits run_store_float
set_option maxHeartbeats 12800000 in
set_option maxRecDepth 100000 in
theorem refHardW (h : H) (p : Hp) (w : World) (hp : HardAt w h p) (hf : FitS h) : Calls Try.prog 20 #[h.val p] w (EncTold (hR (some []) h) w) := by
  obtain ⟨i0, hi0, hz0, hz1, hz2⟩ := info_parts Pk.infoU8
  have HBX := Lib.hid (Bh.alloc_here (w := w) (h.obj p) rfl)
  have HK : Hid (Kept Mem.None (w.alloc (h.obj p)) (w.alloc (h.obj p))) := Lib.hid (Kept.refl _ _)
  have HEN : Hid (∀ W, Kv.Beh w W → Calls Try.prog 45 #[.slice p.la h.log.length p.lc] W fun e w' => e = .returned (.bool (okL h.log)) ∧ Below W.heap.size W w') := fun W hW => refEntsOk _ _ _ W (hp.on hW).log (by have := hf.len; omega)
  have hr := hR_is h
  have hw0 : Kv.Beh w (w.alloc (h.obj p)) := below_alloc _ _
  (obtain ⟨c0, c1, c2, c3, c4, c5, c6, c7, c8, c9⟩ := cells10h (h := h) (p := p) HBX.out)
  cases hq : okL h.log
  · have e1 : hR (some []) h = none := by rw [hr, if_neg (by rw [hq]; decide)]
    rw [e1]
    rw [hq] at HEN
    clear hp hf hr hq e1
    go_enter Try.func20, Try.ntmps20
    go_wp2_with (go_at_call 45; refine Calls.mono (HEN.out _ hw0) ?_; rintro e w1 ⟨rfl, hb⟩; (have HW := Lib.hid (hw0.trans hb)); clear hb)
    go_ret2
    exact ⟨HW.out, rfl⟩
  by_cases hs : h.snap.length ≤ 16384
  case neg =>
    have d1 : decide ((16384 : Int) < (h.snap.length : Int)) = true := decide_eq_true (by omega)
    have e1 : hR (some []) h = some none := by rw [hr, if_pos hq, if_neg hs]
    rw [e1]
    rw [hq] at HEN
    clear hp hf hr hq e1 hs
    go_enter Try.func20, Try.ntmps20
    go_wp2_with (go_at_call 45; refine Calls.mono (HEN.out _ hw0) ?_; rintro e w1 ⟨rfl, hb⟩; (have HW := Lib.hid (hw0.trans hb)); (have hx := Bh.box_on HBX.out hb); (obtain ⟨c0, c1, c2, c3, c4, c5, c6, c7, c8, c9⟩ := cells10h (h := h) (p := p) hx); clear hx; clear hb)
    go_ret2
    exact ⟨HW.out, rfl⟩
  have d1 : decide ((16384 : Int) < (h.snap.length : Int)) = false := decide_eq_false (by omega)
  obtain ⟨L1, hL1⟩ : ∃ L1, L1 = Pk.intB h.term ++ (Pk.intB h.vote ++ (Pk.intB h.base ++ Pk.intB h.bterm)) := ⟨_, rfl⟩
  obtain ⟨L2, hL2⟩ : ∃ L2, L2 = cConf.enc h.conf := ⟨_, rfl⟩
  obtain ⟨L3, hL3⟩ : ∃ L3, L3 = Pk.textB h.snap := ⟨_, rfl⟩
  obtain ⟨L4, hL4⟩ : ∃ L4, L4 = listB h.log := ⟨_, rfl⟩
  have hl1 : L1.length ≤ 40 := by
    rw [hL1]
    simp only [List.length_append]
    have := (Pk.intB_len h.term).2; have := (Pk.intB_len h.vote).2; have := (Pk.intB_len h.base).2; have := (Pk.intB_len h.bterm).2
    omega
  have hl2 : L2.length ≤ 40 := by
    rw [hL2]
    show (Pk.intB h.conf.f ++ (Pk.intB h.conf.w ++ (Pk.intB h.conf.l ++ Pk.intB h.conf.x))).length ≤ 40
    simp only [List.length_append]
    have := (Pk.intB_len h.conf.f).2; have := (Pk.intB_len h.conf.w).2; have := (Pk.intB_len h.conf.l).2; have := (Pk.intB_len h.conf.x).2
    omega
  have hl3 : L3.length ≤ 16400 := by rw [hL3]; have := textB_len h.snap; omega
  have hl4 : L4.length ≤ 600000000 := by rw [hL4]; have := listB_le hf.log; have := hf.len; omega
  have HE : Hid (hR (some []) h = some (some (L1 ++ L2 ++ L3 ++ L4))) := Lib.hid (by
    rw [hr, if_pos hq, if_pos hs, cHard_enc, hL1, hL2, hL3, hL4]
    unfold hHead
    simp only [List.append_assoc])
  have HIN : Hid (∀ (W : World) (kb : Nat), kb = W.heap.size → Calls Try.prog 46 #[.slice (some ⟨kb, 0, none⟩) 4 4] (W.alloc (.cells #[.int .i64 h.term, .int .i64 h.vote, .int .i64 h.base, .int .i64 h.bterm] 3)) (Pk.NewB L1 (W.alloc (.cells #[.int .i64 h.term, .int .i64 h.vote, .int .i64 h.base, .int .i64 h.bterm] 3)))) := fun W kb hkb => intsLit [h.term, h.vote, h.base, h.bterm] W kb hkb _ (by simp only [List.map_cons, List.map_nil]) 4 (by simp) (fun x hx => by
    simp only [List.mem_cons, List.not_mem_nil, or_false] at hx
    rcases hx with rfl | rfl | rfl | rfl
    · exact hf.term
    · exact hf.vote
    · exact hf.base
    · exact hf.bterm) (by simp) L1 (by rw [hL1]; simp)
  have HCF : Hid (∀ W, Calls Try.prog 47 #[h.conf.val] W (Pk.NewB L2 W)) := fun W => by rw [hL2]; exact refConfW _ hf.conf W
  have HTX : Hid (∀ W, Kv.Beh w W → Calls Try.prog 48 #[.slice p.sa h.snap.length p.sc] W (Pk.NewB L3 W)) := fun W hW => by rw [hL3]; exact Pk.refText_any _ _ _ _ W (hp.on hW).snap (by omega)
  have HLI : Hid (∀ W, Kv.Beh w W → Calls Try.prog 49 #[.slice p.la h.log.length p.lc] W (Pk.NewB L4 W)) := fun W hW => by rw [hL4]; exact refListW _ _ _ W (hp.on hW).log hf.log hq (by have := hf.len; omega)
  rw [hq] at HEN
  clear hp hf hr hq hL1 hL2 hL3 hL4
  rw [HE.out]
  go_enter Try.func20, Try.ntmps20
  go_wp2_with (go_at_call 45; refine Calls.mono (HEN.out _ hw0) ?_; rintro e w1 ⟨rfl, hb⟩; (have HK := Lib.hid (HK.out.trans (kept_beh hb))); (have hx := Bh.box_on HBX.out hb); (obtain ⟨c0, c1, c2, c3, c4, c5, c6, c7, c8, c9⟩ := cells10h (h := h) (p := p) hx); clear hx; clear hb)
  have HK := Lib.hid (HK.out.trans (kept_beh (Beh.start _).drew))
  refine wp_region_held_drew (S := fun W => W.heap[w.heap.size]? = some (h.obj p)) (by kernel_rfl) (HK.out.heap HBX.out (fun h => h)) (fun hS => ?_)
  generalize World.drew w1 = wd at HK hS ⊢
  (try simp only [Act.put, List.getElem_toArray, List.getElem_cons_succ, List.getElem_cons_zero, List.setIfInBounds_toArray, List.set_cons_zero, List.set_cons_succ])
  refine wpAnyH_take (i := 0) (v := ?_) rfl (by kernel_rfl) (by kernel_rfl) (by kernel_rfl) (fun _ _ _ h => h) (Or.inl ⟨by rfl, ?_⟩) hS ?_
  rotate_left
  · intro W hW; go_simp; try with_reducible rfl
  (try simp only [Act.put, List.getElem_toArray, List.getElem_cons_zero, List.setIfInBounds_toArray, List.set_cons_zero, List.set_cons_succ])
  refine wpAnyH_take (i := 1) (v := ?_) rfl (by kernel_rfl) (by kernel_rfl) (by kernel_rfl) (fun _ _ _ h => h) (Or.inl ⟨by rfl, ?_⟩) hS ?_
  rotate_left
  · intro W hW; (obtain ⟨c0, c1, c2, c3, c4, c5, c6, c7, c8, c9⟩ := cells10h (h := h) (p := p) hW); go_simp; try with_reducible rfl
  (try simp only [Act.put, List.getElem_toArray, List.getElem_cons_succ, List.getElem_cons_zero, List.setIfInBounds_toArray, List.set_cons_zero, List.set_cons_succ])
  refine wpAnyH_take (i := 2) (v := ?_) rfl (by kernel_rfl) (by kernel_rfl) (by kernel_rfl) (fun _ _ _ h => h) (Or.inl ⟨by rfl, ?_⟩) hS ?_
  rotate_left
  · intro W hW; go_simp; try with_reducible rfl
  (try simp only [Act.put, List.getElem_toArray, List.getElem_cons_succ, List.getElem_cons_zero, List.setIfInBounds_toArray, List.set_cons_zero, List.set_cons_succ])
  refine wpAnyH_take (i := 3) (v := ?_) rfl (by kernel_rfl) (by kernel_rfl) (by kernel_rfl) (fun _ _ _ h => h) (Or.inl ⟨by rfl, ?_⟩) hS ?_
  rotate_left
  · intro W hW; (obtain ⟨c0, c1, c2, c3, c4, c5, c6, c7, c8, c9⟩ := cells10h (h := h) (p := p) hW); go_simp; try with_reducible rfl
  (try simp only [Act.put, List.getElem_toArray, List.getElem_cons_succ, List.getElem_cons_zero, List.setIfInBounds_toArray, List.set_cons_zero, List.set_cons_succ])
  refine wpAnyH_take (i := 4) (v := ?_) rfl (by kernel_rfl) (by kernel_rfl) (by kernel_rfl) (fun _ _ _ h => h) (Or.inl ⟨by rfl, ?_⟩) hS ?_
  rotate_left
  · intro W hW; go_simp; try with_reducible rfl
  (try simp only [Act.put, List.getElem_toArray, List.getElem_cons_succ, List.getElem_cons_zero, List.setIfInBounds_toArray, List.set_cons_zero, List.set_cons_succ])
  refine wpAnyH_take (i := 5) (v := ?_) rfl (by kernel_rfl) (by kernel_rfl) (by kernel_rfl) (fun _ _ _ h => h) (Or.inl ⟨by rfl, ?_⟩) hS ?_
  rotate_left
  · intro W hW; (obtain ⟨c0, c1, c2, c3, c4, c5, c6, c7, c8, c9⟩ := cells10h (h := h) (p := p) hW); go_simp; try with_reducible rfl
  (try simp only [Act.put, List.getElem_toArray, List.getElem_cons_succ, List.getElem_cons_zero, List.setIfInBounds_toArray, List.set_cons_zero, List.set_cons_succ])
  refine wpAnyH_take (i := 6) (v := ?_) rfl (by kernel_rfl) (by kernel_rfl) (by kernel_rfl) (fun _ _ _ h => h) (Or.inl ⟨by rfl, ?_⟩) hS ?_
  rotate_left
  · intro W hW; go_simp; try with_reducible rfl
  (try simp only [Act.put, List.getElem_toArray, List.getElem_cons_succ, List.getElem_cons_zero, List.setIfInBounds_toArray, List.set_cons_zero, List.set_cons_succ])
  refine wpAnyH_take (i := 7) (v := ?_) rfl (by kernel_rfl) (by kernel_rfl) (by kernel_rfl) (fun _ _ _ h => h) (Or.inl ⟨by rfl, ?_⟩) hS ?_
  rotate_left
  · intro W hW; (obtain ⟨c0, c1, c2, c3, c4, c5, c6, c7, c8, c9⟩ := cells10h (h := h) (p := p) hW); go_simp; try with_reducible rfl
  (try simp only [Act.put, List.getElem_toArray, List.getElem_cons_succ, List.getElem_cons_zero, List.setIfInBounds_toArray, List.set_cons_zero, List.set_cons_succ])
  refine wpAnyH_take (i := 10) (v := ?_) rfl (by kernel_rfl) (by kernel_rfl) (by kernel_rfl) (fun _ _ _ h => h) (Or.inl ⟨by rfl, ?_⟩) hS ?_
  rotate_left
  · intro W hW; go_simp; try with_reducible rfl
  (try simp only [Act.put, List.getElem_toArray, List.getElem_cons_succ, List.getElem_cons_zero, List.setIfInBounds_toArray, List.set_cons_zero, List.set_cons_succ])
  refine wpAnyH_take (i := 11) (v := ?_) rfl (by kernel_rfl) (by kernel_rfl) (by kernel_rfl) (fun _ _ _ h => h) (Or.inl ⟨by rfl, ?_⟩) hS ?_
  rotate_left
  · intro W hW; (obtain ⟨c0, c1, c2, c3, c4, c5, c6, c7, c8, c9⟩ := cells10h (h := h) (p := p) hW); go_simp; try with_reducible rfl
  (try simp only [Act.put, List.getElem_toArray, List.getElem_cons_succ, List.getElem_cons_zero, List.setIfInBounds_toArray, List.set_cons_zero, List.set_cons_succ])
  refine wpAnyH_ready (rs := [8]) (by kernel_rfl) (by simp) ?_
  refine AllReadyH.cons rfl (fun K hK => ?_) (AllReadyH.nil)
  all_goals (try simp only [List.getElem_toArray, List.getElem_cons_succ, List.getElem_cons_zero])
  go_simp
  refine hK.out _ _ (Bh.alloc_old _ hS) (fun hS => ?_)
  clear hK K
  (try simp only [Act.put, List.getElem_toArray, List.getElem_cons_succ, List.getElem_cons_zero, List.setIfInBounds_toArray, List.set_cons_zero, List.set_cons_succ])
  have HK := Lib.hid (HK.out.alloc (.cells #[.int .i64 h.term, .int .i64 h.vote, .int .i64 h.base, .int .i64 h.bterm] 3))
  refine wpAnyH_ready (rs := [9]) (by kernel_rfl) (by simp) ?_
  refine AllReadyH.cons rfl (fun K hK => ?_) (AllReadyH.nil)
  all_goals (try simp only [List.getElem_toArray, List.getElem_cons_succ, List.getElem_cons_zero])
  go_simp
  go_at_call 46
  refine Calls.mono (HIN.out _ _ rfl) ?_
  rintro x w2 ⟨b1, a1, u1, rfl, ho, hb, hk, hb2⟩
  have HA := Lib.hid (Ac.start (w0 := w.alloc (h.obj p)) ho (by have := HK.out.size; omega) (HK.out.trans hk) hb2 [(w.heap.size, h.obj p)] (fun n o hn => by rw [List.mem_singleton] at hn; injection hn with h1 h2; subst h1 h2; exact HBX.out))
  refine hK.out _ _ ((HA.out.box _ _ (List.mem_cons_self ..)).1) (fun hS => ?_)
  clear hK K
  (try simp only [Act.put, List.getElem_toArray, List.getElem_cons_succ, List.getElem_cons_zero, List.setIfInBounds_toArray, List.set_cons_zero, List.set_cons_succ])
  clear ho hb hk hb2 HK
  refine wpAnyH_ready (rs := [12]) (by kernel_rfl) (by simp) ?_
  refine AllReadyH.cons rfl (fun K hK => ?_) (AllReadyH.nil)
  all_goals (try simp only [List.getElem_toArray, List.getElem_cons_succ, List.getElem_cons_zero])
  go_simp
  go_at_call 47
  refine Calls.mono (HCF.out _) ?_
  rintro x w3 ⟨b2, a2, u2, rfl, ho, _, hk, _⟩
  have HA := Lib.hid (HA.out.on (beh_kept hk))
  have HO := Lib.hid ho
  refine hK.out _ _ ((HA.out.box _ _ (List.mem_cons_self ..)).1) (fun hS => ?_)
  clear hK K
  (try simp only [Act.put, List.getElem_toArray, List.getElem_cons_succ, List.getElem_cons_zero, List.setIfInBounds_toArray, List.set_cons_zero, List.set_cons_succ])
  clear ho hk
  refine wpAnyH_ready (rs := [13]) (by kernel_rfl) (by simp) ?_
  refine AllReadyH.cons rfl (fun K hK => ?_) (AllReadyH.nil)
  all_goals (try simp only [List.getElem_toArray, List.getElem_cons_succ, List.getElem_cons_zero])
  rw [if_pos (by rfl)]
  refine wp_append_bytes _ _ 33 rfl 5 i0 Try.underlying33 hi0 hz0 hz1 hz2 b1 a1 u1 L1 _ rfl (HA.out.own) rfl b2 a2 u2 L2 L2.length rfl HO.out.src rfl (by omega) ?_
  intro b3_ a3 u3 w4 h2 h3 h4 h9
  obtain ⟨b3, h8⟩ := HA.out.app h2 h3 h4
  have HA := Lib.hid h8
  clear h2 h3 h4 h8 h9
  generalize hP : L1 ++ L2 = P2 at HA ⊢
  have HP2 := Lib.hid hP
  have hp2l : P2.length ≤ 80 := by rw [← hP, List.length_append]; omega
  clear hP
  refine hK.out _ _ ((HA.out.box _ _ (List.mem_cons_self ..)).1) (fun hS => ?_)
  clear hK K
  (try simp only [Act.put, List.setIfInBounds_toArray, List.set_cons_zero, List.set_cons_succ])
  clear HO
  refine wpAnyH_take (i := 14) (v := ?_) rfl (by kernel_rfl) (by kernel_rfl) (by kernel_rfl) (fun _ _ _ h => h) (Or.inl ⟨by rfl, ?_⟩) hS ?_
  rotate_left
  · intro W hW; go_simp; try with_reducible rfl
  (try simp only [Act.put, List.getElem_toArray, List.getElem_cons_succ, List.getElem_cons_zero, List.setIfInBounds_toArray, List.set_cons_zero, List.set_cons_succ])
  refine wpAnyH_done (by kernel_rfl) ?_ _
  (have hx := (HA.out.box w.heap.size (h.obj p) (List.mem_cons_self ..)).1); (obtain ⟨c0, c1, c2, c3, c4, c5, c6, c7, c8, c9⟩ := cells10h (h := h) (p := p) hx); clear hx
  go_wp2_with fail
  refine Calls.mono (HTX.out _ (hw0.trans (beh_kept HA.out.kept))) ?_
  rintro e w5 ⟨b4, a4, u4, rfl, ho, hb, hk, hb2⟩
  have HA := Lib.hid (HA.out.on (beh_kept hk))
  have HO := Lib.hid ho
  clear ho hb hk hb2 c0 c1 c2 c3 c4 c5 c6 c7 c8 c9
  go_wp2_with (at_builtin; refine wpList_append_bytes rfl _ _ 33 rfl 5 i0 Try.underlying33 hi0 hz0 hz1 hz2 b3 a3 u3 _ _ rfl (HA.out).own rfl b4 a4 u4 _ _ rfl HO.out.src rfl (by omega) ?_; (intro b5_ a5 u5 w5 h2 h3 h4 h9); (obtain ⟨b5, h5⟩ := HA.out.app h2 h3 h4); (have HA := Lib.hid h5); (clear h2 h3 h4 h5 h9); (generalize hP : P2 ++ L3 = P5 at HA ⊢); (have HP5 := Lib.hid hP); (have hp5l : P5.length ≤ 17000 := by rw [← hP, List.length_append]; omega); (clear hP); (have hx := (HA.out.box w.heap.size (h.obj p) (List.mem_cons_self ..)).1); (obtain ⟨c0, c1, c2, c3, c4, c5, c6, c7, c8, c9⟩ := cells10h (h := h) (p := p) hx); (clear hx))
  refine Calls.mono (HLI.out _ (hw0.trans (beh_kept HA.out.kept))) ?_
  rintro e w7 ⟨b6, a6, u6, rfl, ho, hb, hk, hb2⟩
  have HA := Lib.hid (HA.out.on (beh_kept hk))
  have HO := Lib.hid ho
  clear ho hb hk hb2 c0 c1 c2 c3 c4 c5 c6 c7 c8 c9
  go_wp2_with (at_builtin; refine wpList_append_bytes rfl _ _ 33 rfl 5 i0 Try.underlying33 hi0 hz0 hz1 hz2 b5 a5 u5 _ _ rfl (HA.out).own rfl b6 a6 u6 _ _ rfl HO.out.src rfl (by omega) ?_; (intro b7_ a7 u7 w7 h2 h3 h4 h9); (obtain ⟨b7, h5⟩ := HA.out.app h2 h3 h4); (have HA := Lib.hid h5); (clear h2 h3 h4 h5 h9); (generalize hP : P5 ++ L4 = P7 at HA ⊢); (have HP7 := Lib.hid hP); (have hp7l : P7.length ≤ 700000000 := by rw [← hP, List.length_append]; omega); (clear hP))
  by_cases hn : P7.length ≤ 16384
  · refine Calls.mono (sized_yes hn _) ?_
    rintro e w8 ⟨rfl, rfl⟩
    go_wp2_with fail
    go_ret2
    rw [HP2.out, HP5.out, HP7.out]
    exact enc_yes hn HA.out.own (by have := HA.out.lo; rw [size_alloc] at this; omega) (hw0.trans (beh_kept HA.out.kept))
  · refine Calls.mono (sized_no hn _) ?_
    rintro e w8 ⟨rfl, rfl⟩
    go_wp2_with fail
    go_ret2
    rw [HP2.out, HP5.out, HP7.out]
    exact enc_no hn (hw0.trans (beh_kept HA.out.kept))
end Go.Proofs.Ytjdebdfbjcpjgaa.Wr
end
section
/- The law WireHards. -/
namespace Go.Proofs.Ytjdebdfbjcpjgaa.Wr
open Go Go.RowKit Vl Kv Ss Cn Mem Lg Nm
attribute [local go_sem] Nm.run_bits Nm.run_frombits run_store_float
theorem bx_kept {w W W' : World} {l : List Obj} {S : Nat → Prop} (h : Bh.Bx w l W) (hk : Kept S W W') (hS : ∀ k, S k → w.heap.size + l.length ≤ k) : Bh.Bx w l W' :=
  ⟨Below.trans h.beh (hk.below h.beh.size (fun k e => by have := hS k e; omega)), fun i o ho => hk.heap (h.box i o ho) (fun e => by have := hS _ e; have := (List.getElem?_eq_some_iff.1 ho).1; omega)⟩
theorem OwnH.at_ {w w' : World} {h : H} {p : Hp} (x : OwnH w w' h p) : HardAt w' h p := ⟨x.snap.src, Li.OwnL.list x.log⟩
theorem OwnH.spoil {w w' W : World} {h : H} {p : Hp} (x : OwnH w w' h p) {S : Nat → Prop} (hk : Kept S w' W) (hS : ∀ k, S k → k < w.heap.size) : OwnH w W h p :=
  ⟨x.snap.kept hk (fun _ e => by have := hS _ e; have := x.snew; omega), x.snew, OwnC.kept x.log hk (fun _ e => by have := hS _ e; have := x.lnew; omega), x.lnew⟩
theorem OwnH.zero (w w' : World) (n : Nat) (hn : w.heap.size ≤ n) : OwnH w w' H.zero ⟨n, none, 0, n, none, 0⟩ :=
  ⟨OwnB.nil _ _ _, hn, OwnC.nil _ _ _ _, hn⟩
set_option maxHeartbeats 12800000 in
set_option maxRecDepth 100000 in
theorem WireHards_law (h : H) (p : Hp) (b : Nat) (a : Option Addr) (cap : Nat) (F : List Nat) (w : World) (hh : HardAt w h p) (rh : RH h) (hs : Mem.Src w b a cap F) (h8 : B8 F) :
    Calls Try.prog 4 #[h.val p, .slice a F.length cap] w fun e w' => e = .returned (.bool true) ∧ Below w.heap.size w w' := by
  have HB := Lib.hid (Bh.Bx.one w (h.obj p))
  have HWK := fun w => Lib.hid (wakes_any w)
  have HV1 : Hid (∀ W, Kv.Beh w W → Calls Try.prog 18 #[h.val p] W fun e w' => e = .returned (.bool (heavyL h.log || decide (32768 < (h.snap.length : Int)))) ∧ Below W.heap.size W w') := fun W hW => Lg.heavy_any h p W (hh.on hW)
  obtain ⟨n, hn⟩ : ∃ n, n = F.length := ⟨_, rfl⟩
  rw [← hn]
  have HN := Lib.hid hn
  cases k1 : (heavyL h.log || decide (32768 < (h.snap.length : Int)))
  case true =>
    rw [k1] at HV1
    clear hs h8 hn hh
    go_enter Try.func4, Try.ntmps4
    go_wp2_with (first | (go_at_call 18; refine Calls.mono (HV1.out _ HB.out.beh) ?_; rintro e wy ⟨rfl, hb⟩; (have HB := Lib.hid (HB.out.on hb)); clear hb) | (apply Bh.load_bx 0 HB.out Try.underlying48; rfl; rfl; rfl; rfl; rfl; kernel_rfl))
    go_ret
    exact ⟨rfl, HB.out.beh⟩
  rw [Bool.or_eq_false_iff] at k1
  have hsn : h.snap.length ≤ 32768 := by have := of_decide_eq_false k1.2; omega
  have hf := rh.fit k1.1 hsn
  rw [k1.1, k1.2] at HV1
  by_cases hl : F.length ≤ 32768
  case neg =>
    have d1 : decide ((32768 : Int) < (n : Int)) = true := decide_eq_true (by omega)
    clear hs h8 hl hn hh k1 hf
    go_enter Try.func4, Try.ntmps4
    go_wp2_with (first | (go_at_call 18; refine Calls.mono (HV1.out _ HB.out.beh) ?_; rintro e wy ⟨rfl, hb⟩; (have HB := Lib.hid (HB.out.on hb)); clear hb) | (apply Bh.load_bx 0 HB.out Try.underlying48; rfl; rfl; rfl; rfl; rfl; kernel_rfl))
    go_ret
    exact ⟨rfl, HB.out.beh⟩
  have d1 : decide ((32768 : Int) < (n : Int)) = false := decide_eq_false (by omega)
  have HW1 : Hid (∀ W, Kv.Beh w W → Calls Try.prog 19 #[h.val p] W (EncTold (hR (some []) h) W)) := fun W hW => Hard_any (hh.on hW) hf
  have HW2 : Hid (∀ W, Kv.Beh w W → Calls Try.prog 20 #[h.val p] W (EncTold (hR (some []) h) W)) := fun W hW => refHardW h p W (hh.on hW) hf
  have HTW : Hid (∀ W, Kv.Beh w W → Calls Try.prog 21 #[.slice a n cap] W (Kp.NewB F W)) := fun W hW => by rw [HN.out]; exact Kp.Twin_any b a cap F W (hs.kept (kept_beh hW) (fun _ h => h)) (by omega)
  have HR2 : Hid (∀ W, Kv.Beh w W → Calls Try.prog 24 #[.slice a n cap] W (AldH F W)) := fun W hW => by rw [HN.out]; exact RefReadHard (hs.kept (kept_beh hW) (fun _ h => h)) h8 (by omega)
  have HF : Hid (B8 F ∧ F.length ≤ 32768) := ⟨h8, hl⟩
  have hw := enc_ways (hR (some []) h)
  generalize hR (some []) h = r at *
  obtain ⟨Y, C, OK, hC, HYZ⟩ : ∃ (Y : H) (C : Int) (OK : Bool), (OK = true ∧ C = 0 ∨ OK = false ∧ C = 3) ∧ Hid (Y.snap.length ≤ 100000 ∧ ∀ W e W', (RHrd F W e W' → ∃ P, e = .returned (.tuple #[Y.val P, .int .i64 C]) ∧ OwnH W W' Y P ∧ Below W.heap.size W W') ∧ (AldH F W e W' → ∃ P, e = .returned (.tuple #[Y.val P, .bool OK]) ∧ HardAt W' Y P ∧ Below W.heap.size W W')) := by
    unfold RHrd AldH
    cases hd : cHard.all F with
    | some y =>
      have hy := hard_snap (all_sound cHard h8 hd).2.1
      refine ⟨y, 0, true, .inl ⟨rfl, rfl⟩, by omega, fun W e W' => ⟨fun h => ?_, fun h => ?_⟩⟩
      · obtain ⟨P, h1, h2⟩ := h.2; exact ⟨P, h1, h2, h.1⟩
      · obtain ⟨P, h1, h2⟩ := h.2; exact ⟨P, h1, h2, h.1⟩
    | none => exact ⟨H.zero, 3, false, .inr ⟨rfl, rfl⟩, Nat.zero_le _, fun W e W' => ⟨fun h => ⟨⟨W.heap.size, none, 0, W.heap.size, none, 0⟩, h.2, OwnH.zero _ _ _ (Nat.le_refl _), h.1⟩, fun h => ⟨⟨W.heap.size, none, 0, W.heap.size, none, 0⟩, h.2, (OwnH.zero W W' W.heap.size (Nat.le_refl _)).at_, h.1⟩⟩⟩
  clear hs h8 hl hn k1 rh hf hsn hh
  rcases hw with ⟨c, hw⟩ | ⟨l, hl, hw⟩
  · have HWA := Lib.hid hw
    clear hw
    rcases hC with ⟨rfl, rfl⟩ | ⟨rfl, rfl⟩
    all_goals
      go_enter Try.func4, Try.ntmps4
      go_wp2_with (first | (go_at_call 18; refine Calls.mono (HV1.out _ HB.out.beh) ?_; rintro e wy ⟨rfl, hb⟩; (have HB := Lib.hid (HB.out.on hb)); clear hb) | (go_at_call 19; refine Calls.mono (HW1.out _ HB.out.beh) ?_; intro e w1 he; (obtain ⟨rfl, hb⟩ := HWA.out _ _ _ he); (have HB := Lib.hid (HB.out.on hb)); clear he hb) | (go_at_call 20; refine Calls.mono (HW2.out _ HB.out.beh) ?_; intro e w2 he; (obtain ⟨rfl, hb⟩ := HWA.out _ _ _ he); (have HB := Lib.hid (HB.out.on hb)); clear he hb) | (go_at_call 13; refine Calls.mono (nil_same _) ?_; rintro e w3 ⟨rfl, hb⟩; (have HB := Lib.hid (HB.out.on hb)); clear hb) | (apply Bh.load_bx 0 HB.out Try.underlying48; rfl; rfl; rfl; rfl; rfl; kernel_rfl))
      refine Calls.mono (HTW.out _ HB.out.beh) ?_
      rintro e w4 ⟨b3, a3, u3, rfl, ho, hlo, hk, _⟩
      have HLO : Hid (w.heap.size + 1 ≤ b3) := Lib.hid (Nat.le_trans HB.out.lt hlo)
      have HB := Lib.hid (HB.out.on (beh_kept hk))
      have HO3 := Lib.hid ho
      have HLT : Hid (∀ k, Of a3 b3 k → k < w4.heap.size) := fun k e => by rw [e.2]; exact HO3.out.lt e.1
      clear ho hlo hk
      rw [← HN.out]
      go_wp2_with fail
      have HR1 : Hid (Calls Try.prog 22 #[.slice a3 n u3] w4 (RHrd F w4)) := by rw [HN.out]; exact ReadHard_any HO3.out.src HF.out.1 (by have := HF.out.2; omega)
      refine Calls.mono HR1.out ?_
      intro e w5 he
      obtain ⟨P, rfl, hP, hb⟩ := (HYZ.out.2 _ _ _).1 he
      have HB := Lib.hid (HB.out.on hb)
      have HO5 := Lib.hid (HO3.out.kept (kept_beh hb) (fun _ h => h.elim))
      have HP := Lib.hid hP
      have HSZ := Lib.hid hb.size
      have HY := Lib.hid (Bh.Bx.one w5 (H.zero.obj Hp.none))
      clear he hb hP HR1
      go_wp2_with (first | (apply Bh.store_bx 10 0 HY.out; rfl; rfl; rfl; rfl; rfl; rfl; kernel_rfl; rfl; rfl; intro wz hz; have HY := Lib.hid hz; (have HB := Lib.hid (HB.out.on hz.beh)); (have HO5 := Lib.hid (HO5.out.kept (kept_beh hz.beh) (fun _ h => h.elim))); (have HP := Lib.hid (HP.out.spoil (kept_beh hz.beh) (fun _ h => h.elim))); clear hz))
      have HSP := Lib.hid (Kp.Spoil_any b3 a3 u3 F _ HO5.out (by have := HF.out.2; omega))
      rw [← HN.out] at HSP
      refine Calls.mono HSP.out ?_
      rintro e w6 ⟨rfl, _, _, _, hk⟩
      have HYB : Hid (w6.heap[w5.heap.size]? = some (Y.obj P)) := hk.heap HY.out.b0 (fun e => by have := HLT.out _ e; have := HSZ.out; omega)
      have HPA := Lib.hid (HP.out.spoil hk HLT.out).at_
      have HB := Lib.hid (bx_kept HB.out hk (fun k e => by have := e.2; have := HLO.out; simp only [List.length_cons, List.length_nil]; omega))
      clear hk HSP HY HO5 HP
      go_wp2_with fail
      refine Calls.mono (HR2.out _ HB.out.beh) ?_
      intro e w7 he
      obtain ⟨Q, rfl, hQ, hb⟩ := (HYZ.out.2 _ _ _).2 he
      have HB := Lib.hid (HB.out.on hb)
      have HYB := Lib.hid (Bh.box_on HYB.out hb)
      have HPA := Lib.hid (HPA.out.on hb)
      have HQ := Lib.hid hQ
      have HZ := Lib.hid (Bh.Bx.one w7 (H.zero.obj Hp.none))
      clear he hb hQ
      go_wp2_with (first | (apply Bh.store_bx 10 0 HZ.out; rfl; rfl; rfl; rfl; rfl; rfl; kernel_rfl; rfl; rfl; intro wz hz; have HZ := Lib.hid hz; (have HB := Lib.hid (HB.out.on hz.beh)); (have HYB := Lib.hid (Bh.box_on HYB.out hz.beh)); (have HPA := Lib.hid (HPA.out.on hz.beh)); (have HQ := Lib.hid (HQ.out.on hz.beh)); clear hz) | (apply load_g HYB.out Try.underlying48; rfl; rfl; rfl; rfl; kernel_rfl) | (apply Bh.load_bx 0 HZ.out Try.underlying48; rfl; rfl; rfl; rfl; rfl; kernel_rfl) | (go_at_call 25; refine Calls.mono (keepHard_self Y P Q _ HPA.out HQ.out HYZ.out.1) ?_; rintro e w8 ⟨rfl, hb⟩; (have HB := Lib.hid (HB.out.on hb)); clear hb) | (go_at_call 17; refine Calls.mono ((HWK _).out) ?_; rintro e wk ⟨rfl, hb⟩; (have HB := Lib.hid (HB.out.on hb)); clear hb))
      go_ret
      exact ⟨rfl, HB.out.beh⟩
  · have HWA := Lib.hid hw
    obtain ⟨m, hm⟩ : ∃ m, m = l.length := ⟨_, rfl⟩
    have HM := Lib.hid hm
    clear hw hm
    rcases hC with ⟨rfl, rfl⟩ | ⟨rfl, rfl⟩
    all_goals
      go_enter Try.func4, Try.ntmps4
      go_wp2_with (first | (go_at_call 18; refine Calls.mono (HV1.out _ HB.out.beh) ?_; rintro e wy ⟨rfl, hb⟩; (have HB := Lib.hid (HB.out.on hb)); clear hb) | (apply Bh.load_bx 0 HB.out Try.underlying48; rfl; rfl; rfl; rfl; rfl; kernel_rfl))
      refine Calls.mono (HW1.out _ HB.out.beh) ?_
      intro e w1 he
      obtain ⟨b1, a1, u1, rfl, ho, hb⟩ := HWA.out _ _ _ he
      have HB := Lib.hid (HB.out.on hb)
      have HO1 := Lib.hid ho
      rw [← HM.out]
      clear he hb ho
      go_wp2_with (first | (apply Bh.load_bx 0 HB.out Try.underlying48; rfl; rfl; rfl; rfl; rfl; kernel_rfl))
      refine Calls.mono (HW2.out _ HB.out.beh) ?_
      intro e w2 he
      obtain ⟨b2, a2, u2, rfl, ho, hb⟩ := HWA.out _ _ _ he
      have HB := Lib.hid (HB.out.on hb)
      have HKB : Hid (Calls Try.prog 13 #[.slice a1 m u1, .slice a2 m u2] w2 fun e w' => e = .returned (.bool true) ∧ Below w2.heap.size w2 w') := by
        rw [HM.out]
        exact (Kp.KBytes_any b1 a1 u1 l b2 a2 u2 l w2 (HO1.out.kept (kept_beh hb) (fun _ h => h.elim)).src ho.src (by omega) (by omega)).mono fun _ _ h => same_true h
      rw [← HM.out]
      clear he hb ho HO1
      go_wp2_with (first | (go_at_call 13; refine Calls.mono HKB.out ?_; rintro e w3 ⟨rfl, hb⟩; (have HB := Lib.hid (HB.out.on hb)); clear hb) | (apply Bh.load_bx 0 HB.out Try.underlying48; rfl; rfl; rfl; rfl; rfl; kernel_rfl))
      refine Calls.mono (HTW.out _ HB.out.beh) ?_
      rintro e w4 ⟨b3, a3, u3, rfl, ho, hlo, hk, _⟩
      have HLO : Hid (w.heap.size + 1 ≤ b3) := Lib.hid (Nat.le_trans HB.out.lt hlo)
      have HB := Lib.hid (HB.out.on (beh_kept hk))
      have HO3 := Lib.hid ho
      have HLT : Hid (∀ k, Of a3 b3 k → k < w4.heap.size) := fun k e => by rw [e.2]; exact HO3.out.lt e.1
      clear ho hlo hk
      rw [← HN.out]
      go_wp2_with fail
      have HR1 : Hid (Calls Try.prog 22 #[.slice a3 n u3] w4 (RHrd F w4)) := by rw [HN.out]; exact ReadHard_any HO3.out.src HF.out.1 (by have := HF.out.2; omega)
      refine Calls.mono HR1.out ?_
      intro e w5 he
      obtain ⟨P, rfl, hP, hb⟩ := (HYZ.out.2 _ _ _).1 he
      have HB := Lib.hid (HB.out.on hb)
      have HO5 := Lib.hid (HO3.out.kept (kept_beh hb) (fun _ h => h.elim))
      have HP := Lib.hid hP
      have HSZ := Lib.hid hb.size
      have HY := Lib.hid (Bh.Bx.one w5 (H.zero.obj Hp.none))
      clear he hb hP HR1
      go_wp2_with (first | (apply Bh.store_bx 10 0 HY.out; rfl; rfl; rfl; rfl; rfl; rfl; kernel_rfl; rfl; rfl; intro wz hz; have HY := Lib.hid hz; (have HB := Lib.hid (HB.out.on hz.beh)); (have HO5 := Lib.hid (HO5.out.kept (kept_beh hz.beh) (fun _ h => h.elim))); (have HP := Lib.hid (HP.out.spoil (kept_beh hz.beh) (fun _ h => h.elim))); clear hz))
      have HSP := Lib.hid (Kp.Spoil_any b3 a3 u3 F _ HO5.out (by have := HF.out.2; omega))
      rw [← HN.out] at HSP
      refine Calls.mono HSP.out ?_
      rintro e w6 ⟨rfl, _, _, _, hk⟩
      have HYB : Hid (w6.heap[w5.heap.size]? = some (Y.obj P)) := hk.heap HY.out.b0 (fun e => by have := HLT.out _ e; have := HSZ.out; omega)
      have HPA := Lib.hid (HP.out.spoil hk HLT.out).at_
      have HB := Lib.hid (bx_kept HB.out hk (fun k e => by have := e.2; have := HLO.out; simp only [List.length_cons, List.length_nil]; omega))
      clear hk HSP HY HO5 HP
      go_wp2_with fail
      refine Calls.mono (HR2.out _ HB.out.beh) ?_
      intro e w7 he
      obtain ⟨Q, rfl, hQ, hb⟩ := (HYZ.out.2 _ _ _).2 he
      have HB := Lib.hid (HB.out.on hb)
      have HYB := Lib.hid (Bh.box_on HYB.out hb)
      have HPA := Lib.hid (HPA.out.on hb)
      have HQ := Lib.hid hQ
      have HZ := Lib.hid (Bh.Bx.one w7 (H.zero.obj Hp.none))
      clear he hb hQ
      go_wp2_with (first | (apply Bh.store_bx 10 0 HZ.out; rfl; rfl; rfl; rfl; rfl; rfl; kernel_rfl; rfl; rfl; intro wz hz; have HZ := Lib.hid hz; (have HB := Lib.hid (HB.out.on hz.beh)); (have HYB := Lib.hid (Bh.box_on HYB.out hz.beh)); (have HPA := Lib.hid (HPA.out.on hz.beh)); (have HQ := Lib.hid (HQ.out.on hz.beh)); clear hz) | (apply load_g HYB.out Try.underlying48; rfl; rfl; rfl; rfl; kernel_rfl) | (apply Bh.load_bx 0 HZ.out Try.underlying48; rfl; rfl; rfl; rfl; rfl; kernel_rfl) | (go_at_call 25; refine Calls.mono (keepHard_self Y P Q _ HPA.out HQ.out HYZ.out.1) ?_; rintro e w8 ⟨rfl, hb⟩; (have HB := Lib.hid (HB.out.on hb)); clear hb) | (go_at_call 17; refine Calls.mono ((HWK _).out) ?_; rintro e wk ⟨rfl, hb⟩; (have HB := Lib.hid (HB.out.on hb)); clear hb))
      go_ret
      exact ⟨rfl, HB.out.beh⟩
end Go.Proofs.Ytjdebdfbjcpjgaa.Wr
end
section
/- WireHards, in the form that its card wants. -/
namespace Go.Proofs.Ytjdebdfbjcpjgaa.Wr
open Go Go.RowKit Lg
theorem WireHards_told (y : H × Hp) (a : Option Addr) (len cap : Nat) (w : World) (hy : HardAt w y.1 y.2 ∧ RH y.1) (hx : Pk.BytesIn w a len cap) :
    Calls Try.prog 4 #[y.1.val y.2, .slice a len cap] w fun e w' => e = .returned (.bool true) ∧ Below w.heap.size w w' := by
  obtain ⟨b, l, rfl, h, h8⟩ := hx
  exact WireHards_law y.1 y.2 b a cap l w hy.1 hy.2 h h8
end Go.Proofs.Ytjdebdfbjcpjgaa.Wr
end
