import Derived.Test.YtjdebdfbjcpjgaaWireR7
import Derived.Test.YtjdebdfbjcpjgaaMergeWr20
/- The landed reader of package wire: hard. -/
namespace Go.Proofs.Ytjdebdfbjcpjgaa.Wr
open Go Go.RowKit Vl Kv Ss Cn Mem Lg Nm
attribute [local go_sem] Nm.run_bits Nm.run_frombits run_store_float
variable {w w' : World} {rb br bs : Nat} {l : List Nat}
/-- bytes of a call's own, behind block g -/
structure Pc (g : Nat) (W : World) (b : Nat) (a : Option Addr) (cap : Nat) (t : List Nat) : Prop where
  own : OwnB 5 W b a cap t
  hi : g < b
/-- entries of a call's own, behind block g -/
structure Pe (g : Nat) (W : World) (b : Nat) (a : Option Addr) (cap : Nat) (L : List E) : Prop where
  own : Li.OwnL 32 W b a cap L
  hi : g < b
variable {g k b cap : Nat} {a : Option Addr} {t : List Nat} {L : List E} {W W' : World}
theorem Pc.call (h : Pc g W b a cap t) (hk : Kept (Only br) W W') (hbr : br ≤ g) : Pc g W' b a cap t := ⟨h.own.kept hk (fun _ e => by have e : b = br := e; have := h.hi; omega), h.hi⟩
theorem Pc.els (h : Pc g W b a cap t) (x : Bh.Else k W W') (hk : k ≤ g) : Pc g W' b a cap t := ⟨ownB_else h.own x (by have := h.hi; omega), h.hi⟩
theorem Pe.call (h : Pe g W b a cap L) (hk : Kept (Only br) W W') (hbr : br ≤ g) : Pe g W' b a cap L := ⟨OwnC.kept h.own hk (fun _ e => by have e : b = br := e; have := h.hi; omega), h.hi⟩
theorem Pe.els (h : Pe g W b a cap L) (x : Bh.Else k W W') (hk : k ≤ g) : Pe g W' b a cap L := ⟨ownL_else h.own x (by have := h.hi; omega), h.hi⟩
theorem Pc.beh (h : Pc g W b a cap t) (hb : Beh W W') : Pc g W' b a cap t := ⟨h.own.kept (kept_beh hb) (fun _ h => h), h.hi⟩
theorem Pe.beh (h : Pe g W b a cap L) (hb : Beh W W') : Pe g W' b a cap L := ⟨Li.OwnL.kept h.own hb, h.hi⟩
/-- the parts of a hard state that a call has made -/
structure OwnH (w w' : World) (h : H) (p : Hp) : Prop where
  snap : OwnB 5 w' p.sb p.sa p.sc h.snap
  snew : w.heap.size ≤ p.sb
  log : Li.OwnL 32 w' p.lb p.la p.lc h.log
  lnew : w.heap.size ≤ p.lb
/-- what hard leaves -/
def Hgot (rb br bs : Nat) (l : List Nat) (w : World) (x : Ending) (w' : World) : Prop :=
  Kept (Only br) w w' ∧ match cHard.rd l with
    | some (h, r) => (∃ p, x = .returned (h.val p) ∧ OwnH w w' h p) ∧ Rs w' rb br bs r
    | none => x = .panicked thr
theorem Hgot.some {h : H} {r : List Nat} {x : Ending} (hx : Hgot rb br bs l w x w') (hd : cHard.rd l = some (h, r)) : (∃ p, x = .returned (h.val p) ∧ OwnH w w' h p) ∧ Rs w' rb br bs r ∧ Kept (Only br) w w' := by
  unfold Hgot at hx; rw [hd] at hx; exact ⟨hx.2.1, hx.2.2, hx.1⟩
theorem Hgot.none {x : Ending} (hx : Hgot rb br bs l w x w') (hd : cHard.rd l = none) : x = .panicked thr ∧ Kept (Only br) w w' := by
  unfold Hgot at hx; rw [hd] at hx; exact ⟨hx.2, hx.1⟩
theorem Hgot.no (hd : cHard.rd l = Option.none) (hk : Kept (Only br) w w') : Hgot rb br bs l w (.panicked thr) w' := by
  unfold Hgot; rw [hd]; exact ⟨hk, rfl⟩
theorem Fr2.left {w W : World} {rb br bs gr gx : Nat} {r : List Nat} {R X : Obj} (h : Fr2 w rb br bs r gr R gx X W) : Calls Try.prog 93 #[.pointer (some ⟨br, 0, none⟩)] W fun e w' => e = .returned (.int .i64 r.length) ∧ W = w' := Pk.Left_any br bs r 0 W h.rs.rd
set_option maxHeartbeats 6400000 in
set_option maxRecDepth 100000 in
theorem rhard_any (h : Rs w rb br bs l) : Calls Try.prog 51 #[.pointer (some ⟨rb, 0, none⟩)] w (Hgot rb br bs l w) := by
  have HF := Lib.hid (Fr1.start h (H.zero.obj Hp.none))
  have hb8 := h.b8
  clear h
  go_enter Try.func51, Try.ntmps51
  have HC1 := Lib.hid (number_any HF.out.rs)
  have hb81 := HF.out.rs.b8
  cases hd1 : cInt.rd l with
  | none =>
    go_wp2_with fail
    refine HC1.out.mono ?_
    rintro e wq hx
    obtain ⟨rfl, hk⟩ := hx.none hd1
    go_wp2_with fail
    exact ⟨rfl, Hgot.no (as_no (seq_no1 hd1)) (HF.out.kept.trans hk)⟩
  | some p1 =>
    obtain ⟨n1, r1⟩ := p1
    go_wp2_with fail
    refine HC1.out.mono ?_
    rintro e wq hx
    obtain ⟨rfl, hs, hk⟩ := hx.some hd1
    have HF := Lib.hid (HF.out.call hs hk (rd_le cInt hb81 hd1))
    clear hx hs hk HC1 hb81
    have HC2 := Lib.hid (number_any HF.out.rs)
    have hb82 := HF.out.rs.b8
    cases hd2 : cInt.rd r1 with
    | none =>
      go_wp2_with fail
      refine HC2.out.mono ?_
      rintro e wq hx
      obtain ⟨rfl, hk⟩ := hx.none hd2
      go_wp2_with fail
      exact ⟨rfl, Hgot.no (as_no (seq_no2 hd1 (seq_no1 hd2))) (HF.out.kept.trans hk)⟩
    | some p2 =>
      obtain ⟨n2, r2⟩ := p2
      go_wp2_with fail
      refine HC2.out.mono ?_
      rintro e wq hx
      obtain ⟨rfl, hs, hk⟩ := hx.some hd2
      have HF := Lib.hid (HF.out.call hs hk (rd_le cInt hb82 hd2))
      clear hx hs hk HC2 hb82
      have HC3 := Lib.hid (number_any HF.out.rs)
      have hb83 := HF.out.rs.b8
      cases hd3 : cInt.rd r2 with
      | none =>
        go_wp2_with fail
        refine HC3.out.mono ?_
        rintro e wq hx
        obtain ⟨rfl, hk⟩ := hx.none hd3
        go_wp2_with fail
        exact ⟨rfl, Hgot.no (as_no (seq_no2 hd1 (seq_no2 hd2 (seq_no1 hd3)))) (HF.out.kept.trans hk)⟩
      | some p3 =>
        obtain ⟨n3, r3⟩ := p3
        go_wp2_with fail
        refine HC3.out.mono ?_
        rintro e wq hx
        obtain ⟨rfl, hs, hk⟩ := hx.some hd3
        have HF := Lib.hid (HF.out.call hs hk (rd_le cInt hb83 hd3))
        clear hx hs hk HC3 hb83
        have HC4 := Lib.hid (number_any HF.out.rs)
        have hb84 := HF.out.rs.b8
        cases hd4 : cInt.rd r3 with
        | none =>
          go_wp2_with fail
          refine HC4.out.mono ?_
          rintro e wq hx
          obtain ⟨rfl, hk⟩ := hx.none hd4
          go_wp2_with fail
          exact ⟨rfl, Hgot.no (as_no (seq_no2 hd1 (seq_no2 hd2 (seq_no2 hd3 (seq_no1 hd4))))) (HF.out.kept.trans hk)⟩
        | some p4 =>
          obtain ⟨n4, r4⟩ := p4
          go_wp2_with fail
          refine HC4.out.mono ?_
          rintro e wq hx
          obtain ⟨rfl, hs, hk⟩ := hx.some hd4
          have HF := Lib.hid (HF.out.call hs hk (rd_le cInt hb84 hd4))
          clear hx hs hk HC4 hb84
          have HX := Lib.hid (HF.out.more (H.zero.obj Hp.none))
          go_wp2_with (first | (apply store_g 10 HX.out.xbox; rfl; rfl; rfl; rfl; rfl; kernel_rfl; rfl; rfl; intro wz hz he; have HX := Lib.hid (HX.out.setX hz he); clear hz he))
          have HC5 := Lib.hid (rconf_any HX.out.rs)
          have hb85 := HX.out.rs.b8
          cases hd5 : cConf.rd r4 with
          | none =>
            refine HC5.out.mono ?_
            rintro e wq hx
            obtain ⟨rfl, hk⟩ := hx.none hd5
            go_wp2_with fail
            exact ⟨rfl, Hgot.no (as_no (seq_no2 hd1 (seq_no2 hd2 (seq_no2 hd3 (seq_no2 hd4 (seq_no1 hd5)))))) (HX.out.kept.trans hk)⟩
          | some p5 =>
            obtain ⟨n5, r5⟩ := p5
            refine HC5.out.mono ?_
            rintro e wq hx
            obtain ⟨rfl, hs, hk⟩ := hx.some hd5
            have HX := Lib.hid (HX.out.callx hs hk (rd_le cConf hb85 hd5))
            clear hx hs hk HC5 hb85
            go_wp2_with (first | (apply store_gm HX.out.xbox; rfl; rfl; rfl; rfl; rfl; kernel_rfl; rfl; rfl; intro wz hz he; (try simp only [splice, List.setIfInBounds_toArray, List.set_cons_succ, List.set_cons_zero, Nat.reduceAdd] at hz); have HX := Lib.hid (HX.out.setX hz he); clear hz he))
            have HXB := Lib.hid HX.out.xbox
            have HC6 := Lib.hid (text_any HX.out.rs)
            have hb86 := HX.out.rs.b8
            cases hd6 : rdT r5 with
            | none =>
              refine HC6.out.mono ?_
              rintro e wq hx
              obtain ⟨rfl, hk⟩ := hx.none hd6
              go_wp2_with fail
              exact ⟨rfl, Hgot.no (as_no (seq_no2 hd1 (seq_no2 hd2 (seq_no2 hd3 (seq_no2 hd4 (seq_no2 hd5 (seq_no1 (A := cText) hd6))))))) (HX.out.kept.trans hk)⟩
            | some p6 =>
              obtain ⟨n6, r6⟩ := p6
              refine HC6.out.mono ?_
              rintro e wq hx
              obtain ⟨⟨bt, at_, ct, rfl, ho, hn6⟩, hs, hk⟩ := hx.some hd6
              have HX := Lib.hid (HX.out.callx hs hk (rd_le cText hb86 hd6))
              have HT := Lib.hid (Pc.mk ho (Nat.lt_of_lt_of_le (heap_lt HXB.out) hn6))
              clear hx hs hk HC6 hb86 ho hn6 HXB
              have hbx := Lib.hid HX.out.rs.box
              go_wp2_with (first | (apply store_g1 HX.out.xbox; rfl; rfl; rfl; rfl; rfl; rfl; kernel_rfl; rfl; intro wz hz he; (try simp only [List.setIfInBounds_toArray, List.set_cons_succ, List.set_cons_zero] at hz); have HX := Lib.hid (HX.out.setX hz he); (have HT := Lib.hid (HT.out.els he (Nat.le_refl _))); (have RB := Bh.cells1 HX.out.rs.box); clear hz he) | (go_at_call 93; refine Calls.mono HX.out.left ?_; rintro e wl ⟨rfl, rfl⟩; (have RB := Bh.cells1 HX.out.rs.box)))
              have HC7 := Lib.hid (rentries_any HX.out.rs (r6.length : Int))
              have hb87 := HX.out.rs.b8
              cases hd7 : (cLi cEnt (r6.length : Int)).rd r6 with
              | none =>
                refine HC7.out.mono ?_
                rintro e wq hx
                obtain ⟨rfl, hk⟩ := hx.none hd7
                rw [list_all hb87] at hd7
                go_wp2_with fail
                exact ⟨rfl, Hgot.no (as_no (seq_no2 hd1 (seq_no2 hd2 (seq_no2 hd3 (seq_no2 hd4 (seq_no2 hd5 (seq_no2 (A := cText) hd6 hd7))))))) (HX.out.kept.trans hk)⟩
              | some p7 =>
                obtain ⟨n7, r7⟩ := p7
                have hle7 := rd_le (cLi cEnt (r6.length : Int)) hb87 hd7
                refine HC7.out.mono ?_
                rintro e wq hx
                obtain ⟨⟨be, ae, ce, rfl, ho, hn7⟩, hs, hk⟩ := hx.some hd7
                rw [list_all hb87] at hd7
                have HEE := Lib.hid (Pe.mk ho (Nat.lt_of_lt_of_le (heap_lt HX.out.xbox) hn7))
                have HT := Lib.hid (HT.out.call hk (by have := HX.out.lbr; have := HX.out.xlo; omega))
                have HX := Lib.hid (HX.out.callx hs hk hle7)
                clear hx hs hk HC7 ho hn7
                clear RB
                have HLE := Lib.hid HX.out.xlo
                go_wp2_with (first | (apply store_g1 HX.out.xbox; rfl; rfl; rfl; rfl; rfl; rfl; kernel_rfl; rfl; intro wz hz he; (try simp only [List.setIfInBounds_toArray, List.set_cons_succ, List.set_cons_zero] at hz); have HX := Lib.hid (HX.out.setX hz he); (have HT := Lib.hid (HT.out.els he (Nat.le_refl _))); (have HEE := Lib.hid (HEE.out.els he (Nat.le_refl _))); clear hz he) | (apply load_g HX.out.xbox Try.underlying48; rfl; rfl; rfl; rfl; kernel_rfl) | (apply store_g 10 HX.out.box; rfl; rfl; rfl; rfl; rfl; kernel_rfl; rfl; rfl; intro wz hz he; have HX := Lib.hid (HX.out.setR hz he); (have HT := Lib.hid (HT.out.els he HLE.out)); (have HEE := Lib.hid (HEE.out.els he HLE.out)); clear hz he))
                (try simp only [Exit.inBlock, Exit.then])
                refine bodyPost_ret (v := H.val ⟨n1, n2, n3, n4, n5, n6, n7⟩ ⟨bt, at_, ct, be, ae, ce⟩) (Bh.results_cell_row1 rfl _ _ _ _ _ _ _ rfl HX.out.box Try.underlying48 rfl (by kernel_rfl)) rfl ?_
                have hlo := HX.out.xlo
                refine ⟨HX.out.kept, ?_⟩
                rw [show cHard.rd l = some (⟨n1, n2, n3, n4, n5, n6, n7⟩, r7) from as_yes (seq_yes hd1 (seq_yes hd2 (seq_yes hd3 (seq_yes hd4 (seq_yes hd5 (seq_yes (A := cText) hd6 hd7))))))]
                exact ⟨⟨⟨bt, at_, ct, be, ae, ce⟩, rfl, ⟨HT.out.own, by have := HT.out.hi; show w.heap.size ≤ bt; omega, HEE.out.own, by have := HEE.out.hi; show w.heap.size ≤ be; omega⟩⟩, HX.out.rs⟩
end Go.Proofs.Ytjdebdfbjcpjgaa.Wr
