/- The landed reader of package wire: call. -/
import Derived.Test.YtaengjgmchpabaaGreatWireR4
import Derived.Test.YtaengjgmchpabaaGreatWireW3
namespace Go.Proofs.YtaengjgmchpabaaGreat.Wr
open Go Go.RowKit Vl Kv Ss Cn Mem Lg Nm
attribute [local go_sem] Nm.run_bits Nm.run_frombits run_store_float
variable {w w' : World} {rb br bs : Nat} {l : List Nat}
set_option maxHeartbeats 6400000 in
set_option maxRecDepth 100000 in
theorem rcall_any (h : Rs w rb br bs l) : Calls Tryz.prog 88 #[.pointer (some ⟨rb, 0, none⟩)] w (Rgot cCall.rd callVal rb br bs l w) := by
  have HF := Lib.hid (Fr1.start h (callCells Cl.zero))
  clear h
  go_enter Tryz.func88, Tryz.ntmps88
  have HC1 := Lib.hid (number_any HF.out.rs)
  have hb81 := HF.out.rs.b8
  cases hd1 : cInt.rd l with
  | none =>
    go_wp2_with fail
    refine HC1.out.mono ?_
    rintro e wq hx
    obtain ⟨rfl, hk⟩ := hx.none hd1
    go_wp2_with fail
    exact ⟨rfl, Rgot.no (as_no (seq_no1 hd1)) (HF.out.kept.trans hk)⟩
  | some p1 =>
    obtain ⟨n1, r1⟩ := p1
    go_wp2_with fail
    refine HC1.out.mono ?_
    rintro e wq hx
    obtain ⟨rfl, hs, hk⟩ := hx.some hd1
    have HF := Lib.hid (HF.out.call hs hk (rd_le cInt hb81 hd1))
    clear hx hs hk HC1 hb81
    have HC2 := Lib.hid (number_any HF.out.rs)
    have hb82 := HF.out.rs.b8
    cases hd2 : cInt.rd r1 with
    | none =>
      go_wp2_with fail
      refine HC2.out.mono ?_
      rintro e wq hx
      obtain ⟨rfl, hk⟩ := hx.none hd2
      go_wp2_with fail
      exact ⟨rfl, Rgot.no (as_no (seq_no2 hd1 (seq_no1 hd2))) (HF.out.kept.trans hk)⟩
    | some p2 =>
      obtain ⟨n2, r2⟩ := p2
      go_wp2_with fail
      refine HC2.out.mono ?_
      rintro e wq hx
      obtain ⟨rfl, hs, hk⟩ := hx.some hd2
      have HF := Lib.hid (HF.out.call hs hk (rd_le cInt hb82 hd2))
      clear hx hs hk HC2 hb82
      have HX := Lib.hid (HF.out.more (callCells Cl.zero))
      go_wp2_with (first | (apply store_g 10 HX.out.xbox; rfl; rfl; rfl; rfl; rfl; kernel_rfl; rfl; rfl; intro wz hz he; have HX := Lib.hid (HX.out.setX hz he); clear hz he))
      have HC3 := Lib.hid (number_any HX.out.rs)
      have hb83 := HX.out.rs.b8
      cases hd3 : cInt.rd r2 with
      | none =>
        refine HC3.out.mono ?_
        rintro e wq hx
        obtain ⟨rfl, hk⟩ := hx.none hd3
        go_wp2_with fail
        exact ⟨rfl, Rgot.no (as_no (seq_no2 hd1 (seq_no2 hd2 (as_no (seq_no1 hd3))))) (HX.out.kept.trans hk)⟩
      | some p3 =>
        obtain ⟨n3, r3⟩ := p3
        refine HC3.out.mono ?_
        rintro e wq hx
        obtain ⟨rfl, hs, hk⟩ := hx.some hd3
        have HX := Lib.hid (HX.out.callx hs hk (rd_le cInt hb83 hd3))
        clear hx hs hk HC3 hb83
        go_wp2_with (first | (apply store_g1 HX.out.xbox; rfl; rfl; rfl; rfl; rfl; rfl; kernel_rfl; rfl; intro wz hz he; (try simp only [List.setIfInBounds_toArray, List.set_cons_succ, List.set_cons_zero] at hz); have HX := Lib.hid (HX.out.setX hz he); clear hz he))
        have HC4 := Lib.hid (text_any HX.out.rs)
        have hb84 := HX.out.rs.b8
        cases hd4 : rdT r3 with
        | none =>
          refine HC4.out.mono ?_
          rintro e wq hx
          obtain ⟨rfl, hk⟩ := hx.none hd4
          go_wp2_with fail
          exact ⟨rfl, Rgot.no (as_no (seq_no2 hd1 (seq_no2 hd2 (as_no (seq_no2 hd3 (seq_no1 (key_no hd4))))))) (HX.out.kept.trans hk)⟩
        | some p4 =>
          obtain ⟨n4, r4⟩ := p4
          refine HC4.out.mono ?_
          rintro e wq hx
          obtain ⟨⟨bt, at_, ct, rfl, ho, _⟩, hs, hk⟩ := hx.some hd4
          have kc := run_lb wq bt at_ ct _ n4 rfl ho
          clear ho
          have HX := Lib.hid (HX.out.callx hs hk (rd_le cText hb84 hd4))
          clear hx hs hk HC4 hb84
          go_wp2_with (first | (apply store_g1 HX.out.xbox; rfl; rfl; rfl; rfl; rfl; rfl; kernel_rfl; rfl; intro wz hz he; (try simp only [List.setIfInBounds_toArray, List.set_cons_succ, List.set_cons_zero] at hz); have HX := Lib.hid (HX.out.setX hz he); clear hz he))
          have HC5 := Lib.hid (rvalue_any HX.out.rs)
          have hb85 := HX.out.rs.b8
          cases hd5 : cVal.rd r4 with
          | none =>
            refine HC5.out.mono ?_
            rintro e wq hx
            obtain ⟨rfl, hk⟩ := hx.none hd5
            go_wp2_with fail
            exact ⟨rfl, Rgot.no (as_no (seq_no2 hd1 (seq_no2 hd2 (as_no (seq_no2 hd3 (seq_no2 (key_yes hd4) (seq_no1 hd5))))))) (HX.out.kept.trans hk)⟩
          | some p5 =>
            obtain ⟨n5, r5⟩ := p5
            refine HC5.out.mono ?_
            rintro e wq hx
            obtain ⟨rfl, hs, hk⟩ := hx.some hd5
            have HX := Lib.hid (HX.out.callx hs hk (rd_le cVal hb85 hd5))
            clear hx hs hk HC5 hb85
            go_wp2_with (first | (apply store_gm HX.out.xbox; rfl; rfl; rfl; rfl; rfl; kernel_rfl; rfl; rfl; intro wz hz he; (try simp only [splice, List.setIfInBounds_toArray, List.set_cons_succ, List.set_cons_zero, Nat.reduceAdd] at hz); have HX := Lib.hid (HX.out.setX hz he); clear hz he))
            have HC6 := Lib.hid (rvalue_any HX.out.rs)
            have hb86 := HX.out.rs.b8
            cases hd6 : cVal.rd r5 with
            | none =>
              refine HC6.out.mono ?_
              rintro e wq hx
              obtain ⟨rfl, hk⟩ := hx.none hd6
              go_wp2_with fail
              exact ⟨rfl, Rgot.no (as_no (seq_no2 hd1 (seq_no2 hd2 (as_no (seq_no2 hd3 (seq_no2 (key_yes hd4) (seq_no2 hd5 hd6))))))) (HX.out.kept.trans hk)⟩
            | some p6 =>
              obtain ⟨n6, r6⟩ := p6
              refine HC6.out.mono ?_
              rintro e wq hx
              obtain ⟨rfl, hs, hk⟩ := hx.some hd6
              have HX := Lib.hid (HX.out.callx hs hk (rd_le cVal hb86 hd6))
              clear hx hs hk HC6 hb86
              go_wp2_with (first | (apply store_gm HX.out.xbox; rfl; rfl; rfl; rfl; rfl; kernel_rfl; rfl; rfl; intro wz hz he; (try simp only [splice, List.setIfInBounds_toArray, List.set_cons_succ, List.set_cons_zero, Nat.reduceAdd] at hz); have HX := Lib.hid (HX.out.setX hz he); clear hz he) | (apply load_g HX.out.xbox Tryz.underlying68; rfl; rfl; rfl; rfl; kernel_rfl) | (apply store_g 10 HX.out.box; rfl; rfl; rfl; rfl; rfl; kernel_rfl; rfl; rfl; intro wz hz he; have HX := Lib.hid (HX.out.setR hz he); clear hz he))
              (try simp only [Exit.inBlock, Exit.then])
              refine bodyPost_ret (v := callVal ⟨n1, n2, n3, lb n4, n5, n6⟩) (Bh.results_cell_row1 rfl _ _ _ _ _ _ _ rfl HX.out.box Tryz.underlying68 rfl (by kernel_rfl)) rfl ?_
              exact Rgot.yes (as_yes (seq_yes hd1 (seq_yes hd2 (as_yes (seq_yes hd3 (seq_yes (key_yes hd4) (seq_yes hd5 hd6))))))) rfl HX.out.rs HX.out.kept
end Go.Proofs.YtaengjgmchpabaaGreat.Wr
