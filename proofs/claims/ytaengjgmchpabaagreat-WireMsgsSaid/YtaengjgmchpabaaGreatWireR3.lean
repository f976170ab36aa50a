import Derived.Test.YtaengjgmchpabaaGreatMergeWr15
/- The landed reader of package wire: conf. -/
namespace Go.Proofs.YtaengjgmchpabaaGreat.Wr
open Go Go.RowKit Vl Kv Ss Cn Mem Lg Nm
attribute [local go_sem] Nm.run_bits Nm.run_frombits run_store_float
variable {w w' : World} {rb br bs : Nat} {l : List Nat}
set_option maxHeartbeats 3200000 in
set_option maxRecDepth 100000 in
theorem rconf_any (h : Rs w rb br bs l) : Calls Tryz.prog 54 #[.pointer (some ⟨rb, 0, none⟩)] w (Rgot cConf.rd C.val rb br bs l w) := by
  have HF := Lib.hid (Fr1.start h (Lg.C.obj C.zero))
  clear h
  go_enter Tryz.func54, Tryz.ntmps54
  have HC1 := Lib.hid (number_any HF.out.rs)
  have hb81 := HF.out.rs.b8
  cases hd1 : cInt.rd l with
  | none =>
    go_wp2_with fail
    refine HC1.out.mono ?_
    rintro e wq hx
    obtain ⟨rfl, hk⟩ := hx.none hd1
    go_wp2_with fail
    exact ⟨rfl, Rgot.no (as_no (seq_no1 hd1)) (HF.out.kept.trans hk)⟩
  | some p1 =>
    obtain ⟨n1, r1⟩ := p1
    go_wp2_with fail
    refine HC1.out.mono ?_
    rintro e wq hx
    obtain ⟨rfl, hs, hk⟩ := hx.some hd1
    have hl1 := rd_le cInt hb81 hd1
    have HF := Lib.hid (HF.out.call hs hk hl1)
    clear hx hs hk HC1 hb81
    have HC2 := Lib.hid (number_any HF.out.rs)
    have hb82 := HF.out.rs.b8
    cases hd2 : cInt.rd r1 with
    | none =>
      go_wp2_with fail
      refine HC2.out.mono ?_
      rintro e wq hx
      obtain ⟨rfl, hk⟩ := hx.none hd2
      go_wp2_with fail
      exact ⟨rfl, Rgot.no (as_no (seq_no2 hd1 (seq_no1 hd2))) (HF.out.kept.trans hk)⟩
    | some p2 =>
      obtain ⟨n2, r2⟩ := p2
      go_wp2_with fail
      refine HC2.out.mono ?_
      rintro e wq hx
      obtain ⟨rfl, hs, hk⟩ := hx.some hd2
      have hl2 := rd_le cInt hb82 hd2
      have HF := Lib.hid (HF.out.call hs hk hl2)
      clear hx hs hk HC2 hb82
      have HC3 := Lib.hid (number_any HF.out.rs)
      have hb83 := HF.out.rs.b8
      cases hd3 : cInt.rd r2 with
      | none =>
        go_wp2_with fail
        refine HC3.out.mono ?_
        rintro e wq hx
        obtain ⟨rfl, hk⟩ := hx.none hd3
        go_wp2_with fail
        exact ⟨rfl, Rgot.no (as_no (seq_no2 hd1 (seq_no2 hd2 (seq_no1 hd3)))) (HF.out.kept.trans hk)⟩
      | some p3 =>
        obtain ⟨n3, r3⟩ := p3
        go_wp2_with fail
        refine HC3.out.mono ?_
        rintro e wq hx
        obtain ⟨rfl, hs, hk⟩ := hx.some hd3
        have hl3 := rd_le cInt hb83 hd3
        have HF := Lib.hid (HF.out.call hs hk hl3)
        clear hx hs hk HC3 hb83
        have HC4 := Lib.hid (number_any HF.out.rs)
        have hb84 := HF.out.rs.b8
        cases hd4 : cInt.rd r3 with
        | none =>
          go_wp2_with fail
          refine HC4.out.mono ?_
          rintro e wq hx
          obtain ⟨rfl, hk⟩ := hx.none hd4
          go_wp2_with fail
          exact ⟨rfl, Rgot.no (as_no (seq_no2 hd1 (seq_no2 hd2 (seq_no2 hd3 hd4)))) (HF.out.kept.trans hk)⟩
        | some p4 =>
          obtain ⟨n4, r4⟩ := p4
          go_wp2_with fail
          refine HC4.out.mono ?_
          rintro e wq hx
          obtain ⟨rfl, hs, hk⟩ := hx.some hd4
          have hl4 := rd_le cInt hb84 hd4
          have HF := Lib.hid (HF.out.call hs hk hl4)
          clear hx hs hk HC4 hb84
          go_wp2_with (first | (apply store_g 4 HF.out.box; rfl; rfl; rfl; rfl; rfl; kernel_rfl; rfl; rfl; intro wz hz he; have HF := Lib.hid (HF.out.set hz he); clear hz he))
          (try simp only [Exit.inBlock, Exit.then])
          refine bodyPost_ret (v := C.val ⟨n1, n2, n3, n4⟩) (Bh.results_cell_row1 rfl _ _ _ _ _ _ _ rfl HF.out.box Tryz.underlying24 rfl (by kernel_rfl)) rfl ?_
          exact Rgot.yes (as_yes (seq_yes hd1 (seq_yes hd2 (seq_yes hd3 hd4)))) rfl HF.out.rs HF.out.kept
end Go.Proofs.YtaengjgmchpabaaGreat.Wr
