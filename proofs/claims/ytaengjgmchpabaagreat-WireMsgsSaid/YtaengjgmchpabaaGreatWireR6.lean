/- The landed reader of package wire: entry. -/
import Derived.Test.YtaengjgmchpabaaGreatWireR5
namespace Go.Proofs.YtaengjgmchpabaaGreat.Wr
open Go Go.RowKit Vl Kv Ss Cn Mem Lg Nm
attribute [local go_sem] Nm.run_bits Nm.run_frombits run_store_float
variable {w w' : World} {rb br bs : Nat} {l : List Nat}
theorem up_no {most : Int} {q : List Nat} (h : rdUp most q = none) : (∃ n r, cInt.rd q = some (n, r) ∧ ¬ (0 ≤ n ∧ n ≤ most)) ∨ cInt.rd q = none := by
  cases hd : cInt.rd q with
  | none => exact .inr rfl
  | some p =>
    obtain ⟨n, r⟩ := p
    by_cases hn : 0 ≤ n ∧ n ≤ most
    · rw [rdUp_yes hd hn.1 hn.2] at h; cases h
    · exact .inl ⟨n, r, rfl, hn⟩
theorem entPart_far (n : Int) (hn : ¬ (0 ≤ n ∧ n ≤ 2)) (q : List Nat) : (entPart n).rd q = none := by
  unfold entPart
  rw [if_neg (by omega), if_neg (by omega), if_neg (by omega)]
  rfl
theorem ent_no2 {l q : List Nat} {t : Int} (h1 : cInt.rd l = some (t, q)) (h2 : rdUp 2 q = none) : cEnt.rd l = none := by
  rcases up_no h2 with ⟨n, r, hd, hn⟩ | hd
  · exact as_no (sel_no2 (seq_yes h1 hd) (entPart_far n hn r))
  · exact as_no (sel_no1 (seq_no2 h1 hd))
theorem ep1_no {r : List Nat} (h : cCall.rd r = none) : (entPart 1).rd r = none := emb_no (A := cCall) (f := fun c => (c, C.zero)) (g := Prod.fst) (hg := fun _ _ => rfl) h
theorem ep1_yes {r q : List Nat} {y : Cl} (h : cCall.rd r = some (y, q)) : (entPart 1).rd r = some ((y, C.zero), q) := emb_yes (A := cCall) (f := fun c => (c, C.zero)) (g := Prod.fst) (hg := fun _ _ => rfl) h
theorem ep2_no {r : List Nat} (h : cConf.rd r = none) : (entPart 2).rd r = none := emb_no (A := cConf) (f := fun c => (Cl.zero, c)) (g := Prod.snd) (hg := fun _ _ => rfl) h
theorem ep2_yes {r q : List Nat} {y : C} (h : cConf.rd r = some (y, q)) : (entPart 2).rd r = some ((Cl.zero, y), q) := emb_yes (A := cConf) (f := fun c => (Cl.zero, c)) (g := Prod.snd) (hg := fun _ _ => rfl) h
set_option maxHeartbeats 6400000 in
set_option maxRecDepth 100000 in
theorem rentry_any (h : Rs w rb br bs l) : Calls Tryz.prog 76 #[.pointer (some ⟨rb, 0, none⟩)] w (Rgot cEnt.rd E.agg rb br bs l w) := by
  have HF := Lib.hid (Fr1.start h E.zero.obj)
  clear h
  go_enter Tryz.func76, Tryz.ntmps76
  have HC1 := Lib.hid (number_any HF.out.rs)
  have hb81 := HF.out.rs.b8
  cases hd1 : cInt.rd l with
  | none =>
    go_wp2_with fail
    refine HC1.out.mono ?_
    rintro e wq hx
    obtain ⟨rfl, hk⟩ := hx.none hd1
    go_wp2_with fail
    exact ⟨rfl, Rgot.no (as_no (sel_no1 (seq_no1 hd1))) (HF.out.kept.trans hk)⟩
  | some p1 =>
    obtain ⟨n1, r1⟩ := p1
    go_wp2_with fail
    refine HC1.out.mono ?_
    rintro e wq hx
    obtain ⟨rfl, hs, hk⟩ := hx.some hd1
    have HF := Lib.hid (HF.out.call hs hk (rd_le cInt hb81 hd1))
    clear hx hs hk HC1 hb81
    have HC2 := Lib.hid (rupTo_any HF.out.rs 2)
    have hb82 := HF.out.rs.b8
    cases hd2 : rdUp 2 r1 with
    | none =>
      go_wp2_with fail
      refine HC2.out.mono ?_
      rintro e wq hx
      obtain ⟨rfl, hk⟩ := hx.none hd2
      go_wp2_with fail
      exact ⟨rfl, Rgot.no (ent_no2 hd1 hd2) (HF.out.kept.trans hk)⟩
    | some p2 =>
      obtain ⟨n2, r2⟩ := p2
      go_wp2_with fail
      refine HC2.out.mono ?_
      rintro e wq hx
      obtain ⟨rfl, hs, hk⟩ := hx.some hd2
      have HF := Lib.hid (HF.out.call hs hk (rdUp_le hb82 hd2))
      clear hx hs hk HC2 hb82
      have HX := Lib.hid (HF.out.more E.zero.obj)
      obtain ⟨hi, hk0, hk2⟩ := rdUp_int hd2
      have hcase : n2 = 1 ∨ n2 = 2 ∨ n2 = 0 := by omega
      clear hk0 hk2
      rcases hcase with rfl | rfl | rfl
      · go_wp2_with (first | (apply store_g 16 HX.out.xbox; rfl; rfl; rfl; rfl; rfl; kernel_rfl; rfl; rfl; intro wz hz he; have HX := Lib.hid (HX.out.setX hz he); clear hz he; obtain ⟨_, x1, _⟩ := Lg.cells16 HX.out.xbox))
        have HC3 := Lib.hid (rcall_any HX.out.rs)
        have hb83 := HX.out.rs.b8
        cases hd3 : cCall.rd r2 with
        | none =>
          refine HC3.out.mono ?_
          rintro e wq hx
          obtain ⟨rfl, hk⟩ := hx.none hd3
          go_wp2_with fail
          exact ⟨rfl, Rgot.no (as_no (sel_no2 (seq_yes hd1 hi) (ep1_no hd3))) (HX.out.kept.trans hk)⟩
        | some p3 =>
          obtain ⟨n3, r3⟩ := p3
          refine HC3.out.mono ?_
          rintro e wq hx
          obtain ⟨rfl, hs, hk⟩ := hx.some hd3
          have HX := Lib.hid (HX.out.callx hs hk (rd_le cCall hb83 hd3))
          clear hx hs hk HC3 hb83
          clear x1
          go_wp2_with (first | (apply store_gm HX.out.xbox; rfl; rfl; rfl; rfl; rfl; kernel_rfl; rfl; rfl; intro wz hz he; (try simp only [splice, List.setIfInBounds_toArray, List.set_cons_succ, List.set_cons_zero, Nat.reduceAdd] at hz); have HX := Lib.hid (HX.out.setX hz he); clear hz he) | (apply load_g HX.out.xbox Tryz.underlying70; rfl; rfl; rfl; rfl; kernel_rfl) | (apply store_g 16 HX.out.box; rfl; rfl; rfl; rfl; rfl; kernel_rfl; rfl; rfl; intro wz hz he; have HX := Lib.hid (HX.out.setR hz he); clear hz he))
          (try simp only [Exit.inBlock, Exit.then])
          refine bodyPost_ret (v := E.agg ⟨n1, 1, n3, C.zero⟩) (Bh.results_cell_row1 rfl _ _ _ _ _ _ _ rfl HX.out.box Tryz.underlying70 rfl (by kernel_rfl)) rfl ?_
          exact Rgot.yes (as_yes (sel_yes (seq_yes hd1 hi) (ep1_yes hd3))) rfl HX.out.rs HX.out.kept
      · go_wp2_with (first | (apply store_g 16 HX.out.xbox; rfl; rfl; rfl; rfl; rfl; kernel_rfl; rfl; rfl; intro wz hz he; have HX := Lib.hid (HX.out.setX hz he); clear hz he; obtain ⟨_, x1, _⟩ := Lg.cells16 HX.out.xbox))
        have HC3 := Lib.hid (rconf_any HX.out.rs)
        have hb83 := HX.out.rs.b8
        cases hd3 : cConf.rd r2 with
        | none =>
          refine HC3.out.mono ?_
          rintro e wq hx
          obtain ⟨rfl, hk⟩ := hx.none hd3
          go_wp2_with fail
          exact ⟨rfl, Rgot.no (as_no (sel_no2 (seq_yes hd1 hi) (ep2_no hd3))) (HX.out.kept.trans hk)⟩
        | some p3 =>
          obtain ⟨n3, r3⟩ := p3
          refine HC3.out.mono ?_
          rintro e wq hx
          obtain ⟨rfl, hs, hk⟩ := hx.some hd3
          have HX := Lib.hid (HX.out.callx hs hk (rd_le cConf hb83 hd3))
          clear hx hs hk HC3 hb83
          clear x1
          go_wp2_with (first | (apply store_gm HX.out.xbox; rfl; rfl; rfl; rfl; rfl; kernel_rfl; rfl; rfl; intro wz hz he; (try simp only [splice, List.setIfInBounds_toArray, List.set_cons_succ, List.set_cons_zero, Nat.reduceAdd] at hz); have HX := Lib.hid (HX.out.setX hz he); clear hz he) | (apply load_g HX.out.xbox Tryz.underlying70; rfl; rfl; rfl; rfl; kernel_rfl) | (apply store_g 16 HX.out.box; rfl; rfl; rfl; rfl; rfl; kernel_rfl; rfl; rfl; intro wz hz he; have HX := Lib.hid (HX.out.setR hz he); clear hz he))
          (try simp only [Exit.inBlock, Exit.then])
          refine bodyPost_ret (v := E.agg ⟨n1, 2, Cl.zero, n3⟩) (Bh.results_cell_row1 rfl _ _ _ _ _ _ _ rfl HX.out.box Tryz.underlying70 rfl (by kernel_rfl)) rfl ?_
          exact Rgot.yes (as_yes (sel_yes (seq_yes hd1 hi) (ep2_yes hd3))) rfl HX.out.rs HX.out.kept
      · go_wp2_with (first | (apply store_g 16 HX.out.xbox; rfl; rfl; rfl; rfl; rfl; kernel_rfl; rfl; rfl; intro wz hz he; have HX := Lib.hid (HX.out.setX hz he); clear hz he; obtain ⟨_, x1, _⟩ := Lg.cells16 HX.out.xbox) | (apply load_g HX.out.xbox Tryz.underlying70; rfl; rfl; rfl; rfl; kernel_rfl) | (apply store_g 16 HX.out.box; rfl; rfl; rfl; rfl; rfl; kernel_rfl; rfl; rfl; intro wz hz he; have HX := Lib.hid (HX.out.setR hz he); clear hz he))
        (try simp only [Exit.inBlock, Exit.then])
        refine bodyPost_ret (v := E.agg ⟨n1, 0, Cl.zero, C.zero⟩) (Bh.results_cell_row1 rfl _ _ _ _ _ _ _ rfl HX.out.box Tryz.underlying70 rfl (by kernel_rfl)) rfl ?_
        exact Rgot.yes (as_yes (sel_yes (seq_yes hd1 hi) (show (entPart 0).rd r2 = some ((Cl.zero, C.zero), r2) from rfl))) rfl HX.out.rs HX.out.kept
end Go.Proofs.YtaengjgmchpabaaGreat.Wr
