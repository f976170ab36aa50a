/- The landed reader of package wire: value. -/
import Derived.Test.YtaengjgmchpabaaGreatWireR3
namespace Go.Proofs.YtaengjgmchpabaaGreat.Wr
open Go Go.RowKit Vl Kv Ss Cn Mem Lg Nm
attribute [local go_sem] Nm.run_bits Nm.run_frombits run_store_float
variable {w w' : World} {rb br bs : Nat} {l : List Nat}
theorem rdUp_chain {β : Type} {B : Int → Cod β} {most : Int} (hB : ∀ n, ¬ (0 ≤ n ∧ n ≤ most) → ∀ q, (B n).rd q = none) (h : rdUp most l = none) : (cInt.sel B).rd l = none := by
  cases hd : cInt.rd l with
  | none => exact sel_no1 hd
  | some p =>
    obtain ⟨n, r⟩ := p
    by_cases hn : 0 ≤ n ∧ n ≤ most
    · rw [rdUp_yes hd hn.1 hn.2] at h; cases h
    · exact sel_no2 hd (hB n hn r)
theorem valPart_far (n : Int) (hn : ¬ (0 ≤ n ∧ n ≤ 2)) (q : List Nat) : (valPart n).rd q = none := by
  unfold valPart
  rw [if_neg (by omega), if_neg (by omega), if_neg (by omega)]
  rfl
theorem vp1_no {r : List Nat} (h : cFlt.rd r = none) : (valPart 1).rd r = none := emb_no (A := cFlt) (f := fun x => (x, (⟨#[]⟩ : ByteArray))) (g := Prod.fst) (hg := fun _ _ => rfl) h
theorem vp1_yes {r q : List Nat} {y : Nat} (h : cFlt.rd r = some (y, q)) : (valPart 1).rd r = some ((y, ⟨#[]⟩), q) := emb_yes (A := cFlt) (f := fun x => (x, (⟨#[]⟩ : ByteArray))) (g := Prod.fst) (hg := fun _ _ => rfl) h
theorem key_no {r : List Nat} (h : rdT r = none) : cKey.rd r = none := emb_no (A := cText) (hg := fun _ h => bl_lb h.2) h
theorem key_yes {r q y : List Nat} (h : rdT r = some (y, q)) : cKey.rd r = some (lb y, q) := emb_yes (A := cText) (hg := fun _ h => bl_lb h.2) h
theorem vp2_no {r : List Nat} (h : rdT r = none) : (valPart 2).rd r = none := emb_no (A := cKey) (f := fun t => ((0 : Nat), t)) (g := Prod.snd) (hg := fun _ _ => rfl) (key_no h)
theorem vp2_yes {r q y : List Nat} (h : rdT r = some (y, q)) : (valPart 2).rd r = some ((0, lb y), q) := emb_yes (A := cKey) (f := fun t => ((0 : Nat), t)) (g := Prod.snd) (hg := fun _ _ => rfl) (key_yes h)
theorem rdUp_le {most n : Int} {r : List Nat} (h8 : B8 l) (h : rdUp most l = some (n, r)) : r.length ≤ l.length := rd_le cInt h8 (rdUp_int h).1
set_option maxHeartbeats 3200000 in
set_option maxRecDepth 100000 in
theorem rvalue_any (h : Rs w rb br bs l) : Calls Tryz.prog 97 #[.pointer (some ⟨rb, 0, none⟩)] w (Rgot cVal.rd V.val rb br bs l w) := by
  have HF := Lib.hid (Fr1.start h (Vobj V.zero))
  clear h
  have HC := Lib.hid (rupTo_any HF.out.rs 2)
  have hb8 := HF.out.rs.b8
  go_enter Tryz.func97, Tryz.ntmps97
  cases hd : rdUp 2 l with
  | none =>
    go_wp2_with fail
    refine HC.out.mono ?_
    rintro e wq hx
    obtain ⟨rfl, hk⟩ := hx.none hd
    go_wp2_with fail
    exact ⟨rfl, Rgot.no (as_no (rdUp_chain valPart_far hd)) (HF.out.kept.trans hk)⟩
  | some p =>
    obtain ⟨k, r⟩ := p
    go_wp2_with fail
    refine HC.out.mono ?_
    rintro e wq hx
    obtain ⟨rfl, hs, hk⟩ := hx.some hd
    obtain ⟨hi, hk0, hk2⟩ := rdUp_int hd
    have HF := Lib.hid (HF.out.call hs hk (rdUp_le hb8 hd))
    have HX := Lib.hid (HF.out.more (Vobj V.zero))
    clear hx hs hk HC hb8
    have hr8 := HF.out.rs.b8
    have hcase : k = 1 ∨ k = 2 ∨ k = 0 := by omega
    clear hk0 hk2
    rcases hcase with rfl | rfl | rfl
    · go_wp2_with (first | (apply store_g 3 HX.out.xbox; rfl; rfl; rfl; rfl; rfl; kernel_rfl; rfl; rfl; intro wz hz he; have HX := Lib.hid (HX.out.setX hz he); clear hz he; obtain ⟨x0, x1, x2, _⟩ := cells3 HX.out.xbox))
      have HC := Lib.hid (float_any HX.out.rs)
      cases hf : cFlt.rd r with
      | none =>
        refine HC.out.mono ?_
        rintro e wq hx
        obtain ⟨rfl, hk⟩ := hx.none hf
        go_wp2_with fail
        exact ⟨rfl, Rgot.no (as_no (sel_no2 hi (vp1_no hf))) (HX.out.kept.trans hk)⟩
      | some p =>
        obtain ⟨y, r2⟩ := p
        refine HC.out.mono ?_
        rintro e wq hx
        obtain ⟨rfl, hs, hk⟩ := hx.some hf
        have HX := Lib.hid (HX.out.callx hs hk (rd_le cFlt hr8 hf))
        clear hx hs hk HC x0 x1 x2
        go_wp2_with (first | (apply store_g1 HX.out.xbox; rfl; rfl; rfl; rfl; rfl; rfl; kernel_rfl; rfl; intro wz hz he; (try simp only [List.setIfInBounds_toArray, List.set_cons_succ, List.set_cons_zero] at hz); have HX := Lib.hid (HX.out.setX hz he); clear hz he) | (apply load_g HX.out.xbox Tryz.underlying64; rfl; rfl; rfl; rfl; kernel_rfl) | (apply store_g 3 HX.out.box; rfl; rfl; rfl; rfl; rfl; kernel_rfl; rfl; rfl; intro wz hz he; have HX := Lib.hid (HX.out.setR hz he); clear hz he))
        (try simp only [Exit.inBlock, Exit.then])
        refine bodyPost_ret (v := V.val ⟨1, y, ⟨#[]⟩⟩) (Bh.results_cell_row1 rfl _ _ _ _ _ _ _ rfl HX.out.box Tryz.underlying64 rfl (by kernel_rfl)) rfl ?_
        exact Rgot.yes (as_yes (sel_yes hi (vp1_yes hf))) rfl HX.out.rs HX.out.kept

    · go_wp2_with (first | (apply store_g 3 HX.out.xbox; rfl; rfl; rfl; rfl; rfl; kernel_rfl; rfl; rfl; intro wz hz he; have HX := Lib.hid (HX.out.setX hz he); clear hz he; obtain ⟨x0, x1, x2, _⟩ := cells3 HX.out.xbox))
      have HC := Lib.hid (text_any HX.out.rs)
      cases hf : rdT r with
      | none =>
        refine HC.out.mono ?_
        rintro e wq hx
        obtain ⟨rfl, hk⟩ := hx.none hf
        go_wp2_with fail
        exact ⟨rfl, Rgot.no (as_no (sel_no2 hi (vp2_no hf))) (HX.out.kept.trans hk)⟩
      | some p =>
        obtain ⟨y, r2⟩ := p
        refine HC.out.mono ?_
        rintro e wq hx
        obtain ⟨⟨bt, at_, ct, rfl, ho, _⟩, hs, hk⟩ := hx.some hf
        have kc := run_lb wq bt at_ ct _ y rfl ho
        have HX := Lib.hid (HX.out.callx hs hk (rd_le cText hr8 hf))
        clear hx hs hk HC x0 x1 x2 ho
        go_wp2_with (first | (apply store_g1 HX.out.xbox; rfl; rfl; rfl; rfl; rfl; rfl; kernel_rfl; rfl; intro wz hz he; (try simp only [List.setIfInBounds_toArray, List.set_cons_succ, List.set_cons_zero] at hz); have HX := Lib.hid (HX.out.setX hz he); clear hz he) | (apply load_g HX.out.xbox Tryz.underlying64; rfl; rfl; rfl; rfl; kernel_rfl) | (apply store_g 3 HX.out.box; rfl; rfl; rfl; rfl; rfl; kernel_rfl; rfl; rfl; intro wz hz he; have HX := Lib.hid (HX.out.setR hz he); clear hz he))
        (try simp only [Exit.inBlock, Exit.then])
        refine bodyPost_ret (v := V.val ⟨2, 0, lb y⟩) (Bh.results_cell_row1 rfl _ _ _ _ _ _ _ rfl HX.out.box Tryz.underlying64 rfl (by kernel_rfl)) rfl ?_
        exact Rgot.yes (as_yes (sel_yes hi (vp2_yes hf))) rfl HX.out.rs HX.out.kept

    · go_wp2_with (first | (apply store_g 3 HX.out.xbox; rfl; rfl; rfl; rfl; rfl; kernel_rfl; rfl; rfl; intro wz hz he; have HX := Lib.hid (HX.out.setX hz he); clear hz he; obtain ⟨x0, x1, x2, _⟩ := cells3 HX.out.xbox) | (apply load_g HX.out.xbox Tryz.underlying64; rfl; rfl; rfl; rfl; kernel_rfl) | (apply store_g 3 HX.out.box; rfl; rfl; rfl; rfl; rfl; kernel_rfl; rfl; rfl; intro wz hz he; have HX := Lib.hid (HX.out.setR hz he); clear hz he))
      (try simp only [Exit.inBlock, Exit.then])
      refine bodyPost_ret (v := V.val ⟨0, 0, ⟨#[]⟩⟩) (Bh.results_cell_row1 rfl _ _ _ _ _ _ _ rfl HX.out.box Tryz.underlying64 rfl (by kernel_rfl)) rfl ?_
      exact Rgot.yes (as_yes (sel_yes hi (show (valPart 0).rd r = some ((0, ⟨#[]⟩), r) from rfl))) rfl HX.out.rs HX.out.kept

end Go.Proofs.YtaengjgmchpabaaGreat.Wr
