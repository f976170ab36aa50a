import Derived.Test.YtbheofibdogabaaGreatSessRefEnc
import Derived.Test.YtbheofibdogabaaGreatSessDec
import Derived.Test.YtbheofibdogabaaGreatSessEnc
import Derived.Test.YtbheofibdogabaaGreatSessRefM
import Derived.Test.YtbheofibdogabaaGreatSessKeep
import Derived.Test.YtbheofibdogabaaGreatMergeSb44
import Derived.Test.YtbheofibdogabaaGreatSessWakes2
import Derived.Test.YtbheofibdogabaaGreatRefDec1
import Derived.Test.YtbheofibdogabaaGreatMergeSb45
import Derived.Test.YtbheofibdogabaaGreatMergeSbK
/- The law SessBytes. -/
namespace Go.Proofs.YtbheofibdogabaaGreat.Ss
open Go Go.RowKit Vl Kv Mem Nm
attribute [local go_sem] run_bits run_frombits run_store_float
theorem dec_facts (F : List Nat) : ((decM F).2 = 0 ∨ (decM F).2 = 6) ∧ (decM F).1.pairs.length ≤ 100000 ∧ sameM (decM F).1 (decM F).1 = true := by
  rcases decM_cases F with ⟨hd, _⟩ | ⟨hd, hr, _⟩
  · rw [hd]
    exact ⟨.inr rfl, Nat.zero_le _, rfl⟩
  · rw [hd]
    exact ⟨.inl rfl, by have := hr.np; show (readM F).pairs.length ≤ _; omega, (sameM_iff hr hr).2 rfl⟩
theorem _root_.Go.Proofs.YtbheofibdogabaaGreat.Mem.Kept.trans2 {S : Nat → Prop} {w w1 w' : World} (h : Kept Mem.None w w1) (k : Kept S w1 w') : Kept S w w' := ⟨k.os.trans h.os, k.tape.trans h.tape, k.output.trans h.output, Nat.le_trans h.size k.size, fun i hi hn => (k.block i (Nat.lt_of_lt_of_le hi h.size) hn).trans (h.block i hi (fun h0 => h0))⟩
theorem bx_kept {w0 w w' : World} {l : List Obj} {S : Nat → Prop} (h : Bh.Bx w0 l w) (hk : Kept S w w') (hs : ∀ k, S k → w0.heap.size + l.length ≤ k) : Bh.Bx w0 l w' :=
  ⟨Below.trans h.beh (hk.below h.beh.size (fun k h0 => Nat.le_trans (Nat.le_add_right _ _) (hs k h0))), fun i o ho => by
    have hlt : i < l.length := (List.getElem?_eq_some_iff.1 ho).1
    exact hk.heap (h.box i o ho) (fun h0 => by have := hs _ h0; omega)⟩
theorem same_bytesS {l : List Nat} {w : World} {x : Ending} {w' : World} (h : Kp.SameB l l w x w') : x = .returned (.bool true) ∧ Below w.heap.size w w' := by
  obtain ⟨h1, n, rfl⟩ := h
  rw [decide_eq_true rfl] at h1
  exact ⟨h1, (Beh.start w).drewN n⟩
set_option maxHeartbeats 12800000 in
set_option maxRecDepth 100000 in
theorem SessBytes_any (s : Ms) (m : Ma) (b : Nat) (a : Option Addr) (cap : Nat) (F : List Nat) (w : World) (h : MaAt w s m) (hb : Src w b a cap F) (h8 : B8 F) :
    Calls Tryz.prog 3 #[s.agg m, .slice a F.length cap] w fun e w' => e = .returned (.bool true) ∧ Below w.heap.size w w' := by
  have HB := Lib.hid (Bh.Bx.one w (s.obj m))
  have HA := Lib.hid (show MaAt w s m ∧ Src w b a cap F from ⟨h, hb⟩)
  have H8 := Lib.hid h8
  clear h hb h8
  have HH : Hid (∀ W, Beh w W → Calls Tryz.prog 6 #[s.agg m] W (HeavyTold m W)) := fun W hW => heavyM_any s m W (HA.out.1.on hW)
  have HEN : Hid (∀ W, Beh w W → Calls Tryz.prog 7 #[s.agg m] W (EncTold W m)) := fun W hW => Encode_any s m W (HA.out.1.on hW)
  go_enter Tryz.func3, Tryz.ntmps3
  go_wp2_with (first
    | (apply Bh.load_bx 0 HB.out Tryz.underlying25; rfl; rfl; rfl; rfl; rfl; kernel_rfl))
  refine Calls.mono (HH.out _ HB.out.beh) ?_
  rintro e w1 ⟨hv, rfl, hvl, hb⟩
  have HB := Lib.hid (HB.out.on hb)
  clear hb HH
  cases hv
  case true =>
    clear hvl
    go_wp2_with fail
    go_ret
    exact ⟨rfl, HB.out.beh⟩
  obtain ⟨hl1, hl2⟩ := hvl rfl
  clear hvl
  by_cases hlen : 32768 < F.length
  case pos =>
    have d1 : decide ((32768 : Int) < (F.length : Int)) = true := decide_eq_true (by omega)
    go_wp2_with fail
    go_ret
    exact ⟨rfl, HB.out.beh⟩
  have d1 : decide ((32768 : Int) < (F.length : Int)) = false := decide_eq_false (by omega)
  have HRM : Hid (∀ W, Beh w W → Calls Tryz.prog 8 #[s.agg m] W fun e w' => e = .returned (.bool (rightM m)) ∧ Beh W w') := fun W hW => refM_any s m W (HA.out.1.on hW) (by omega)
  go_wp2_with (first
    | (apply Bh.load_bx 0 HB.out Tryz.underlying25; rfl; rfl; rfl; rfl; rfl; kernel_rfl))
  refine Calls.mono (HEN.out _ HB.out.beh) ?_
  rintro e w2 ⟨h1, h2, hb⟩
  have HB := Lib.hid (HB.out.on hb)
  clear HEN
  cases hr : rightM m
  case false =>
    obtain rfl := h2 hr
    rw [hr] at HRM
    clear h1 h2 hb
    go_wp2_with (first
      | (apply Bh.load_bx 0 HB.out Tryz.underlying25; rfl; rfl; rfl; rfl; rfl; kernel_rfl)
      | (go_at_call 8; refine Calls.mono (HRM.out _ HB.out.beh) ?_; rintro e wr ⟨rfl, hb⟩; (have HB := Lib.hid (HB.out.on hb)); clear hb; (obtain ⟨c0, c1⟩ := cells2 HB.out.b0)))
    refine Calls.mono (Kp.Twin_any b a cap F _ (HA.out.2.kept (Kept.of_below HB.out.beh) (fun _ h => h)) (by omega)) ?_
    rintro x w6 ⟨bi, ai, ci, rfl, hoi, hbi, hki, hbi2⟩
    have hwi : w.heap.size + 1 ≤ bi := Nat.le_trans HB.out.lt hbi
    have HB := Lib.hid (HB.out.on (beh_kept hki))
    have HOI := Lib.hid hoi
    clear hoi hki hbi hbi2
    go_wp2_with fail
    refine Calls.mono (Decode_any bi ai ci F _ HOI.out.src H8.out (by omega)) ?_
    unfold DecTold
    rintro e w7 ⟨t, bp, bq, rfl, hm, hb7⟩
    have hlt6 : ai ≠ none → bi < w6.heap.size := fun h0 => HOI.out.lt h0
    have hs67 : w6.heap.size ≤ w7.heap.size := hb7.size
    have HOI := Lib.hid (HOI.out.kept (kept_beh hb7) (fun _ h => h))
    have HMD := Lib.hid hm
    have HB := Lib.hid (HB.out.on hb7)
    have HY := Lib.hid (Bh.Bx.one w7 (Ms.zero.obj Ma.zero))
    have hRD : ∀ W, Beh w W → Calls Tryz.prog 14 #[.slice a F.length cap] W (RDecTold W F) := fun W hW => refDecode_any b a cap F W (HA.out.2.kept (Kept.of_below hW) (fun _ h => h)) H8.out (by omega)
    have HRD := Lib.hid hRD
    unfold RDecTold at HRD
    have HDD := Lib.hid (dec_facts F)
    clear hm hb7 hRD
    generalize decM F = dd at *
    obtain ⟨Y, yc⟩ := dd
    dsimp only at HRD HDD HMD
    obtain ⟨hd1, hd2, hd3⟩ := HDD.out
    clear HDD
    go_wp2_with (first
      | (apply Bh.store_bx 2 0 HY.out; rfl; rfl; rfl; rfl; rfl; rfl; kernel_rfl; rfl; rfl; intro wz hz; have HY := Lib.hid hz; clear hz))
    refine Calls.mono (Kp.Spoil_any bi ai ci F _ (HOI.out.kept (kept_beh HY.out.beh) (fun _ h => h)) (by omega)) ?_
    rintro e w8 ⟨rfl, l', _, _, hk8⟩
    have hyb := Lib.hid (hk8.heap HY.out.b0 (fun h0 => by have := hlt6 h0.1; have := h0.2; omega))
    have hk78 : Kept (Of ai bi) w7 w8 := Kept.trans2 (kept_beh HY.out.beh) hk8
    have HMY := Lib.hid (MadeM.at_ (HMD.out.kept hk78 (fun k h0 => by have := hlt6 h0.1; have := h0.2; omega)))
    have HB : Hid (Bh.Bx w [s.obj m] w8) := Lib.hid (bx_kept (HB.out.on HY.out.beh) hk8 (fun k h0 => by have := h0.2; show w.heap.size + 1 ≤ k; omega))
    clear HY HMD HOI hk8 hk78
    go_wp2_with fail
    refine Calls.mono (HRD.out _ HB.out.beh) ?_
    rintro e w9 ⟨u, bp2, bq2, rfl, hm2, hb9⟩
    have HB := Lib.hid (HB.out.on hb9)
    have HMY := Lib.hid (HMY.out.on hb9)
    have HMZ := Lib.hid hm2.at_
    have hyb := Lib.hid (Bh.box_on hyb.out hb9)
    have HZ := Lib.hid (Bh.Bx.one w9 (Ms.zero.obj Ma.zero))
    clear hm2 hb9 HRD
    go_wp2_with (first
      | (apply Bh.store_bx 2 0 HZ.out; rfl; rfl; rfl; rfl; rfl; rfl; kernel_rfl; rfl; rfl; intro wz2 hz; have HZ := Lib.hid hz; (have HB := Lib.hid (HB.out.on hz.beh)); (have HMY := Lib.hid (HMY.out.on hz.beh)); (have HMZ := Lib.hid (HMZ.out.on hz.beh)); (obtain ⟨y0, y1⟩ := cells2 (Bh.box_on hyb.out hz.beh)); (obtain ⟨z0, z1⟩ := cells2 HZ.out.b0); clear hz)
      | (apply Bh.load_bx 0 HZ.out Tryz.underlying25; rfl; rfl; rfl; rfl; rfl; kernel_rfl))
    refine Calls.mono (keepM_any t Y u Y _ HMY.out HMZ.out (by omega)) ?_
    rintro e w10 ⟨rfl, hb⟩
    rw [hd3]
    have HB := Lib.hid (HB.out.on hb)
    clear hb HMY HMZ HZ hyb y0 y1 z0 z1 hd3
    rcases hd1 with rfl | rfl
    all_goals
      go_wp2_with fail
      refine Calls.mono (Swakes_any _) ?_
      rintro e w11 ⟨rfl, hb⟩
      have HB := Lib.hid (HB.out.on hb)
      go_wp2_with fail
      go_ret
      exact ⟨rfl, HB.out.beh⟩
  case true =>
    obtain ⟨be, ae, ce, rfl, ho, hbe⟩ := h1 hr
    rw [hr] at HRM
    have HOE := Lib.hid ho
    have HW2 := Lib.hid (Beh.start w2)
    have HML := Lib.hid (rightM_iff.1 hr).len
    have HRE : Hid (∀ W, Beh w W → Calls Tryz.prog 10 #[s.agg m] W (Pk.NewB (encM m) W)) := fun W hW => refEncode_any s m W (HA.out.1.on hW) (rightM_iff.1 hr)
    clear h1 h2 hb ho hbe hr
    go_wp2_with (first
      | (apply Bh.load_bx 0 HB.out Tryz.underlying25; rfl; rfl; rfl; rfl; rfl; kernel_rfl)
      | (go_at_call 8; refine Calls.mono (HRM.out _ HB.out.beh) ?_; rintro e wr ⟨rfl, hb⟩; (have HB := Lib.hid (HB.out.on hb)); (have HW2 := Lib.hid (HW2.out.trans hb)); clear hb; (obtain ⟨c0, c1⟩ := cells2 HB.out.b0)))
    refine Calls.mono (HRE.out _ HB.out.beh) ?_
    rintro x w4 ⟨br, ar, cr, rfl, hor, hbr, hk, _⟩
    have HB := Lib.hid (HB.out.on (beh_kept hk))
    have HW2 := Lib.hid (HW2.out.trans (beh_kept hk))
    have HOR := Lib.hid hor
    clear hk hor hbr
    go_wp2_with fail
    refine Calls.mono (Kp.KBytes_any be ae ce (encM m) br ar cr (encM m) _ (HOE.out.kept (kept_beh HW2.out) (fun _ h => h)).src HOR.out.src (by have := HML.out; omega) (by have := HML.out; omega)) ?_
    intro e w5 hx
    obtain ⟨rfl, hb⟩ := same_bytesS hx
    have HB := Lib.hid (HB.out.on hb)
    clear hx hb HOE HOR HRE HML HW2
    go_wp2_with fail
    refine Calls.mono (Kp.Twin_any b a cap F _ (HA.out.2.kept (Kept.of_below HB.out.beh) (fun _ h => h)) (by omega)) ?_
    rintro x w6 ⟨bi, ai, ci, rfl, hoi, hbi, hki, hbi2⟩
    have hwi : w.heap.size + 1 ≤ bi := Nat.le_trans HB.out.lt hbi
    have HB := Lib.hid (HB.out.on (beh_kept hki))
    have HOI := Lib.hid hoi
    clear hoi hki hbi hbi2
    go_wp2_with fail
    refine Calls.mono (Decode_any bi ai ci F _ HOI.out.src H8.out (by omega)) ?_
    unfold DecTold
    rintro e w7 ⟨t, bp, bq, rfl, hm, hb7⟩
    have hlt6 : ai ≠ none → bi < w6.heap.size := fun h0 => HOI.out.lt h0
    have hs67 : w6.heap.size ≤ w7.heap.size := hb7.size
    have HOI := Lib.hid (HOI.out.kept (kept_beh hb7) (fun _ h => h))
    have HMD := Lib.hid hm
    have HB := Lib.hid (HB.out.on hb7)
    have HY := Lib.hid (Bh.Bx.one w7 (Ms.zero.obj Ma.zero))
    have hRD : ∀ W, Beh w W → Calls Tryz.prog 14 #[.slice a F.length cap] W (RDecTold W F) := fun W hW => refDecode_any b a cap F W (HA.out.2.kept (Kept.of_below hW) (fun _ h => h)) H8.out (by omega)
    have HRD := Lib.hid hRD
    unfold RDecTold at HRD
    have HDD := Lib.hid (dec_facts F)
    clear hm hb7 hRD
    generalize decM F = dd at *
    obtain ⟨Y, yc⟩ := dd
    dsimp only at HRD HDD HMD
    obtain ⟨hd1, hd2, hd3⟩ := HDD.out
    clear HDD
    go_wp2_with (first
      | (apply Bh.store_bx 2 0 HY.out; rfl; rfl; rfl; rfl; rfl; rfl; kernel_rfl; rfl; rfl; intro wz hz; have HY := Lib.hid hz; clear hz))
    refine Calls.mono (Kp.Spoil_any bi ai ci F _ (HOI.out.kept (kept_beh HY.out.beh) (fun _ h => h)) (by omega)) ?_
    rintro e w8 ⟨rfl, l', _, _, hk8⟩
    have hyb := Lib.hid (hk8.heap HY.out.b0 (fun h0 => by have := hlt6 h0.1; have := h0.2; omega))
    have hk78 : Kept (Of ai bi) w7 w8 := Kept.trans2 (kept_beh HY.out.beh) hk8
    have HMY := Lib.hid (MadeM.at_ (HMD.out.kept hk78 (fun k h0 => by have := hlt6 h0.1; have := h0.2; omega)))
    have HB : Hid (Bh.Bx w [s.obj m] w8) := Lib.hid (bx_kept (HB.out.on HY.out.beh) hk8 (fun k h0 => by have := h0.2; show w.heap.size + 1 ≤ k; omega))
    clear HY HMD HOI hk8 hk78
    go_wp2_with fail
    refine Calls.mono (HRD.out _ HB.out.beh) ?_
    rintro e w9 ⟨u, bp2, bq2, rfl, hm2, hb9⟩
    have HB := Lib.hid (HB.out.on hb9)
    have HMY := Lib.hid (HMY.out.on hb9)
    have HMZ := Lib.hid hm2.at_
    have hyb := Lib.hid (Bh.box_on hyb.out hb9)
    have HZ := Lib.hid (Bh.Bx.one w9 (Ms.zero.obj Ma.zero))
    clear hm2 hb9 HRD
    go_wp2_with (first
      | (apply Bh.store_bx 2 0 HZ.out; rfl; rfl; rfl; rfl; rfl; rfl; kernel_rfl; rfl; rfl; intro wz2 hz; have HZ := Lib.hid hz; (have HB := Lib.hid (HB.out.on hz.beh)); (have HMY := Lib.hid (HMY.out.on hz.beh)); (have HMZ := Lib.hid (HMZ.out.on hz.beh)); (obtain ⟨y0, y1⟩ := cells2 (Bh.box_on hyb.out hz.beh)); (obtain ⟨z0, z1⟩ := cells2 HZ.out.b0); clear hz)
      | (apply Bh.load_bx 0 HZ.out Tryz.underlying25; rfl; rfl; rfl; rfl; rfl; kernel_rfl))
    refine Calls.mono (keepM_any t Y u Y _ HMY.out HMZ.out (by omega)) ?_
    rintro e w10 ⟨rfl, hb⟩
    rw [hd3]
    have HB := Lib.hid (HB.out.on hb)
    clear hb HMY HMZ HZ hyb y0 y1 z0 z1 hd3
    rcases hd1 with rfl | rfl
    all_goals
      go_wp2_with fail
      refine Calls.mono (Swakes_any _) ?_
      rintro e w11 ⟨rfl, hb⟩
      have HB := Lib.hid (HB.out.on hb)
      go_wp2_with fail
      go_ret
      exact ⟨rfl, HB.out.beh⟩
set_option maxRecDepth 100000 in
theorem in_mach {H : Type} {enc : TypeId × Value → H} {w w0 : World} {r : Reach} {b0 base : Nat} {spare : Nat → Bool} {held : Bool} {x : Value} {d : DataW H} {ps : List MemPlace}
    (hv : Value.okWide Tryz.prog w0 r b0 25 x) (h : DataW.Trod enc Tryz.prog w base spare held 25 x d ps) : ∃ (y : Ms × Ma), x = y.1.agg y.2 ∧ MaAt w y.1 y.2 := by
  obtain ⟨s, m, h1, h2, _⟩ := in_machine hv h
  exact ⟨(s, m), h1, h2⟩
set_option maxRecDepth 100000 in
theorem SessBytes_law (x : Ms × Ma) (a : Option Addr) (len cap : Nat) (w : World) (h : MaAt w x.1 x.2) (hb : Pk.BytesIn w a len cap) :
    Calls Tryz.prog 3 #[x.1.agg x.2, .slice a len cap] w fun e w' => e = .returned (.bool true) ∧ Below w.heap.size w w' := by
  obtain ⟨b, l, rfl, hB, h8⟩ := hb
  exact SessBytes_any x.1 x.2 b a cap l w h hB h8
end Go.Proofs.YtbheofibdogabaaGreat.Ss
