import Derived.Test.YtbheofibdogabaaGreatMergeSb19
import Derived.Test.YtbheofibdogabaaGreatSessEnc
/- The landed Decode; bytes.Equal. -/
namespace Go.Proofs.YtbheofibdogabaaGreat.Ss
open Go Go.RowKit Vl Kv Mem Nm
attribute [local go_sem] run_bits run_frombits run_store_float

theorem run_lbS (w : World) (b : Nat) (a : Option Addr) (cap n : Nat) (l : List Nat) (hn : n = l.length) (h : Src w b a cap l) :
    (convert 26 9 (.slice a n cap)).run Tryz.prog w = .ok (.string (lb l)) w := by
  subst hn
  rcases h with ⟨_, _, ⟨rfl, rfl, rfl⟩ | ⟨off, rfl, hc⟩⟩ | ⟨rfl, ha⟩
  · exact run_convert_bytes_nil w _ _ Tryz.underlying26 Tryz.underlying5 _ _ _ Tryz.underlying9
  · rw [run_convert_bytes_arg w 26 5 Tryz.underlying26 Tryz.underlying5 b off l.length cap (l.map Int.ofNat) (by simp) (fun i hi => by
      rw [hc i hi]
      simp [hi]) _ Tryz.underlying9, strOfNums_lb]
  · obtain ⟨ad, rfl⟩ : ∃ ad, a = some ad := by cases a; exact absurd rfl ha; exact ⟨_, rfl⟩
    have hl : (loadCells ad 0).run Tryz.prog w = .ok (([] : List Int).map (Value.int .u8)).toArray w := by
      have := run_loadCells_list (P := Tryz.prog) w ad [] (fun j v hj => by simp at hj)
      simpa using this
    show (convert 26 9 (.slice (some ad) 0 cap)).run Tryz.prog w = _
    rw [run_convert_bytes_string w _ _ _ _ _ _ Tryz.underlying26 Tryz.underlying5 Tryz.underlying9, run_bytesToString w ad 0 cap [] hl]
    rfl
theorem lb_inj {l m : List Nat} (hl : B8 l) (hm : B8 m) (h : lb l = lb m) : l = m := by rw [← bl_lb hl, h, bl_lb hm]
theorem Equal_any (b1 : Nat) (a1 : Option Addr) (c1 : Nat) (l1 : List Nat) (b2 : Nat) (a2 : Option Addr) (c2 : Nat) (l2 : List Nat) (w : World) (h1 : Src w b1 a1 c1 l1) (h2 : Src w b2 a2 c2 l2) (k1 : B8 l1) (k2 : B8 l2) :
    Calls Tryz.prog 32 #[.slice a1 l1.length c1, .slice a2 l2.length c2] w fun e w' => e = .returned (.bool (decide (l1 = l2))) ∧ w = w' := by
  have v1 := run_lbS w b1 a1 c1 _ l1 rfl h1
  have v2 := run_lbS w b2 a2 c2 _ l2 rfl h2
  have HT := Lib.hid (text_eq (lb l1) (lb l2))
  have HD : Hid (decide (lb l1 = lb l2) = decide (l1 = l2)) := decide_eq_decide.2 ⟨fun h => lb_inj k1 k2 h, fun h => by rw [h]⟩
  clear h1 h2 k1 k2
  go_enter Tryz.func32, Tryz.ntmps32
  go_wp2
  go_ret
  exact ⟨ret_bool (by rw [← HD.out, ← HT.out]), rfl⟩
theorem MadeM.zero {w w' : World} : MadeM w w' Ms.zero Ma.zero 0 0 := ⟨OwnC.nil _ _ _ _, OwnC.nil _ _ _ _, fun h => absurd rfl h, fun h => absurd rfl h, fun h => absurd rfl h⟩
theorem MadeM.kept {w w' w'' : World} {s : Ms} {m : Ma} {bp bq : Nat} {S : Nat → Prop} (h : MadeM w w' s m bp bq) (hk : Kept S w' w'') (hs : ∀ k, S k → k < w.heap.size) : MadeM w w'' s m bp bq :=
  ⟨OwnC.kept h.op hk (fun ha e => by have := h.lo1 ha; have := hs _ e; omega), OwnC.kept h.oq hk (fun ha e => by have := h.lo2 ha; have := hs _ e; omega), h.lo1, h.lo2, h.ne⟩
theorem MadeM.from {w0 w w' : World} {s : Ms} {m : Ma} {bp bq : Nat} (h : MadeM w w' s m bp bq) (hw : w0.heap.size ≤ w.heap.size) : MadeM w0 w' s m bp bq :=
  ⟨h.op, h.oq, fun ha => Nat.le_trans hw (h.lo1 ha), fun ha => Nat.le_trans hw (h.lo2 ha), h.ne⟩
/-- what Decode tells -/
def DecTold (w : World) (l : List Nat) (e : Ending) (w' : World) : Prop :=
  ∃ (s : Ms) (bp bq : Nat), e = .returned (.tuple #[s.agg (decM l).1, .int .i64 (decM l).2]) ∧ MadeM w w' s (decM l).1 bp bq ∧ Beh w w'
set_option maxHeartbeats 3200000 in
set_option maxRecDepth 100000 in
theorem Decode_any (b : Nat) (a : Option Addr) (cap : Nat) (l : List Nat) (w : World) (h : Src w b a cap l) (h8 : B8 l) (hl : l.length ≤ 100000) :
    Calls Tryz.prog 12 #[.slice a l.length cap] w (DecTold w l) := by
  have HSR := Lib.hid h
  have H8 := Lib.hid h8
  have HZ := Lib.hid (alloc_here (w := w) (.cells #[.slice none 0 0, .slice none 0 0] 25) rfl)
  have HNR := Lib.hid (Pk.NewReader_any b a cap l (w.alloc (.cells #[.slice none 0 0, .slice none 0 0] 25)) (h.kept (S := Mem.None) ((Kept.refl _ _).alloc _) (fun _ h => h)) (by omega) h8)
  have HB0 := Lib.hid ((Beh.start w).alloc (.cells #[.slice none 0 0, .slice none 0 0] 25))
  have HDC := Lib.hid (decM_cases l)
  have hs0 : (w.alloc (.cells #[.slice none 0 0, .slice none 0 0] 25)).heap.size = w.heap.size + 1 := by simp
  clear h h8
  go_enter Tryz.func12, Tryz.ntmps12
  go_wp2_with fail
  refine Calls.mono HNR.out ?_
  rintro x w1 ⟨br, bs, rfl, hr, h1, h2, hk⟩
  have HZ1 := Lib.hid (hk.heap HZ.out (fun e => e))
  have HB1 := Lib.hid (HB0.out.trans (beh_kept hk))
  have HR := Lib.hid hr
  have hs1 : w.heap.size < w1.heap.size := lt_of_heap HZ1.out
  have hbr : w.heap.size < br := by omega
  clear hr h1 h2 hk HNR HB0
  go_wp2_with fail
  refine Calls.mono (read_any HR.out hl) ?_
  rintro x w2 ⟨s, bp, bq, rfl, hm, hk⟩
  have HZ2 := Lib.hid (keptO hk HZ1.out (by omega))
  have HB2 : Hid (Beh w w2) := beh_kept ((kept_beh HB1.out).trans' hk (fun x hx => .inr (by have hx : x = br := hx; omega)))
  have HM2 := Lib.hid (hm.from (w0 := w) (by omega))
  have HLO : Hid ((s.a ≠ none → w.heap.size < bp) ∧ (s.a2 ≠ none → w.heap.size < bq)) := ⟨fun ha => by have := hm.lo1 ha; omega, fun ha => by have := hm.lo2 ha; omega⟩
  have hs2 : w.heap.size < w2.heap.size := lt_of_heap HZ2.out
  clear hm hk HR HZ1 HB1
  generalize readM l = m at *
  have HO4 := Lib.hid (alloc_here (w := w2) (s.obj m) rfl)
  have HZ4 := Lib.hid (old_alloc (s.obj m) HZ2.out)
  have HB4 := Lib.hid (HB2.out.alloc (s.obj m))
  have HM4 := Lib.hid (HM2.out.kept (S := Mem.None) ((Kept.refl _ w2).alloc (s.obj m)) (fun _ h => h.elim))
  have HEN := Lib.hid (Encode_any s m _ HM4.out.at_)
  clear HZ2 HB2 HM2
  have HBM := Lib.hid (encM_b8 m)
  have HZE : Hid (∀ (W : World), Beh w W → ∀ (r : Int), decM l = (Ma.zero, r) → ∀ (i j : Nat) (u v : Value), DecTold w l (.returned (.tuple #[.agg #[.slice none 0 0, .slice none 0 0], .int .i64 r])) ((W.setCell ⟨w.heap.size, i, none⟩ u).setCell ⟨w.heap.size, j, none⟩ v)) := fun W hb r hd i j u v => by
    refine ⟨Ms.zero, 0, 0, by rw [hd]; rfl, by rw [hd]; exact MadeM.zero, (hb.set (Nat.le_refl _) _ _).set (Nat.le_refl _) _ _⟩
  obtain ⟨L, S⟩ := m
  unfold Ms.obj at HO4 HZ4 HB4 HM4 HEN
  dsimp only at HO4 HZ4 HB4 HM4 HEN
  cases hrt : rightM ⟨L, S⟩
  · have HD := Lib.hid (show decM l = (Ma.zero, 6) by
      rcases HDC.out with h | h
      · exact h.1
      · have := rightM_iff.2 h.2.1; rw [hrt] at this; cases this)
    go_wp2_with fail
    refine Calls.mono HEN.out ?_
    rintro x w5 ⟨_, hx, hb⟩
    obtain rfl := hx hrt
    have HB5 := Lib.hid (HB4.out.trans hb)
    obtain ⟨z0, z1⟩ := cells2 (hb.box HZ4.out)
    have g0 := frozen_of (hb.box HZ4.out) 0
    have g1 := frozen_of (hb.box HZ4.out) 1
    clear hx hb
    go_wp2_with fail
    (try simp only [Exit.inBlock, Exit.then])
    refine bodyPost_ret (v := .tuple #[.agg #[.slice none 0 0, .slice none 0 0], .int .i64 6]) ?_ rfl (HZE.out _ HB5.out _ HD.out _ _ _ _)
    rw [results_cell_tmp rfl]
    go_simp
  · go_wp2_with fail
    refine Calls.mono HEN.out ?_
    rintro x w5 ⟨hx, _, hb⟩
    obtain ⟨bE, aE, cE, rfl, ho, hbE⟩ := hx hrt
    have HB5 := Lib.hid (HB4.out.trans hb)
    have HM5 := Lib.hid (HM4.out.kept (kept_beh hb) (fun _ h => h.elim))
    obtain ⟨z0, z1⟩ := cells2 (hb.box HZ4.out)
    have g0 := frozen_of (hb.box HZ4.out) 0
    have g1 := frozen_of (hb.box HZ4.out) 1
    obtain ⟨m0, m1⟩ := cells2 (hb.box HO4.out)
    have HEQ := Lib.hid (Equal_any bE aE cE _ b a cap l w5 ho.src (HSR.out.kept (kept_beh HB5.out) (fun _ h => h)) HBM.out H8.out)
    clear hx hb ho hbE HEN
    by_cases he : encM ⟨L, S⟩ = l
    · rw [decide_eq_true he] at HEQ
      have HD := Lib.hid (show decM l = (⟨L, S⟩, 0) by
        rcases HDC.out with h | h
        · exact absurd ⟨hrt, he⟩ h.2
        · exact h.1)
      clear he HDC
      go_wp2_with fail
      refine Calls.mono HEQ.out ?_
      rintro x w6 ⟨rfl, rfl⟩
      go_wp2_with fail
      (try simp only [Exit.inBlock, Exit.then])
      refine bodyPost_ret (v := .tuple #[s.agg ⟨L, S⟩, .int .i64 0]) ?_ rfl ⟨s, bp, bq, by rw [HD.out], ?_, (HB5.out.set (Nat.le_refl _) _ _).set (Nat.le_refl _) _ _⟩
      · rw [results_cell_tmp rfl]
        go_simp
      · rw [HD.out]
        have hset : ∀ {W : World} {i : Nat} {v : Value}, Kept (Only w.heap.size) W (W.setCell ⟨w.heap.size, i, none⟩ v) := (Kept.refl (Only w.heap.size) _).setAt (.inl rfl) _ _
        exact ⟨OwnC.kept (OwnC.kept HM5.out.op hset (fun ha e => by have := HLO.out.1 ha; have e : bp = w.heap.size := e; omega)) hset (fun ha e => by have := HLO.out.1 ha; have e : bp = w.heap.size := e; omega),
          OwnC.kept (OwnC.kept HM5.out.oq hset (fun ha e => by have := HLO.out.2 ha; have e : bq = w.heap.size := e; omega)) hset (fun ha e => by have := HLO.out.2 ha; have e : bq = w.heap.size := e; omega),
          HM5.out.lo1, HM5.out.lo2, HM5.out.ne⟩
    · rw [decide_eq_false he] at HEQ
      have HD := Lib.hid (show decM l = (Ma.zero, 6) by
        rcases HDC.out with h | h
        · exact h.1
        · exact absurd h.2.2 he)
      clear he HDC
      go_wp2_with fail
      refine Calls.mono HEQ.out ?_
      rintro x w6 ⟨rfl, rfl⟩
      go_wp2_with fail
      (try simp only [Exit.inBlock, Exit.then])
      refine bodyPost_ret (v := .tuple #[.agg #[.slice none 0 0, .slice none 0 0], .int .i64 6]) ?_ rfl (HZE.out _ HB5.out _ HD.out _ _ _ _)
      rw [results_cell_tmp rfl]
      go_simp
end Go.Proofs.YtbheofibdogabaaGreat.Ss
