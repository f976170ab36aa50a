/- The walk of layer 4's do: an act on both disks. -/
import Derived.Test.YtaogpchjkbcjoaaLasts4
import Derived.Test.YtaogpchjkbcjoaaRefDisk2
namespace Go.Proofs.Ytaogpchjkbcjoaa.Dk
open Go Go.RowKit Mem Kp
/-- both disks: their states are the same -/
def RX (r f : Nat) (l : List Nat) : Nat → Prop := fun k => k = r ∨ (l ≠ [] ∧ k = f)
structure Bo (w wr : World) (d r f : Nat) (a : Option Addr) (c : Nat) (st : St) : Prop where
  own : Own w wr (RX r f st.file) d st
  ref : RefAt wr r f a c st
  lo : w.heap.size ≤ r
/-- the others' blocks within do -/
def MX (r f : Nat) (l : List Nat) (P : Nat) (a2 : Option Addr) (b2 : Nat) : Nat → Prop := fun k => k = r ∨ (l ≠ [] ∧ k = f) ∨ k = P ∨ Of a2 b2 k
structure Mid (w wx : World) (d r P b2 : Nat) (a2 : Option Addr) (c2 : Nat) (t : List Nat) (B : Obj) (f : Nat) (a : Option Addr) (c : Nat) (sd sr : St) : Prop where
  own : Own w wx (MX r f sr.file P a2 b2) d sd
  ref : RefAt wx r f a c sr
  twin : OwnB 5 wx b2 a2 c2 t
  box : wx.heap[P]? = some B
  lo : w.heap.size ≤ r
  bl : w.heap.size ≤ b2
  rp : r ≠ P
  rb : a2 ≠ none → r ≠ b2
  fp : sr.file ≠ [] → f ≠ P
  fb : a2 ≠ none → sr.file ≠ [] → f ≠ b2
theorem Mid.dop {w w2 w3 : World} {d r P b2 : Nat} {a2 : Option Addr} {c2 : Nat} {t : List Nat} {B : Obj} {f : Nat} {a : Option Addr} {c : Nat} {sd sr sd' : St} (h : Mid w w2 d r P b2 a2 c2 t B f a c sd sr) (ho : Own w w3 (MX r f sr.file P a2 b2) d sd') (hk : Kept (Not (MX r f sr.file P a2 b2)) w2 w3) : Mid w w3 d r P b2 a2 c2 t B f a c sd' sr :=
  ⟨ho, h.ref.kept hk (fun e => e (.inl rfl)) (fun hn e => e (.inr (.inl ⟨hn, rfl⟩))), h.twin.kept hk (fun hn e => e (.inr (.inr (.inr ⟨hn, rfl⟩)))), hk.heap h.box (fun e => e (.inr (.inr (.inl rfl)))), h.lo, h.bl, h.rp, h.rb, h.fp, h.fb⟩
theorem Mid.same {w w2 w3 : World} {d r P b2 : Nat} {a2 : Option Addr} {c2 : Nat} {t : List Nat} {B : Obj} {f : Nat} {a : Option Addr} {c : Nat} {sd sr : St} (h : Mid w w2 d r P b2 a2 c2 t B f a c sd sr) (hk : Kept None w2 w3) : Mid w w3 d r P b2 a2 c2 t B f a c sd sr :=
  ⟨h.own.same hk, h.ref.same hk, h.twin.kept hk (fun _ h => h), hk.heap h.box (fun h => h), h.lo, h.bl, h.rp, h.rb, h.fp, h.fb⟩
theorem Mid.rop {w w3 w4 : World} {d r P b2 : Nat} {a2 : Option Addr} {c2 : Nat} {t : List Nat} {B : Obj} {f : Nat} {a : Option Addr} {c : Nat} {sd sr sr' : St} (h : Mid w w3 d r P b2 a2 c2 t B f a c sd sr) (hl : RLeft r f sr.file w3 sr' w4) : ∃ f' a' c', Mid w w4 d r P b2 a2 c2 t B f' a' c' sd sr' := by
  obtain ⟨f', a', c', h1, hk, h3⟩ := hl
  have hP := lt_of_heap h.box
  have hs := hk.size
  refine ⟨f', a', c', h.own.on hk (fun k e => ⟨.inl e, by rw [show k = r from e]; exact h.lo⟩) _ (fun k hk2 => ?_), h1, h.twin.kept hk (fun hn e => h.rb hn (show b2 = r from e).symm), hk.heap h.box (fun e => h.rp (show P = r from e).symm), h.lo, h.bl, h.rp, h.rb, fun hn => ?_, fun hn hf => ?_⟩
  · rcases hk2 with e | ⟨hn, e⟩ | e | e
    · rw [e]; exact ⟨.inl (.inl rfl), lt_of_heap h1.heap⟩
    · rw [e]
      refine ⟨?_, h1.file.lt hn⟩
      rcases h3 hn with ⟨e1, e2⟩ | e1
      · exact .inl (.inr (.inl ⟨e2, e1⟩))
      · exact .inr e1
    · rw [e]; exact ⟨.inl (.inr (.inr (.inl rfl))), by omega⟩
    · exact ⟨.inl (.inr (.inr (.inr e))), by rw [e.2]; have := h.twin.lt e.1; omega⟩
  · rcases h3 hn with ⟨e1, e2⟩ | e1
    · rw [e1]; exact h.fp e2
    · omega
  · rcases h3 hf with ⟨e1, e2⟩ | e1
    · rw [e1]; exact h.fb hn e2
    · have := h.twin.lt hn; omega
/-- behind the spoiling of the twin -/
theorem Mid.done {w w5 w6 : World} {d r P b2 : Nat} {a2 : Option Addr} {c2 : Nat} {t : List Nat} {B : Obj} {f : Nat} {a : Option Addr} {c : Nat} {st : St} (h : Mid w w5 d r P b2 a2 c2 t B f a c st st) (hk : Kept (Of a2 b2) w5 w6) : Bo w w6 d r f a c st := by
  have hs := hk.size
  refine ⟨h.own.on hk (fun k e => ⟨.inr (.inr (.inr e)), by rw [e.2]; exact h.bl⟩) _ (fun k e => ?_), h.ref.kept hk (fun e => h.rb e.1 e.2) (fun hn e => h.fb e.1 hn e.2), h.lo⟩
  rcases e with e | ⟨hn, e⟩
  · rw [e]; exact ⟨.inl (.inl rfl), by have := lt_of_heap h.ref.heap; omega⟩
  · rw [e]; exact ⟨.inl (.inr (.inl ⟨hn, rfl⟩)), by have := h.ref.file.lt hn; omega⟩
theorem twin_some {w : World} {b : Nat} {a : Option Addr} {c : Nat} {t : List Nat} (h : OwnB 5 w b a c t) (hn : t ≠ []) : a ≠ none := fun e => by
  rcases h with h | h
  · exact hn h.2.2
  · rw [e] at h; cases h.1
theorem code_same (c : Int) : (c == c) = true := by simp
set_option maxHeartbeats 16000000 in
set_option maxRecDepth 100000 in
theorem do_any (w wr : World) (d r f : Nat) (a : Option Addr) (c : Nat) (st : St) (h : Bo w wr d r f a c st) (x : Ac) (hx : x.ok w) (htl : x.t.length ≤ 2000) :
    Calls Try.prog 13 #[.pointer (some ⟨d, 0, none⟩), .pointer (some ⟨r, 0, none⟩), x.agg] wr fun e w' => e = .returned (.bool true) ∧ ∃ f' a' c' st', Bo w w' d r f' a' c' st' := by
  obtain ⟨D, N, K, tb, ta, tc, t⟩ := x
  obtain ⟨hD, hN, hK, hT, h8⟩ := hx
  unfold Ac.agg
  simp only at hD hN hK hT h8 htl ⊢
  have hN1 := hN.1; have hN2 := hN.2; have hK1 := hK.1; have hK2 := hK.2
  have HT := Lib.hid hT
  have H8 := Lib.hid h8
  have HB := Lib.hid h
  have HTB : Hid (t ≠ [] → tb < w.heap.size) := fun h => hT.lt h
  obtain ⟨w1, hw1⟩ : ∃ W, W = wr.alloc (.cells #[.int .i64 D, .int .i64 N, .int .i64 K, .slice ta t.length tc] 35) := ⟨_, rfl⟩
  have k1 : Kept None wr w1 := by rw [hw1]; exact (Kept.refl _ _).alloc _
  have hbx : w1.heap[wr.heap.size]? = some (.cells #[.int .i64 D, .int .i64 N, .int .i64 K, .slice ta t.length tc] 35 (0, 0)) := by rw [hw1]; exact heap_alloc_new wr _
  have HBX := Lib.hid hbx
  have e3 := cell_heap hbx 3
  simp only [List.getElem?_toArray, List.getElem?_cons_zero, List.getElem?_cons_succ] at e3
  have HT1 : Hid (Src w1 tb ta tc t) := (hT.kept h.own.kept (fun _ h => h)).kept k1 (fun _ h => h)
  have HK1 := Lib.hid k1
  have hs1 := k1.size
  clear hD hN hK hT h8 hbx k1
  clear h
  go_enter Try.func13, Try.ntmps13
  go_wp2_with fail
  rw [← hw1]
  clear hw1
  refine (Twin_any tb ta tc t w1 HT1.out (by omega)).mono ?_
  rintro x w2 ⟨b2, a2, c2, rfl, ho2, hb2, hk2, _⟩
  have HM : Hid (Mid w w2 d r wr.heap.size b2 a2 c2 t (.cells #[.int .i64 D, .int .i64 N, .int .i64 K, .slice ta t.length tc] 35 (0, 0)) f a c st st) := by
    have hr := lt_of_heap HB.out.ref.heap
    have hz := HB.out.own.kept.size
    have k2 := HK1.out.trans hk2
    have hs2 := hk2.size
    have hP := lt_of_heap HBX.out
    refine ⟨HB.out.own.on k2 (fun _ h => h.elim) _ (fun k e => ?_), HB.out.ref.same k2, ho2, hk2.heap HBX.out (fun h => h), HB.out.lo, by omega, by omega, fun _ => by omega, fun hn => ?_, fun _ hn => ?_⟩
    · rcases e with e | ⟨hn, e⟩ | e | e
      · rw [e]; exact ⟨.inl (.inl rfl), by omega⟩
      · rw [e]; exact ⟨.inl (.inr ⟨hn, rfl⟩), by have := HB.out.ref.file.lt hn; omega⟩
      · rw [e]; exact ⟨.inr (Nat.le_refl _), by omega⟩
      · rw [e.2]; exact ⟨.inr (by omega), ho2.lt e.1⟩
    · have := HB.out.ref.file.lt hn; omega
    · have := HB.out.ref.file.lt hn; omega
  have HOK := Lib.hid HM.out.own.ok
  clear ho2 hb2 hk2 e3 HB
  generalize wr.heap.size = P at *
  have e0 := cell_heap HM.out.box 0
  have e1 := cell_heap HM.out.box 1
  have e2 := cell_heap HM.out.box 2
  have e3 := cell_heap HM.out.box 3
  simp only [List.getElem?_toArray, List.getElem?_cons_zero, List.getElem?_cons_succ] at e0 e1 e2 e3
  have HT2 : Hid (Src w2 tb ta tc t) := HT.out.kept HM.out.own.kept (fun _ h => h)
  have hkind : (IntKind.u64.wrap D).tmod 9 = 3 ∨ (IntKind.u64.wrap D).tmod 9 = 4 ∨ (IntKind.u64.wrap D).tmod 9 = 5 ∨ (IntKind.u64.wrap D).tmod 9 = 6 ∨ (IntKind.u64.wrap D).tmod 9 = 7 ∨ (IntKind.u64.wrap D).tmod 9 = 8 ∨ ∃ p : Nat, (IntKind.u64.wrap D).tmod 9 = (p : Int) ∧ ((p : Int) == 3) = false ∧ ((p : Int) == 4) = false ∧ ((p : Int) == 5) = false ∧ ((p : Int) == 6) = false ∧ ((p : Int) == 7) = false ∧ ((p : Int) == 8) = false := by
    obtain ⟨p, hp, hpe⟩ := tmod9 D
    by_cases hp3 : p < 3
    · exact .inr (.inr (.inr (.inr (.inr (.inr ⟨p, hpe, beq_eq_false_iff_ne.2 (by omega), beq_eq_false_iff_ne.2 (by omega), beq_eq_false_iff_ne.2 (by omega), beq_eq_false_iff_ne.2 (by omega), beq_eq_false_iff_ne.2 (by omega), beq_eq_false_iff_ne.2 (by omega)⟩)))))
    · omega
  rcases hkind with hq | hq | hq | hq | hq | hq | ⟨p, hq, q3, q4, q5, q6, q7, q8⟩
  · go_wp2_with fail
    refine (Sync_own w w2 _ d st HM.out.own).mono ?_
    rintro x w3 ⟨rfl, h3, k3⟩
    have HM3 := Lib.hid (HM.out.dop h3 k3)
    have g0 := cell_heap HM3.out.box 0
    have g1 := cell_heap HM3.out.box 1
    have g2 := cell_heap HM3.out.box 2
    simp only [List.getElem?_toArray, List.getElem?_cons_zero, List.getElem?_cons_succ] at g0 g1 g2
    clear h3 k3
    go_wp2_with fail
    refine (rsync_any w3 r f a c st HM3.out.ref HOK.out).mono ?_
    rintro x w4 ⟨rfl, hl⟩
    obtain ⟨f', a', c', hm4⟩ := HM3.out.rop hl
    have HM4 := Lib.hid hm4
    clear hl hm4 g0 g1 g2
    have hcc := code_same st.sync.2
    generalize st.sync.2 = cd at *
    have g3 := cell_heap HM4.out.box 3
    simp only [List.getElem?_toArray, List.getElem?_cons_zero, List.getElem?_cons_succ] at g3
    go_wp2_with fail
    refine (KBytes_any b2 a2 c2 t tb ta tc t w4 HM4.out.twin.src (HT.out.kept HM4.out.own.kept (fun _ h => h)) (by omega) (by omega)).mono ?_
    rintro x w5 ⟨rfl, n5, rfl⟩
    rw [same_refl]
    obtain ⟨w5, hW⟩ : ∃ W, W = w4.drewN n5 := ⟨_, rfl⟩
    rw [← hW]
    have HM5 := Lib.hid (HM4.out.same (w3 := w5) (by rw [hW]; exact (Kept.refl _ _).drewN n5))
    clear hW g3
    go_wp2_with fail
    refine (Spoil_any b2 a2 c2 t w5 HM5.out.twin (by omega)).mono ?_
    rintro x w6 ⟨rfl, l', _, _, hk6⟩
    have HBO := Lib.hid (HM5.out.done hk6)
    clear hk6
    go_wp2
    go_ret
    exact ⟨rfl, f', a', c', _, HBO.out⟩
  · go_wp2_with fail
    refine (Sync_own w w2 _ d st HM.out.own).mono ?_
    rintro x w3 ⟨rfl, h3, k3⟩
    have HM3 := Lib.hid (HM.out.dop h3 k3)
    have g0 := cell_heap HM3.out.box 0
    have g1 := cell_heap HM3.out.box 1
    have g2 := cell_heap HM3.out.box 2
    simp only [List.getElem?_toArray, List.getElem?_cons_zero, List.getElem?_cons_succ] at g0 g1 g2
    clear h3 k3
    go_wp2_with fail
    refine (rsync_any w3 r f a c st HM3.out.ref HOK.out).mono ?_
    rintro x w4 ⟨rfl, hl⟩
    obtain ⟨f', a', c', hm4⟩ := HM3.out.rop hl
    have HM4 := Lib.hid hm4
    clear hl hm4 g0 g1 g2
    have hcc := code_same st.sync.2
    generalize st.sync.2 = cd at *
    have g3 := cell_heap HM4.out.box 3
    simp only [List.getElem?_toArray, List.getElem?_cons_zero, List.getElem?_cons_succ] at g3
    go_wp2_with fail
    refine (KBytes_any b2 a2 c2 t tb ta tc t w4 HM4.out.twin.src (HT.out.kept HM4.out.own.kept (fun _ h => h)) (by omega) (by omega)).mono ?_
    rintro x w5 ⟨rfl, n5, rfl⟩
    rw [same_refl]
    obtain ⟨w5, hW⟩ : ∃ W, W = w4.drewN n5 := ⟨_, rfl⟩
    rw [← hW]
    have HM5 := Lib.hid (HM4.out.same (w3 := w5) (by rw [hW]; exact (Kept.refl _ _).drewN n5))
    clear hW g3
    go_wp2_with fail
    refine (Spoil_any b2 a2 c2 t w5 HM5.out.twin (by omega)).mono ?_
    rintro x w6 ⟨rfl, l', _, _, hk6⟩
    have HBO := Lib.hid (HM5.out.done hk6)
    clear hk6
    go_wp2
    go_ret
    exact ⟨rfl, f', a', c', _, HBO.out⟩
  · have hd : ∀ v : World, Kept None w2 v → Calls Try.prog 20 #[.pointer (some ⟨d, 0, none⟩), .slice a2 t.length c2] v fun x w' => x = .returned (.int .i64 (st.replace t).2) ∧ Mid w w' d r P b2 a2 c2 t (.cells #[.int .i64 D, .int .i64 N, .int .i64 K, .slice ta t.length tc] 35 (0, 0)) f a c (st.replace t).1 st := fun v hv => by
      have hm := HM.out.same hv
      exact (Replace_own w v _ d st hm.own b2 a2 c2 t hm.twin.src (fun hn => .inr (.inr (.inr (.inr ⟨twin_some hm.twin hn, rfl⟩)))) H8.out (by omega)).mono fun _ _ ⟨h1, h2, h3⟩ => ⟨h1, hm.dop h2 h3⟩
    have HDD := Lib.hid hd
    have hcc := code_same (st.replace t).2
    obtain ⟨cd, hcd⟩ : ∃ cd, cd = (st.replace t).2 := ⟨_, rfl⟩
    have HCD := Lib.hid hcd
    rw [← hcd] at HDD hcc
    clear hd hcd
    go_wp2
    go_region_with ((first | (go_at_call 20; refine Calls.mono (HDD.out _ (by first | exact (Kept.refl _ _).drew | exact Kept.refl _ _ | exact (Kept.refl _ _).drewN _)) ?_; rintro x w3 ⟨rfl, hm3⟩; have HM3 := Lib.hid hm3; have g3 := cell_heap hm3.box 3; simp only [List.getElem?_toArray, List.getElem?_cons_zero, List.getElem?_cons_succ] at g3; clear hm3) | (go_at_call 27; refine Calls.mono (rreplace_any w3 r f a c st HM3.out.ref HOK.out tb ta tc t (HT.out.kept HM3.out.own.kept (fun _ h => h)) (fun hn => by have h1 := HTB.out hn; have h2 := HM3.out.lo; omega) (by omega)) ?_; rw [← HCD.out]; rintro x w4 ⟨rfl, hl⟩; obtain ⟨f', a', c', hm4⟩ := HM3.out.rop hl; have HM4 := Lib.hid hm4; clear hl hm4)))
    all_goals
      try clear g3
      have g3 := cell_heap HM4.out.box 3
      simp only [List.getElem?_toArray, List.getElem?_cons_zero, List.getElem?_cons_succ] at g3
      go_wp2_with fail
      refine (KBytes_any b2 a2 c2 t tb ta tc t w4 HM4.out.twin.src (HT.out.kept HM4.out.own.kept (fun _ h => h)) (by omega) (by omega)).mono ?_
      rintro x w5 ⟨rfl, n5, rfl⟩
      rw [same_refl]
      obtain ⟨w5, hW⟩ : ∃ W, W = w4.drewN n5 := ⟨_, rfl⟩
      rw [← hW]
      have HM5 := Lib.hid (HM4.out.same (w3 := w5) (by rw [hW]; exact (Kept.refl _ _).drewN n5))
      clear hW g3
      go_wp2_with fail
      refine (Spoil_any b2 a2 c2 t w5 HM5.out.twin (by omega)).mono ?_
      rintro x w6 ⟨rfl, l', _, _, hk6⟩
      have HBO := Lib.hid (HM5.out.done hk6)
      clear hk6
      go_wp2
      go_ret
      exact ⟨rfl, f', a', c', _, HBO.out⟩
  · go_wp2_with fail
    refine (Trip_own w w2 _ d st HM.out.own N K hN1 hN2 hK1 hK2).mono ?_
    rintro x w3 ⟨rfl, h3, k3⟩
    have HM3 := Lib.hid (HM.out.dop h3 k3)
    have g0 := cell_heap HM3.out.box 0
    have g1 := cell_heap HM3.out.box 1
    have g2 := cell_heap HM3.out.box 2
    simp only [List.getElem?_toArray, List.getElem?_cons_zero, List.getElem?_cons_succ] at g0 g1 g2
    clear h3 k3
    go_wp2_with fail
    refine (rtrip_any w3 r f a c st HM3.out.ref N K).mono ?_
    rintro x w4 ⟨rfl, hl⟩
    obtain ⟨f', a', c', hm4⟩ := HM3.out.rop hl
    have HM4 := Lib.hid hm4
    clear hl hm4 g0 g1 g2
    have g3 := cell_heap HM4.out.box 3
    simp only [List.getElem?_toArray, List.getElem?_cons_zero, List.getElem?_cons_succ] at g3
    go_wp2_with fail
    refine (KBytes_any b2 a2 c2 t tb ta tc t w4 HM4.out.twin.src (HT.out.kept HM4.out.own.kept (fun _ h => h)) (by omega) (by omega)).mono ?_
    rintro x w5 ⟨rfl, n5, rfl⟩
    rw [same_refl]
    obtain ⟨w5, hW⟩ : ∃ W, W = w4.drewN n5 := ⟨_, rfl⟩
    rw [← hW]
    have HM5 := Lib.hid (HM4.out.same (w3 := w5) (by rw [hW]; exact (Kept.refl _ _).drewN n5))
    clear hW g3
    go_wp2_with fail
    refine (Spoil_any b2 a2 c2 t w5 HM5.out.twin (by omega)).mono ?_
    rintro x w6 ⟨rfl, l', _, _, hk6⟩
    have HBO := Lib.hid (HM5.out.done hk6)
    clear hk6
    go_wp2
    go_ret
    exact ⟨rfl, f', a', c', _, HBO.out⟩
  · go_wp2_with fail
    refine (Crash_own w w2 _ d st HM.out.own K hK1 hK2).mono ?_
    rintro x w3 ⟨rfl, h3, k3⟩
    have HM3 := Lib.hid (HM.out.dop h3 k3)
    have g0 := cell_heap HM3.out.box 0
    have g1 := cell_heap HM3.out.box 1
    have g2 := cell_heap HM3.out.box 2
    simp only [List.getElem?_toArray, List.getElem?_cons_zero, List.getElem?_cons_succ] at g0 g1 g2
    clear h3 k3
    go_wp2_with fail
    refine (rcrash_any w3 r f a c st HM3.out.ref HOK.out K).mono ?_
    rintro x w4 ⟨rfl, hl⟩
    obtain ⟨f', a', c', hm4⟩ := HM3.out.rop hl
    have HM4 := Lib.hid hm4
    clear hl hm4 g0 g1 g2
    have g3 := cell_heap HM4.out.box 3
    simp only [List.getElem?_toArray, List.getElem?_cons_zero, List.getElem?_cons_succ] at g3
    go_wp2_with fail
    refine (KBytes_any b2 a2 c2 t tb ta tc t w4 HM4.out.twin.src (HT.out.kept HM4.out.own.kept (fun _ h => h)) (by omega) (by omega)).mono ?_
    rintro x w5 ⟨rfl, n5, rfl⟩
    rw [same_refl]
    obtain ⟨w5, hW⟩ : ∃ W, W = w4.drewN n5 := ⟨_, rfl⟩
    rw [← hW]
    have HM5 := Lib.hid (HM4.out.same (w3 := w5) (by rw [hW]; exact (Kept.refl _ _).drewN n5))
    clear hW g3
    go_wp2_with fail
    refine (Spoil_any b2 a2 c2 t w5 HM5.out.twin (by omega)).mono ?_
    rintro x w6 ⟨rfl, l', _, _, hk6⟩
    have HBO := Lib.hid (HM5.out.done hk6)
    clear hk6
    go_wp2
    go_ret
    exact ⟨rfl, f', a', c', _, HBO.out⟩
  · go_wp2_with fail
    refine (Start_own w w2 _ d st HM.out.own).mono ?_
    rintro x w3 ⟨rfl, h3, k3⟩
    have HM3 := Lib.hid (HM.out.dop h3 k3)
    have g0 := cell_heap HM3.out.box 0
    have g1 := cell_heap HM3.out.box 1
    have g2 := cell_heap HM3.out.box 2
    simp only [List.getElem?_toArray, List.getElem?_cons_zero, List.getElem?_cons_succ] at g0 g1 g2
    clear h3 k3
    go_wp2_with fail
    refine (rstart_any w3 r f a c st HM3.out.ref).mono ?_
    rintro x w4 ⟨rfl, hl⟩
    obtain ⟨f', a', c', hm4⟩ := HM3.out.rop hl
    have HM4 := Lib.hid hm4
    clear hl hm4 g0 g1 g2
    have g3 := cell_heap HM4.out.box 3
    simp only [List.getElem?_toArray, List.getElem?_cons_zero, List.getElem?_cons_succ] at g3
    go_wp2_with fail
    refine (KBytes_any b2 a2 c2 t tb ta tc t w4 HM4.out.twin.src (HT.out.kept HM4.out.own.kept (fun _ h => h)) (by omega) (by omega)).mono ?_
    rintro x w5 ⟨rfl, n5, rfl⟩
    rw [same_refl]
    obtain ⟨w5, hW⟩ : ∃ W, W = w4.drewN n5 := ⟨_, rfl⟩
    rw [← hW]
    have HM5 := Lib.hid (HM4.out.same (w3 := w5) (by rw [hW]; exact (Kept.refl _ _).drewN n5))
    clear hW g3
    go_wp2_with fail
    refine (Spoil_any b2 a2 c2 t w5 HM5.out.twin (by omega)).mono ?_
    rintro x w6 ⟨rfl, l', _, _, hk6⟩
    have HBO := Lib.hid (HM5.out.done hk6)
    clear hk6
    go_wp2
    go_ret
    exact ⟨rfl, f', a', c', _, HBO.out⟩
  · have hd : ∀ v : World, Kept None w2 v → Calls Try.prog 24 #[.pointer (some ⟨d, 0, none⟩), .slice a2 t.length c2] v fun x w' => x = .returned (.int .i64 (st.append t).2) ∧ Mid w w' d r P b2 a2 c2 t (.cells #[.int .i64 D, .int .i64 N, .int .i64 K, .slice ta t.length tc] 35 (0, 0)) f a c (st.append t).1 st := fun v hv => by
      have hm := HM.out.same hv
      exact (Append_own w v _ d st hm.own b2 a2 c2 t hm.twin.src (fun hn => .inr (.inr (.inr (.inr ⟨twin_some hm.twin hn, rfl⟩)))) H8.out (by omega)).mono fun _ _ ⟨h1, h2, h3⟩ => ⟨h1, hm.dop h2 h3⟩
    have HDD := Lib.hid hd
    have hcc := code_same (st.append t).2
    obtain ⟨cd, hcd⟩ : ∃ cd, cd = (st.append t).2 := ⟨_, rfl⟩
    have HCD := Lib.hid hcd
    rw [← hcd] at HDD hcc
    clear hd hcd
    go_wp2
    go_region_with ((first | (go_at_call 24; refine Calls.mono (HDD.out _ (by first | exact (Kept.refl _ _).drew | exact Kept.refl _ _ | exact (Kept.refl _ _).drewN _)) ?_; rintro x w3 ⟨rfl, hm3⟩; have HM3 := Lib.hid hm3; have g3 := cell_heap hm3.box 3; simp only [List.getElem?_toArray, List.getElem?_cons_zero, List.getElem?_cons_succ] at g3; clear hm3) | (go_at_call 31; refine Calls.mono (rappend_any w3 r f a c st HM3.out.ref HOK.out tb ta tc t (HT.out.kept HM3.out.own.kept (fun _ h => h)) (fun hn => by have h1 := HTB.out hn; have h2 := HM3.out.lo; omega) (by omega) H8.out) ?_; rw [← HCD.out]; rintro x w4 ⟨rfl, hl⟩; obtain ⟨f', a', c', hm4⟩ := HM3.out.rop hl; have HM4 := Lib.hid hm4; clear hl hm4)))
    all_goals
      try clear g3
      have g3 := cell_heap HM4.out.box 3
      simp only [List.getElem?_toArray, List.getElem?_cons_zero, List.getElem?_cons_succ] at g3
      go_wp2_with fail
      refine (KBytes_any b2 a2 c2 t tb ta tc t w4 HM4.out.twin.src (HT.out.kept HM4.out.own.kept (fun _ h => h)) (by omega) (by omega)).mono ?_
      rintro x w5 ⟨rfl, n5, rfl⟩
      rw [same_refl]
      obtain ⟨w5, hW⟩ : ∃ W, W = w4.drewN n5 := ⟨_, rfl⟩
      rw [← hW]
      have HM5 := Lib.hid (HM4.out.same (w3 := w5) (by rw [hW]; exact (Kept.refl _ _).drewN n5))
      clear hW g3
      go_wp2_with fail
      refine (Spoil_any b2 a2 c2 t w5 HM5.out.twin (by omega)).mono ?_
      rintro x w6 ⟨rfl, l', _, _, hk6⟩
      have HBO := Lib.hid (HM5.out.done hk6)
      clear hk6
      go_wp2
      go_ret
      exact ⟨rfl, f', a', c', _, HBO.out⟩
end Go.Proofs.Ytaogpchjkbcjoaa.Dk
