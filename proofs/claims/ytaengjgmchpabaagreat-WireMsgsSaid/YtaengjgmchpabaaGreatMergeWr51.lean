import Derived.Test.YtaengjgmchpabaaGreatWireEncE
import Derived.Test.YtaengjgmchpabaaGreatMergeWr41
import Derived.Test.YtaengjgmchpabaaGreatKeepB
import Derived.Test.YtaengjgmchpabaaGreatMergeWr13
import Derived.Test.YtaengjgmchpabaaGreatMergeWr36
import Derived.Test.YtaengjgmchpabaaGreatWireG8
import Derived.Test.YtaengjgmchpabaaGreatMergeWr46
import Derived.Test.YtaengjgmchpabaaGreatWireKM
import Derived.Test.YtaengjgmchpabaaGreatMergeWr49
import Derived.Test.YtaengjgmchpabaaGreatMergeWr40
section
/- Cut out of WireLawH so that every seat fills it. -/
namespace Go.Proofs.YtaengjgmchpabaaGreat.Wr
open Go Go.RowKit Vl Kv Ss Cn Mem Lg Nm
theorem eR_is (x : E) : eR (some []) x = if okE x = true then some (some (cEnt.enc x)) else none := rfl
/-- what a writer tells: P: it may be written -/
def Told (P : Prop) (l : List Nat) (w : World) (e : Ending) (w' : World) : Prop :=
  Beh w w' ∧ ((P ∧ l.length ≤ 16384 ∧ ∃ b a cap, e = .returned (.tuple #[.slice a l.length cap, .int .i64 0]) ∧ OwnB 5 w' b a cap l ∧ w.heap.size ≤ b) ∨
    (¬ (P ∧ l.length ≤ 16384) ∧ ∃ c : Int, c ≠ 0 ∧ e = .returned (.tuple #[.slice none 0 0, .int .i64 c])))
theorem EncTold.told {r : Option (Option (List Nat))} {P : Prop} {l : List Nat} {w w' : World} {e : Ending} (h : EncTold r w e w') (hy : P → r = some (some l)) (hn : ¬ P → r = none ∨ r = some none) : Told P l w e w' := by
  obtain ⟨hb, h⟩ := h
  refine ⟨hb, ?_⟩
  by_cases hP : P
  · rw [hy hP] at h
    simp only at h
    by_cases hl : l.length ≤ 16384
    · exact .inl ⟨hP, hl, h.1 hl⟩
    · exact .inr ⟨fun x => hl x.2, 2, by decide, h.2 (by omega)⟩
  · rcases hn hP with e1 | e1
    · rw [e1] at h
      exact .inr ⟨fun x => hP x.1, 3, by decide, h⟩
    · rw [e1] at h
      exact .inr ⟨fun x => hP x.1, 2, by decide, h⟩
theorem Entry_told {x : E} (hf : FitE x) (w : World) : Calls Tryz.prog 31 #[x.agg] w (Told (cEnt.ok x) (cEnt.enc x) w) :=
  (Entry_any hf).mono fun e w' h => h.told (fun hP => by rw [eR_is, if_pos ((cEnt_ok hf).1 hP)]) (fun hP => .inl (by rw [eR_is, if_neg (fun h => hP ((cEnt_ok hf).2 h))]))
end Go.Proofs.YtaengjgmchpabaaGreat.Wr
end
section
/- Cut out of WireTell so that every seat fills it. -/
namespace Go.Proofs.YtaengjgmchpabaaGreat.Wr
open Go Go.RowKit Vl Kv Ss Cn Mem Lg Nm
attribute [local go_sem] Nm.run_bits Nm.run_frombits run_store_float
/-- these bytes, and no error -/
def Fine (l : List Nat) (w : World) (e : Ending) (w' : World) : Prop := ∃ b a cap, e = .returned (.tuple #[.slice a l.length cap, .int .i64 0]) ∧ Mem.Src w' b a cap l ∧ Below w.heap.size w w'
theorem Told.fine {P : Prop} {l : List Nat} {w w' : World} {e : Ending} (h : Told P l w e w') (hP : P) (hl : l.length ≤ 16384) : Fine l w e w' := by
  obtain ⟨hb, h⟩ := h
  rcases h with ⟨_, _, b, a, cap, rfl, ho, _⟩ | ⟨hn, _⟩
  · exact ⟨b, a, cap, rfl, ho.src, hb⟩
  · exact absurd ⟨hP, hl⟩ hn
def e1 : E := ⟨1, 0, Cl.zero, C.zero⟩
theorem e1_fit : FitE e1 := ⟨⟨by decide, by decide⟩, z64, fitCl_zero, fitC_zero⟩
theorem e1_enc : cEnt.enc e1 = [2, 0] := by kernel_rfl
theorem e1_ok : cEnt.ok e1 := (cEnt_ok e1_fit).2 (by kernel_rfl)
theorem E1_any (w : World) : Calls Tryz.prog 31 #[e1.agg] w (Fine [2, 0] w) := by
  rw [← e1_enc]
  exact (Entry_told e1_fit w).mono fun e w' h => h.fine e1_ok (by rw [e1_enc]; decide)
theorem same_true {l : List Nat} {w : World} {x : Ending} {w' : World} (h : Kp.SameB l l w x w') : x = .returned (.bool true) ∧ Below w.heap.size w w' := by
  obtain ⟨h1, n, rfl⟩ := h
  rw [decide_eq_true rfl] at h1
  exact ⟨h1, Bh.below_drewN (Below.refl _ _) _⟩
set_option maxHeartbeats 1600000 in
set_option maxRecDepth 100000 in
theorem wakes_any (w : World) : Calls Tryz.prog 13 #[] w fun e w' => e = .returned (.bool true) ∧ Below w.heap.size w w' := by
  have HE := fun w => Lib.hid (E1_any w)
  go_enter Tryz.func13, Tryz.ntmps13
  go_wp2_with fail
  refine Calls.mono (HE _).out ?_
  rintro e w1 ⟨b, a, cap, rfl, hs, hb⟩
  have HS := Lib.hid hs
  have HB := Lib.hid hb
  clear hs hb HE
  have HK : Hid (Calls Tryz.prog 7 #[.slice a 2 cap, .slice (some ⟨w1.heap.size, 0, none⟩) 2 2] (w1.alloc (.cells #[.int .u8 2, .int .u8 0] 5)) fun e w' => e = .returned (.bool true) ∧ Below w.heap.size w w') :=
    (Kp.KBytes_any b a cap [2, 0] w1.heap.size (some ⟨w1.heap.size, 0, none⟩) 2 [2, 0] _ (HS.out.kept (kept_beh (below_alloc _ _)) (fun _ h => h)) (Kp.shows_made (m := [2, 0]) (heap_alloc_new _ _) rfl (Nat.le_refl 2) (by decide)).src (by decide) (by decide)).mono fun e w' hx => ⟨(same_true hx).1, (Kv.Beh.alloc HB.out _).on (same_true hx).2⟩
  go_wp2_with (first | (go_at_call 7; refine Calls.mono HK.out ?_; rintro e w2 ⟨rfl, hb⟩; (have HB := Lib.hid hb); clear hb))
  go_ret
  exact ⟨rfl, HB.out⟩
end Go.Proofs.YtaengjgmchpabaaGreat.Wr
end
section
/- Cut out of WireEntriesL so that every seat fills it. -/
namespace Go.Proofs.YtaengjgmchpabaaGreat.Wr
open Go Go.RowKit Vl Kv Ss Cn Mem Lg Nm
attribute [local go_sem] Nm.run_bits Nm.run_frombits run_store_float
/-- two ways of what a writer tells -/
theorem enc_ways (r : Option (Option (List Nat))) : (∃ c : Int, ∀ w e w', EncTold r w e w' → e = .returned (.tuple #[.slice none 0 0, .int .i64 c]) ∧ Below w.heap.size w w') ∨
    (∃ l : List Nat, l.length ≤ 16384 ∧ ∀ w e w', EncTold r w e w' → ∃ b a cap, e = .returned (.tuple #[.slice a l.length cap, .int .i64 0]) ∧ OwnB 5 w' b a cap l ∧ Below w.heap.size w w') := by
  match r with
  | none => exact .inl ⟨3, fun w e w' h => ⟨h.2, h.1⟩⟩
  | some none => exact .inl ⟨2, fun w e w' h => ⟨h.2, h.1⟩⟩
  | some (some l) =>
    by_cases hl : l.length ≤ 16384
    · refine .inr ⟨l, hl, fun w e w' h => ?_⟩
      obtain ⟨b, a, cap, h1, h2, _⟩ := h.2.1 hl
      exact ⟨b, a, cap, h1, h2, h.1⟩
    · exact .inl ⟨2, fun w e w' h => ⟨h.2.2 (by omega), h.1⟩⟩
theorem nil_same (W : World) : Calls Tryz.prog 7 #[.slice none 0 0, .slice none 0 0] W fun e w' => e = .returned (.bool true) ∧ Below W.heap.size W w' :=
  (Kp.KBytes_any 0 none 0 [] 0 none 0 [] W (OwnB.nil 5 _ _).src (OwnB.nil 5 _ _).src (by decide) (by decide)).mono fun _ _ h => same_true h
end Go.Proofs.YtaengjgmchpabaaGreat.Wr
end
section
/- The law WireMsgs. -/
namespace Go.Proofs.YtaengjgmchpabaaGreat.Wr
open Go Go.RowKit Vl Kv Ss Cn Mem Lg Nm
attribute [local go_sem] Nm.run_bits Nm.run_frombits run_store_float
theorem bx_kept2 {w W W' : World} {l : List Obj} {S : Nat → Prop} (h : Bh.Bx w l W) (hk : Kept S W W') (hS : ∀ k, S k → w.heap.size + l.length ≤ k) : Bh.Bx w l W' :=
  ⟨Below.trans h.beh (hk.below h.beh.size (fun k e => by have := hS k e; omega)), fun i o ho => hk.heap (h.box i o ho) (fun e => by have := hS _ e; have := (List.getElem?_eq_some_iff.1 ho).1; omega)⟩
theorem OwnM.at_ {N : Nat → Prop} {W : World} {x : Mr} {LM : List Mr} (h : OwnM N W x LM) : MsgAt W x LM :=
  ⟨h.self.flat, h.len, by obtain ⟨b, h1, _⟩ := h.list; exact Li.OwnL.list h1, fun y hy => (h.all y hy).flat⟩
theorem OwnM.none (N : Nat → Prop) (W : World) : OwnM N W (Fl.zero, Mp.none) [] :=
  ⟨⟨⟨0, OwnC.nil _ _ _ _, fun h => absurd rfl h⟩, OwnB.nil _ _ _, fun h => absurd rfl h⟩, (fun y hy => by cases hy), (fun y hy => by cases hy), rfl, 0, OwnC.nil _ _ _ _, fun h => absurd rfl h⟩
theorem OwnM.keep {N M : Nat → Prop} {W : World} {f : Fl} {p q : Mp} {LP LQ : List Mr} (h : OwnM N W (f, p) LP) (g : OwnM M W (f, q) LQ) (he : LP.map Prod.fst = LQ.map Prod.fst) (hs : f.snap.length ≤ 100000) (hl : ∀ y ∈ LP.map Prod.fst, y.snap.length ≤ 100000) :
    Calls Tryz.prog 12 #[Mr.val (f, p), Mr.val (f, q)] W fun e w' => e = .returned (.bool true) ∧ Below W.heap.size W w' := by
  have hlen : LP.length = LQ.length := by have := congrArg List.length he; simpa using this
  have hg : ∀ {L : List Mr} {k : Nat}, k < L.length → L.getD k Mr.zero ∈ L := fun {L k} hk => by
    have e : L.getD k Mr.zero = L[k] := by simp [hk]
    rw [e]; exact List.getElem_mem hk
  exact keepMsg_self f p q LP LQ W h.at_ g.at_ he (fun k hk => by rw [h.zero _ (hg hk), g.zero _ (hg (by omega))]) hs (fun y hy => hl _ (List.mem_map_of_mem hy))
theorem me_snaps {m : Me} (h : cMsg.ok m) : m.head.snap.length ≤ 100000 ∧ ∀ f ∈ m.inner, f.snap.length ≤ 100000 := by
  have h : cHead.ok m.head ∧ (cList cInner (fun n => decide (n ≤ 16))).ok m.inner := h
  have hs : ∀ f, cHead.ok f → f.snap.length ≤ 100000 := fun f o => by
    have o : In64 f.kind ∧ In64 f.from_ ∧ In64 f.to ∧ In64 f.term ∧ In64 f.index ∧ In64 f.logt ∧ In64 f.commit ∧ In64 f.round ∧ True ∧ (cList cEnt (fun n => decide (n ≤ 8))).ok f.ents ∧ cConf.ok f.conf ∧ (f.snap.length ≤ 16384 ∧ B8 f.snap) := o
    have := o.2.2.2.2.2.2.2.2.2.2.2.1
    omega
  exact ⟨hs _ h.1, fun f hf => hs _ (show cHead.ok f ∧ _ from ((cList_ok cInner).1 h.2).2.2 f hf).1⟩
set_option maxHeartbeats 12800000 in
set_option maxRecDepth 100000 in
theorem WireMsgs_law (x : Mr) (L : List Mr) (b : Nat) (a : Option Addr) (cap : Nat) (F : List Nat) (w : World) (hm : MsgIn w x L) (rx : RF x.1) (rl : ∀ y ∈ L, RF y.1) (hs : Mem.Src w b a cap F) (h8 : B8 F) :
    Calls Tryz.prog 3 #[x.val, .slice a F.length cap] w fun e w' => e = .returned (.bool true) ∧ Below w.heap.size w w' := by
  have HB := Lib.hid (Bh.Bx.one w x.obj)
  have HWK := fun w => Lib.hid (wakes_any w)
  have HV1 : Hid (∀ W, Kv.Beh w W → Calls Tryz.prog 4 #[x.val] W (HvTold x L W)) := fun W hW => heavyMsg_any x L W (hm.on hW)
  have HFIT : Hid (Light x L → FitMs x L) := fun h => h.fit hm rx rl
  obtain ⟨n, hn⟩ : ∃ n, n = F.length := ⟨_, rfl⟩
  rw [← hn]
  have HN := Lib.hid hn
  have HAT := Lib.hid hm
  have HSR := Lib.hid hs
  have H8 := Lib.hid h8
  clear hm rx rl hs h8 hn
  go_enter Tryz.func3, Tryz.ntmps3
  go_wp2_with (apply Bh.load_bx 0 HB.out Tryz.underlying28; rfl; rfl; rfl; rfl; rfl; kernel_rfl)
  refine Calls.mono (HV1.out _ HB.out.beh) ?_
  rintro e wv ⟨q, rfl, hb, hq⟩
  have HB := Lib.hid (HB.out.on hb)
  clear hb HV1
  cases q
  case true => as_aux_lemma =>
    clear hq HFIT
    go_wp2_with fail
    go_ret
    exact ⟨rfl, HB.out.beh⟩
  have hf := HFIT.out (hq rfl)
  clear hq
  by_cases hl : F.length ≤ 32768
  case neg => as_aux_lemma =>
    have d1 : decide ((32768 : Int) < (n : Int)) = true := decide_eq_true (by have := HN.out; omega)
    clear hl hf
    go_wp2_with fail
    go_ret
    exact ⟨rfl, HB.out.beh⟩
  have d1 : decide ((32768 : Int) < (n : Int)) = false := decide_eq_false (by have := HN.out; omega)
  have HW1 : Hid (∀ W, Kv.Beh w W → Calls Tryz.prog 5 #[x.val] W (EncTold (mR (some []) x L 16) W)) := fun W hW => Msg_any (HAT.out.on hW).at_ hf
  have HW2 : Hid (∀ W, Kv.Beh w W → Calls Tryz.prog 6 #[x.val] W (EncTold (mR (some []) x L 16) W)) := fun W hW => refMsgW x L W (HAT.out.on hW).at_ hf
  have HTW : Hid (∀ W, Kv.Beh w W → Calls Tryz.prog 8 #[.slice a n cap] W (Kp.NewB F W)) := fun W hW => by rw [HN.out]; exact Kp.Twin_any b a cap F W (HSR.out.kept (kept_beh hW) (fun _ h => h)) (by omega)
  have HR2 : Hid (∀ W, Kv.Beh w W → Calls Tryz.prog 11 #[.slice a n cap] W (AldM F W)) := fun W hW => by rw [HN.out]; exact RefReadMsg (HSR.out.kept (kept_beh hW) (fun _ h => h)) H8.out (by omega)
  have HF : Hid (B8 F ∧ F.length ≤ 32768) := ⟨H8.out, hl⟩
  have hw := enc_ways (mR (some []) x L 16)
  generalize mR (some []) x L 16 = r at *
  obtain ⟨Y, I, C, OK, hC, HYZ⟩ : ∃ (Y : Fl) (I : List Fl) (C : Int) (OK : Bool), (OK = true ∧ C = 0 ∨ OK = false ∧ C = 3) ∧ Hid (Y.snap.length ≤ 100000 ∧ (∀ f ∈ I, f.snap.length ≤ 100000) ∧ ∀ W e W', (RMsg F W e W' → ∃ P LP, e = .returned (.tuple #[Mr.val (Y, P), .int .i64 C]) ∧ LP.map Prod.fst = I ∧ OwnM (fun k => W.heap.size ≤ k) W' (Y, P) LP ∧ Below W.heap.size W W') ∧ (AldM F W e W' → ∃ P LP, e = .returned (.tuple #[Mr.val (Y, P), .bool OK]) ∧ LP.map Prod.fst = I ∧ OwnM (fun k => W.heap.size ≤ k) W' (Y, P) LP ∧ Below W.heap.size W W')) := by
    unfold RMsg AldM
    cases hd : cMsg.all F with
    | some y =>
      obtain ⟨s1, s2⟩ := me_snaps (all_sound cMsg H8.out hd).2.1
      refine ⟨y.head, y.inner, 0, true, .inl ⟨rfl, rfl⟩, s1, s2, fun W e W' => ⟨fun h => ?_, fun h => ?_⟩⟩
      · obtain ⟨P, LP, h1, h2, h3⟩ := h.2; exact ⟨P, LP, h1, h2, h3, h.1⟩
      · obtain ⟨P, LP, h1, h2, h3⟩ := h.2; exact ⟨P, LP, h1, h2, h3, h.1⟩
    | none => exact ⟨Fl.zero, [], 3, false, .inr ⟨rfl, rfl⟩, Nat.zero_le _, (fun f hf => by cases hf), fun W e W' => ⟨fun h => ⟨Mp.none, [], h.2, rfl, OwnM.none _ _, h.1⟩, fun h => ⟨Mp.none, [], h.2, rfl, OwnM.none _ _, h.1⟩⟩⟩
  clear hl hf HFIT
  rcases hw with ⟨c, hw⟩ | ⟨l, hl, hw⟩
  · have HWA := Lib.hid hw
    clear hw
    rcases hC with ⟨rfl, rfl⟩ | ⟨rfl, rfl⟩
    all_goals
      as_aux_lemma =>
        go_wp2_with (first | (go_at_call 5; refine Calls.mono (HW1.out _ HB.out.beh) ?_; intro e w1 he; (obtain ⟨rfl, hb⟩ := HWA.out _ _ _ he); (have HB := Lib.hid (HB.out.on hb)); clear he hb) | (go_at_call 6; refine Calls.mono (HW2.out _ HB.out.beh) ?_; intro e w2 he; (obtain ⟨rfl, hb⟩ := HWA.out _ _ _ he); (have HB := Lib.hid (HB.out.on hb)); clear he hb) | (go_at_call 7; refine Calls.mono (nil_same _) ?_; rintro e w3 ⟨rfl, hb⟩; (have HB := Lib.hid (HB.out.on hb)); clear hb) | (apply Bh.load_bx 0 HB.out Tryz.underlying28; rfl; rfl; rfl; rfl; rfl; kernel_rfl))
        refine Calls.mono (HTW.out _ HB.out.beh) ?_
        rintro e w4 ⟨b3, a3, u3, rfl, ho, hlo, hk, _⟩
        have HLO : Hid (w.heap.size + 1 ≤ b3) := Lib.hid (Nat.le_trans HB.out.lt hlo)
        have HB := Lib.hid (HB.out.on (beh_kept hk))
        have HO3 := Lib.hid ho
        have HLT : Hid (∀ k, Of a3 b3 k → k < w4.heap.size) := fun k e => by rw [e.2]; exact HO3.out.lt e.1
        clear ho hlo hk
        rw [← HN.out]
        go_wp2_with fail
        have HR1 : Hid (Calls Tryz.prog 9 #[.slice a3 n u3] w4 (RMsg F w4)) := by rw [HN.out]; exact ReadMsg_any HO3.out.src HF.out.1 (by have := HF.out.2; omega)
        refine Calls.mono HR1.out ?_
        intro e w5 he
        obtain ⟨P, LP, rfl, hLP, hP, hb⟩ := (HYZ.out.2.2 _ _ _).1 he
        have HB := Lib.hid (HB.out.on hb)
        have HO5 := Lib.hid (HO3.out.kept (kept_beh hb) (fun _ h => h.elim))
        have HP := Lib.hid hP
        have HLP := Lib.hid hLP
        have HSZ := Lib.hid hb.size
        have HY := Lib.hid (Bh.Bx.one w5 Mr.zero.obj)
        clear he hb hP hLP HR1
        go_wp2_with (first | (apply Bh.store_bx 16 0 HY.out; rfl; rfl; rfl; rfl; rfl; rfl; kernel_rfl; rfl; rfl; intro wz hz; have HY := Lib.hid hz; (have HB := Lib.hid (HB.out.on hz.beh)); (have HO5 := Lib.hid (HO5.out.kept (kept_beh hz.beh) (fun _ h => h.elim))); (have HP := Lib.hid (HP.out.kept (kept_beh hz.beh) (fun _ _ h => h.elim))); clear hz))
        have HSP := Lib.hid (Kp.Spoil_any b3 a3 u3 F _ HO5.out (by have := HF.out.2; omega))
        rw [← HN.out] at HSP
        refine Calls.mono HSP.out ?_
        rintro e w6 ⟨rfl, _, _, _, hk⟩
        have HYB : Hid (w6.heap[w5.heap.size]? = some (Mr.obj (Y, P))) := hk.heap HY.out.b0 (fun e => by have := HLT.out _ e; have := HSZ.out; omega)
        have HPA := Lib.hid (HP.out.kept hk (fun k e e2 => by have := HLT.out _ e2; omega))
        have HB := Lib.hid (bx_kept2 HB.out hk (fun k e => by have := e.2; have := HLO.out; simp only [List.length_cons, List.length_nil]; omega))
        clear hk HSP HY HO5 HP
        go_wp2_with fail
        refine Calls.mono (HR2.out _ HB.out.beh) ?_
        intro e w7 he
        obtain ⟨Q, LQ, rfl, hLQ, hQ, hb⟩ := (HYZ.out.2.2 _ _ _).2 he
        have HB := Lib.hid (HB.out.on hb)
        have HYB := Lib.hid (Bh.box_on HYB.out hb)
        have HPA := Lib.hid (HPA.out.kept (kept_beh hb) (fun _ _ h => h.elim))
        have HQ := Lib.hid hQ
        have HLQ := Lib.hid hLQ
        have HZ := Lib.hid (Bh.Bx.one w7 Mr.zero.obj)
        clear he hb hQ hLQ
        go_wp2_with (first | (apply Bh.store_bx 16 0 HZ.out; rfl; rfl; rfl; rfl; rfl; rfl; kernel_rfl; rfl; rfl; intro wz hz; have HZ := Lib.hid hz; (have HB := Lib.hid (HB.out.on hz.beh)); (have HYB := Lib.hid (Bh.box_on HYB.out hz.beh)); (have HPA := Lib.hid (HPA.out.kept (kept_beh hz.beh) (fun _ _ h => h.elim))); (have HQ := Lib.hid (HQ.out.kept (kept_beh hz.beh) (fun _ _ h => h.elim))); clear hz) | (apply load_g HYB.out Tryz.underlying28; rfl; rfl; rfl; rfl; kernel_rfl) | (apply Bh.load_bx 0 HZ.out Tryz.underlying28; rfl; rfl; rfl; rfl; rfl; kernel_rfl) | (go_at_call 12; refine Calls.mono (HPA.out.keep HQ.out (HLP.out.trans HLQ.out.symm) HYZ.out.1 (by rw [HLP.out]; exact HYZ.out.2.1)) ?_; rintro e w8 ⟨rfl, hb⟩; (have HB := Lib.hid (HB.out.on hb)); clear hb) | (go_at_call 13; refine Calls.mono ((HWK _).out) ?_; rintro e wk ⟨rfl, hb⟩; (have HB := Lib.hid (HB.out.on hb)); clear hb))
        go_ret
        exact ⟨rfl, HB.out.beh⟩
  · have HWA := Lib.hid hw
    obtain ⟨m, hm⟩ : ∃ m, m = l.length := ⟨_, rfl⟩
    have HM := Lib.hid hm
    clear hw hm
    rcases hC with ⟨rfl, rfl⟩ | ⟨rfl, rfl⟩
    all_goals
      as_aux_lemma =>
        go_wp2_with (apply Bh.load_bx 0 HB.out Tryz.underlying28; rfl; rfl; rfl; rfl; rfl; kernel_rfl)
        refine Calls.mono (HW1.out _ HB.out.beh) ?_
        intro e w1 he
        obtain ⟨b1, a1, u1, rfl, ho, hb⟩ := HWA.out _ _ _ he
        have HB := Lib.hid (HB.out.on hb)
        have HO1 := Lib.hid ho
        rw [← HM.out]
        clear he hb ho
        go_wp2_with (apply Bh.load_bx 0 HB.out Tryz.underlying28; rfl; rfl; rfl; rfl; rfl; kernel_rfl)
        refine Calls.mono (HW2.out _ HB.out.beh) ?_
        intro e w2 he
        obtain ⟨b2, a2, u2, rfl, ho, hb⟩ := HWA.out _ _ _ he
        have HB := Lib.hid (HB.out.on hb)
        have HKB : Hid (Calls Tryz.prog 7 #[.slice a1 m u1, .slice a2 m u2] w2 fun e w' => e = .returned (.bool true) ∧ Below w2.heap.size w2 w') := by
          rw [HM.out]
          exact (Kp.KBytes_any b1 a1 u1 l b2 a2 u2 l w2 (HO1.out.kept (kept_beh hb) (fun _ h => h.elim)).src ho.src (by omega) (by omega)).mono fun _ _ h => same_true h
        rw [← HM.out]
        clear he hb ho HO1
        go_wp2_with (first | (go_at_call 7; refine Calls.mono HKB.out ?_; rintro e w3 ⟨rfl, hb⟩; (have HB := Lib.hid (HB.out.on hb)); clear hb) | (apply Bh.load_bx 0 HB.out Tryz.underlying28; rfl; rfl; rfl; rfl; rfl; kernel_rfl))
        refine Calls.mono (HTW.out _ HB.out.beh) ?_
        rintro e w4 ⟨b3, a3, u3, rfl, ho, hlo, hk, _⟩
        have HLO : Hid (w.heap.size + 1 ≤ b3) := Lib.hid (Nat.le_trans HB.out.lt hlo)
        have HB := Lib.hid (HB.out.on (beh_kept hk))
        have HO3 := Lib.hid ho
        have HLT : Hid (∀ k, Of a3 b3 k → k < w4.heap.size) := fun k e => by rw [e.2]; exact HO3.out.lt e.1
        clear ho hlo hk
        rw [← HN.out]
        go_wp2_with fail
        have HR1 : Hid (Calls Tryz.prog 9 #[.slice a3 n u3] w4 (RMsg F w4)) := by rw [HN.out]; exact ReadMsg_any HO3.out.src HF.out.1 (by have := HF.out.2; omega)
        refine Calls.mono HR1.out ?_
        intro e w5 he
        obtain ⟨P, LP, rfl, hLP, hP, hb⟩ := (HYZ.out.2.2 _ _ _).1 he
        have HB := Lib.hid (HB.out.on hb)
        have HO5 := Lib.hid (HO3.out.kept (kept_beh hb) (fun _ h => h.elim))
        have HP := Lib.hid hP
        have HLP := Lib.hid hLP
        have HSZ := Lib.hid hb.size
        have HY := Lib.hid (Bh.Bx.one w5 Mr.zero.obj)
        clear he hb hP hLP HR1
        go_wp2_with (first | (apply Bh.store_bx 16 0 HY.out; rfl; rfl; rfl; rfl; rfl; rfl; kernel_rfl; rfl; rfl; intro wz hz; have HY := Lib.hid hz; (have HB := Lib.hid (HB.out.on hz.beh)); (have HO5 := Lib.hid (HO5.out.kept (kept_beh hz.beh) (fun _ h => h.elim))); (have HP := Lib.hid (HP.out.kept (kept_beh hz.beh) (fun _ _ h => h.elim))); clear hz))
        have HSP := Lib.hid (Kp.Spoil_any b3 a3 u3 F _ HO5.out (by have := HF.out.2; omega))
        rw [← HN.out] at HSP
        refine Calls.mono HSP.out ?_
        rintro e w6 ⟨rfl, _, _, _, hk⟩
        have HYB : Hid (w6.heap[w5.heap.size]? = some (Mr.obj (Y, P))) := hk.heap HY.out.b0 (fun e => by have := HLT.out _ e; have := HSZ.out; omega)
        have HPA := Lib.hid (HP.out.kept hk (fun k e e2 => by have := HLT.out _ e2; omega))
        have HB := Lib.hid (bx_kept2 HB.out hk (fun k e => by have := e.2; have := HLO.out; simp only [List.length_cons, List.length_nil]; omega))
        clear hk HSP HY HO5 HP
        go_wp2_with fail
        refine Calls.mono (HR2.out _ HB.out.beh) ?_
        intro e w7 he
        obtain ⟨Q, LQ, rfl, hLQ, hQ, hb⟩ := (HYZ.out.2.2 _ _ _).2 he
        have HB := Lib.hid (HB.out.on hb)
        have HYB := Lib.hid (Bh.box_on HYB.out hb)
        have HPA := Lib.hid (HPA.out.kept (kept_beh hb) (fun _ _ h => h.elim))
        have HQ := Lib.hid hQ
        have HLQ := Lib.hid hLQ
        have HZ := Lib.hid (Bh.Bx.one w7 Mr.zero.obj)
        clear he hb hQ hLQ
        go_wp2_with (first | (apply Bh.store_bx 16 0 HZ.out; rfl; rfl; rfl; rfl; rfl; rfl; kernel_rfl; rfl; rfl; intro wz hz; have HZ := Lib.hid hz; (have HB := Lib.hid (HB.out.on hz.beh)); (have HYB := Lib.hid (Bh.box_on HYB.out hz.beh)); (have HPA := Lib.hid (HPA.out.kept (kept_beh hz.beh) (fun _ _ h => h.elim))); (have HQ := Lib.hid (HQ.out.kept (kept_beh hz.beh) (fun _ _ h => h.elim))); clear hz) | (apply load_g HYB.out Tryz.underlying28; rfl; rfl; rfl; rfl; kernel_rfl) | (apply Bh.load_bx 0 HZ.out Tryz.underlying28; rfl; rfl; rfl; rfl; rfl; kernel_rfl) | (go_at_call 12; refine Calls.mono (HPA.out.keep HQ.out (HLP.out.trans HLQ.out.symm) HYZ.out.1 (by rw [HLP.out]; exact HYZ.out.2.1)) ?_; rintro e w8 ⟨rfl, hb⟩; (have HB := Lib.hid (HB.out.on hb)); clear hb) | (go_at_call 13; refine Calls.mono ((HWK _).out) ?_; rintro e wk ⟨rfl, hb⟩; (have HB := Lib.hid (HB.out.on hb)); clear hb))
        go_ret
        exact ⟨rfl, HB.out.beh⟩
end Go.Proofs.YtaengjgmchpabaaGreat.Wr
end
section
/- WireMsgs, in the form that its card wants. -/
namespace Go.Proofs.YtaengjgmchpabaaGreat.Wr
open Go Go.RowKit Lg
theorem WireMsgs_told (x : Mr) (a : Option Addr) (len cap : Nat) (w : World) (hx : MsgD w 2 x) (hy : Pk.BytesIn w a len cap) :
    Calls Tryz.prog 3 #[x.val, .slice a len cap] w fun e w' => e = .returned (.bool true) ∧ Below w.heap.size w w' := by
  obtain ⟨L, h1, h2, h3⟩ := hx.open_
  obtain ⟨b, F, rfl, hs, h8⟩ := hy
  exact WireMsgs_law x L b a cap F w h1 h2 h3 hs h8
end Go.Proofs.YtaengjgmchpabaaGreat.Wr
end
