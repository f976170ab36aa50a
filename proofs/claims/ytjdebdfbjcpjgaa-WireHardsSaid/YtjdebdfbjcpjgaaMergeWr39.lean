import Derived.Test.YtjdebdfbjcpjgaaMergeWr38
import Derived.Test.YtjdebdfbjcpjgaaMergeWr35
section
/- The landed read of one hard. -/
namespace Go.Proofs.Ytjdebdfbjcpjgaa.Wr
open Go Go.RowKit Vl Kv Ss Cn Mem Lg Nm
attribute [local go_sem] Nm.run_bits Nm.run_frombits run_store_float
/-- what ReadHard answers -/
def RHrd (l : List Nat) (w : World) (e : Ending) (w' : World) : Prop :=
  Beh w w' ∧ match cHard.all l with
    | some h => ∃ p, e = .returned (.tuple #[h.val p, .int .i64 0]) ∧ OwnH w w' h p
    | none => e = .returned (.tuple #[H.zero.val Hp.none, .int .i64 3])
theorem OwnH.els {w0 w w' : World} {h : H} {p : Hp} {g : Nat} (x : OwnH w0 w h p) (he : Bh.Else g w w') (hg : g < w0.heap.size) : OwnH w0 w' h p :=
  ⟨ownB_else x.snap he (by have := x.snew; omega), x.snew, ownL_else x.log he (by have := x.lnew; omega), x.lnew⟩
theorem OwnH.from {w0 w w' : World} {h : H} {p : Hp} (x : OwnH w w' h p) (hw : w0.heap.size ≤ w.heap.size) : OwnH w0 w' h p := ⟨x.snap, Nat.le_trans hw x.snew, x.log, Nat.le_trans hw x.lnew⟩
set_option maxHeartbeats 6400000 in
set_option maxRecDepth 100000 in
theorem readHard_any {w : World} {b cap : Nat} {a : Option Addr} {l : List Nat} (hs : Mem.Src w b a cap l) (h8 : B8 l) (hl : l.length ≤ 100000) :
    Calls Try.prog 50 #[.slice a l.length cap, .func (Fn.func 51) #[] #[]] w (RHrd l w) := by
  have HB := Lib.hid (Bh.Bx.two w (.cells #[.int .i64 0, .int .i64 0, .int .i64 0, .int .i64 0, .int .i64 0, .int .i64 0, .int .i64 0, .int .i64 0, .slice none 0 0, .slice none 0 0] 48) (.cells #[.int .i64 0] 36))
  have hmf : ∀ (fn : Fn) (first cap : Array Value) (w : World), (Instr.makeFunc fn first cap).run Try.prog w = .ok (.func fn first cap) w := fun _ _ _ _ => rfl
  have HS := Lib.hid (hs.kept (kept_beh HB.out.beh) (fun _ h => h))
  clear hs
  by_cases h16 : l.length ≤ 16384
  · have d1 : decide ((l.length : Int) ≤ 16384) = true := decide_eq_true (by omega)
    go_enter_defers Try.func50, Try.ntmps50
    go_wp2_with (first | (go_at_call 66; refine (must_ok _).mono ?_; rintro e w' ⟨rfl, rfl⟩))
    refine (Pk.NewReader_any b a cap l _ HS.out (by omega) h8).mono ?_
    rintro e w1 ⟨br, bs, rfl, hr, hbr, hbs, hk⟩
    have HB := Lib.hid (HB.out.on (beh_kept hk))
    have HR := Lib.hid hr
    have hlo : w.heap.size + 1 < w1.heap.size := heap_lt HB.out.b1
    have hbr2 : w.heap.size + 1 < br := by
      rw [size_alloc, size_alloc] at hbr
      omega
    have HBS : Hid (bs ≠ w.heap.size) := by
      rw [size_alloc, size_alloc] at hbs
      exact (by omega : bs ≠ w.heap.size)
    clear hr hbs hk HS
    have HRS := Lib.hid (Rs.laid HR.out hl)
    have HB := Lib.hid (HB.out.alloc (.cells #[.pointer (some ⟨br, 0, none⟩)] 125))
    clear HR
    go_wp2_with fail
    have HC := Lib.hid (rhard_any HRS.out)
    cases hd : cHard.rd l with
    | none =>
      refine HC.out.mono ?_
      rintro e w2 hx
      obtain ⟨rfl, hk⟩ := hx.none hd
      have HB := Lib.hid (Bx.only HB.out hk hbr2)
      go_wp2_with fail
      exact doorHard HB.out.b0 rfl HB.out.b1 HB.out.beh (fun w' hb => ⟨hb, by rw [all_none (hd)]; rfl⟩) _ rfl rfl
    | some p =>
      obtain ⟨x, r⟩ := p
      refine HC.out.mono ?_
      rintro e w2 hx
      obtain ⟨⟨p, rfl, ho⟩, hs, hk⟩ := hx.some hd
      have HO := Lib.hid ho
      have hwz : w.heap.size + 1 < (w1.alloc (.cells #[.pointer (some ⟨br, 0, none⟩)] 125)).heap.size := by rw [size_alloc]; omega
      clear ho
      have HB := Lib.hid (Bx.only HB.out hk hbr2)
      have HD := Lib.hid (Pk.Done_any br bs r 0 w2 hs.rd)
      have HRS2 := Lib.hid hs
      clear hx hs hk HC HRS
      have HQ : Hid (∀ wz, Bh.Else w.heap.size w2 wz → Rs wz w1.heap.size br bs r) := fun wz he => HRS2.out.els he (by omega) (by omega) (fun hr => HBS.out)
      go_wp2_with (first | (apply store_g 10 HB.out.b0; rfl; rfl; rfl; rfl; rfl; kernel_rfl; rfl; rfl; intro wz hz he; have HRS3 := Lib.hid (HQ.out wz he); have HB := Lib.hid (HB.out.put0 hz he); have HO := Lib.hid (HO.out.els he (by omega)); clear hz he; have RB := Bh.cells1 HRS3.out.box))
      have HD := Lib.hid (Pk.Done_any br bs r 0 _ HRS3.out.rd)
      cases r with
      | cons y r =>
        rw [show Pk.doneOf (y :: r) 0 = 3 by unfold Pk.doneOf; simp] at HD
        go_wp2_with (first | (go_at_call 78; refine HD.out.mono ?_; rintro e w' ⟨rfl, rfl⟩) | (go_at_call 66; refine (must_not _).mono ?_; rintro e w' ⟨rfl, rfl⟩))
        exact doorHard HB.out.b0 rfl HB.out.b1 HB.out.beh (fun w' hb => ⟨hb, by rw [all_left (hd)]; rfl⟩) _ rfl rfl
      | nil =>
        rw [show Pk.doneOf [] 0 = 0 from rfl] at HD
        have HALL := Lib.hid (all_some (hd) h16)
        go_wp2_with (first | (go_at_call 78; refine HD.out.mono ?_; rintro e w' ⟨rfl, rfl⟩) | (go_at_call 66; refine (must_ok _).mono ?_; rintro e w' ⟨rfl, rfl⟩) | (apply load_g HB.out.b0 Try.underlying48; rfl; rfl; rfl; rfl; kernel_rfl) | (apply store_g 10 HB.out.b0; rfl; rfl; rfl; rfl; rfl; kernel_rfl; rfl; rfl; intro wz hz he; have HB := Lib.hid (HB.out.put0 hz he); have HO := Lib.hid (HO.out.els he (by omega)); clear hz he) | (apply store_g1 HB.out.b1; rfl; rfl; rfl; rfl; rfl; rfl; kernel_rfl; rfl; intro wz hz he; have HB := Lib.hid (HB.out.put1 hz he); have HO := Lib.hid (HO.out.els he (by omega)); clear hz he))
        refine leaves_cons (f := 90) (args := #[.pointer (some ⟨w.heap.size, 0, none⟩), .pointer (some ⟨w.heap.size + 1, 0, none⟩)]) (by simp) (by simp [go_sem]) ?_
        refine (catchHard_idle _ _ _).mono ?_
        rintro e u' w'' ⟨rfl, rfl, rfl⟩
        refine ⟨.tuple #[x.val p, .int .i64 0], results_rc rfl rfl rfl HB.out.b0 HB.out.b1 Try.underlying48 rfl (by kernel_rfl) (load_errno HB.out.b1), HB.out.beh, ?_⟩
        rw [HALL.out]
        exact ⟨p, rfl, HO.out.from (by omega)⟩
  · have d1 : decide ((l.length : Int) ≤ 16384) = false := decide_eq_false (by omega)
    have HL := Lib.hid h16
    clear h16
    go_enter_defers Try.func50, Try.ntmps50
    go_wp2_with (first | (go_at_call 66; refine (must_not _).mono ?_; rintro e w' ⟨rfl, rfl⟩))
    exact doorHard HB.out.b0 rfl HB.out.b1 HB.out.beh (fun w' hb => ⟨hb, by rw [all_long HL.out]; rfl⟩) _ rfl rfl
end Go.Proofs.Ytjdebdfbjcpjgaa.Wr
end
section
/- The landed ReadHard. -/
namespace Go.Proofs.Ytjdebdfbjcpjgaa.Wr
open Go Go.RowKit Vl Kv Ss Cn Mem Lg Nm
attribute [local go_sem] Nm.run_bits Nm.run_frombits run_store_float
set_option maxHeartbeats 3200000 in
set_option maxRecDepth 100000 in
theorem ReadHard_any {w : World} {b cap : Nat} {a : Option Addr} {l : List Nat} (hs : Mem.Src w b a cap l) (h8 : B8 l) (hl : l.length ≤ 100000) :
    Calls Try.prog 22 #[.slice a l.length cap] w (RHrd l w) := by
  have HB := Lib.hid (alloc_here (w := w) (.cells #[.int .i64 0, .int .i64 0, .int .i64 0, .int .i64 0, .int .i64 0, .int .i64 0, .int .i64 0, .int .i64 0, .slice none 0 0, .slice none 0 0] 48) rfl)
  have HC := Lib.hid (readHard_any (hs.kept (kept_beh (below_alloc w (.cells #[.int .i64 0, .int .i64 0, .int .i64 0, .int .i64 0, .int .i64 0, .int .i64 0, .int .i64 0, .int .i64 0, .slice none 0 0, .slice none 0 0] 48))) (fun _ h => h)) h8 hl)
  have hbb := below_alloc w (.cells #[.int .i64 0, .int .i64 0, .int .i64 0, .int .i64 0, .int .i64 0, .int .i64 0, .int .i64 0, .int .i64 0, .slice none 0 0, .slice none 0 0] 48)
  clear hs h8
  go_enter Try.func22, Try.ntmps22
  go_wp2_with fail
  refine HC.out.mono ?_
  rintro e w1 hx
  have HB := Lib.hid (box_on HB.out hx.1)
  have hsz : w.heap.size < (w.alloc (.cells #[.int .i64 0, .int .i64 0, .int .i64 0, .int .i64 0, .int .i64 0, .int .i64 0, .int .i64 0, .int .i64 0, .slice none 0 0, .slice none 0 0] 48)).heap.size := by rw [size_alloc]; omega
  obtain ⟨hb, hx⟩ := hx
  clear HC
  cases hd : cHard.all l with
  | none =>
    rw [hd] at hx
    obtain rfl := hx
    go_wp2_with (first | (apply store_g 10 HB.out; rfl; rfl; rfl; rfl; rfl; kernel_rfl; rfl; rfl; intro wz hz he; have HB := Lib.hid hz; have HBB := Lib.hid (else_beh (Kv.Beh.trans hbb hb) he (Nat.le_refl _)); clear hz he))
    (try simp only [Exit.inBlock, Exit.then])
    refine bodyPost_ret (v := .tuple #[H.zero.val Hp.none, .int .i64 3]) ((Bh.results_cell_row2 rfl _ _ _ _ _ _ _ rfl HB.out Try.underlying48 rfl (by kernel_rfl)).trans rfl) rfl ⟨HBB.out, ?_⟩
    rw [hd]
  | some x =>
    rw [hd] at hx
    obtain ⟨p, rfl, ho⟩ := hx
    have HO := Lib.hid ho
    clear ho
    go_wp2_with (first | (apply store_g 10 HB.out; rfl; rfl; rfl; rfl; rfl; kernel_rfl; rfl; rfl; intro wz hz he; have HB := Lib.hid hz; have HBB := Lib.hid (else_beh (Kv.Beh.trans hbb hb) he (Nat.le_refl _)); have HO := Lib.hid (HO.out.els he hsz); clear hz he))
    (try simp only [Exit.inBlock, Exit.then])
    refine bodyPost_ret (v := .tuple #[x.val p, .int .i64 0]) ((Bh.results_cell_row2 rfl _ _ _ _ _ _ _ rfl HB.out Try.underlying48 rfl (by kernel_rfl)).trans rfl) rfl ⟨HBB.out, ?_⟩
    rw [hd]
    exact ⟨p, rfl, HO.out.from (Nat.le_of_lt hsz)⟩
end Go.Proofs.Ytjdebdfbjcpjgaa.Wr
end
section
/- The landed read of one msg: what is caught. -/
namespace Go.Proofs.Ytjdebdfbjcpjgaa.Wr
open Go Go.RowKit Vl Kv Ss Cn Mem Lg Nm
attribute [local go_sem] Nm.run_bits Nm.run_frombits run_store_float
set_option maxRecDepth 100000 in
theorem catchMsg_idle (p0 p1 : Value) (w : World) :
    CallsD Try.prog 95 #[p0, p1] .returning w fun e u' w' => e = .returned (.tuple #[]) ∧ u' = .returning ∧ w' = w := by
  refine callsD_of_wpS Try.func95 rfl fun c₀ cs hu => ?_
  apply wpS_seq
  apply wpS_region
  simp [wpOpsS, go_sem, recoverD, hu, Try.ntmps95, Exit.thenS]
  show Code.wpS _ _ _ { tmps := #[p0, p1, .nilIface, undef, .nilIface, undef, undef, undef, undef, undef], defers := [] } _ _
  refine wpS_of_wp ?_
  go_wp2
  cases c₀
  simp_all [bodyPostS, results, Try.results95]
set_option maxHeartbeats 3200000 in
set_option maxRecDepth 100000 in
theorem catchMsg_thrown {w : World} {b c : Nat} {old : Array Value} {y : Value} {U : TypeId} (hb : w.heap[b]? = some (.cells old 61)) (hsz : old.size = 16) (hc : w.heap[c]? = some (.cells #[y] U)) (hne : b ≠ c) :
    CallsD Try.prog 95 #[.pointer (some ⟨b, 0, none⟩), .pointer (some ⟨c, 0, none⟩)] (.panicking thr) w fun e u' w' =>
      e = .returned (.tuple #[]) ∧ u' = .panicking [{ v := .iface 36 (.int .i64 3), recovered := true }] ∧
      w'.heap[b]? = some (.cells #[.int .i64 0, .int .i64 0, .int .i64 0, .int .i64 0, .int .i64 0, .int .i64 0, .int .i64 0, .int .i64 0, .bool false, .slice none 0 0, .int .i64 0, .int .i64 0, .int .i64 0, .int .i64 0, .slice none 0 0, .slice none 0 0] 61) ∧ w'.heap[c]? = some (.cells #[.int .i64 3] U) ∧ Kept (TwoK b c) w w' := by
  refine callsD_of_wpS Try.func95 rfl fun c₀ cs hu => ?_
  unfold thr at hu
  apply wpS_seq
  apply wpS_region
  simp [wpOpsS, go_sem, recoverD, hu, Try.ntmps95, Exit.thenS]
  show Code.wpS _ _ _ { tmps := #[.pointer (some ⟨b, 0, none⟩), .pointer (some ⟨c, 0, none⟩), .iface 36 (.int .i64 3), undef, .iface 36 (.int .i64 3), undef, undef, undef, undef, undef], defers := [] } _ _
  refine wpS_of_wp ?_
  have HB := Lib.hid hb
  have HC := Lib.hid hc
  have hbl := heap_lt hb
  have hcl := heap_lt hc
  have hne2 : c ≠ b := fun e => hne e.symm
  have hS0 : (w.alloc (.cells #[.int .i64 0, .int .i64 0, .int .i64 0, .int .i64 0, .int .i64 0, .int .i64 0, .int .i64 0, .int .i64 0, .bool false, .slice none 0 0, .int .i64 0, .int .i64 0, .int .i64 0, .int .i64 0, .slice none 0 0, .slice none 0 0] 61)).drew.heap[w.heap.size]? = some (.cells #[.int .i64 0, .int .i64 0, .int .i64 0, .int .i64 0, .int .i64 0, .int .i64 0, .int .i64 0, .int .i64 0, .bool false, .slice none 0 0, .int .i64 0, .int .i64 0, .int .i64 0, .int .i64 0, .slice none 0 0, .slice none 0 0] 61) := alloc_here _ rfl
  clear hb hc
  go_wp2_with fail
  refine wp_region_held_drew (S := fun W => W.heap[w.heap.size]? = some (.cells #[.int .i64 0, .int .i64 0, .int .i64 0, .int .i64 0, .int .i64 0, .int .i64 0, .int .i64 0, .int .i64 0, .bool false, .slice none 0 0, .int .i64 0, .int .i64 0, .int .i64 0, .int .i64 0, .slice none 0 0, .slice none 0 0] 61)) (by kernel_rfl) (hS0) (fun hS => ?_)
  have hdr : Beh (w.alloc (.cells #[.int .i64 0, .int .i64 0, .int .i64 0, .int .i64 0, .int .i64 0, .int .i64 0, .int .i64 0, .int .i64 0, .bool false, .slice none 0 0, .int .i64 0, .int .i64 0, .int .i64 0, .int .i64 0, .slice none 0 0, .slice none 0 0] 61)) (w.alloc (.cells #[.int .i64 0, .int .i64 0, .int .i64 0, .int .i64 0, .int .i64 0, .int .i64 0, .int .i64 0, .int .i64 0, .bool false, .slice none 0 0, .int .i64 0, .int .i64 0, .int .i64 0, .int .i64 0, .slice none 0 0, .slice none 0 0] 61)).drew := (Beh.start _).drew
  have hb2 := hdr.box (old_alloc (.cells #[.int .i64 0, .int .i64 0, .int .i64 0, .int .i64 0, .int .i64 0, .int .i64 0, .int .i64 0, .int .i64 0, .bool false, .slice none 0 0, .int .i64 0, .int .i64 0, .int .i64 0, .int .i64 0, .slice none 0 0, .slice none 0 0] 61) HB.out)
  have hc2 := hdr.box (old_alloc (.cells #[.int .i64 0, .int .i64 0, .int .i64 0, .int .i64 0, .int .i64 0, .int .i64 0, .int .i64 0, .int .i64 0, .bool false, .slice none 0 0, .int .i64 0, .int .i64 0, .int .i64 0, .int .i64 0, .slice none 0 0, .slice none 0 0] 61) HC.out)
  have hk0 : Kept (TwoK b c) w (w.alloc (.cells #[.int .i64 0, .int .i64 0, .int .i64 0, .int .i64 0, .int .i64 0, .int .i64 0, .int .i64 0, .int .i64 0, .bool false, .slice none 0 0, .int .i64 0, .int .i64 0, .int .i64 0, .int .i64 0, .slice none 0 0, .slice none 0 0] 61)).drew := ((Kept.refl (TwoK b c) w).alloc _).drewN 1
  generalize World.drew (w.alloc (.cells #[.int .i64 0, .int .i64 0, .int .i64 0, .int .i64 0, .int .i64 0, .int .i64 0, .int .i64 0, .int .i64 0, .bool false, .slice none 0 0, .int .i64 0, .int .i64 0, .int .i64 0, .int .i64 0, .slice none 0 0, .slice none 0 0] 61)) = wd at hS hb2 hc2 hk0 ⊢
  clear hdr
  (try simp only [Act.put, List.getElem_toArray, List.getElem_cons_succ, List.getElem_cons_zero, List.setIfInBounds_toArray, List.set_cons_zero, List.set_cons_succ])
  refine' wpAnyH_take (i := 0) (v := _) rfl (by kernel_rfl) (by kernel_rfl) (by kernel_rfl) (fun _ _ _ h => h) (Bh.yif_load_at (fun _ h => h) Try.underlying61 rfl rfl rfl rfl (by kernel_rfl)) hS ?_
  (try simp only [Act.put, List.getElem_toArray, List.getElem_cons_zero, List.setIfInBounds_toArray, List.set_cons_zero, List.set_cons_succ])
  refine wpAnyH_take (i := 1) (v := ?_) rfl (by kernel_rfl) (by kernel_rfl) (by kernel_rfl) (fun _ _ _ h => h) (Or.inl ⟨by rfl, ?_⟩) hS ?_
  rotate_left
  · intro W hW; go_simp; try with_reducible rfl
  (try simp only [Act.put, List.getElem_toArray, List.getElem_cons_succ, List.getElem_cons_zero, List.setIfInBounds_toArray, List.set_cons_zero, List.set_cons_succ])
  refine wpAnyH_take (i := 2) (v := ?_) rfl (by kernel_rfl) (by kernel_rfl) (by kernel_rfl) (fun _ _ _ h => h) (Or.inl ⟨by rfl, ?_⟩) hS ?_
  rotate_left
  · intro W hW; (have hra := fun w => run_assertE (.int .i64 3) w); go_simp; try with_reducible rfl
  (try simp only [Act.put, List.getElem_toArray, List.getElem_cons_succ, List.getElem_cons_zero, List.setIfInBounds_toArray, List.set_cons_zero, List.set_cons_succ])
  refine wpAnyH_ready (rs := [3]) (by kernel_rfl) (by simp) ?_
  refine AllReadyH.cons rfl (fun K hK => ?_) (AllReadyH.nil)
  all_goals (try simp only [List.getElem_toArray, List.getElem_cons_succ, List.getElem_cons_zero])
  (apply step_store_gw 16 hb2; rfl; rfl; rfl; rfl; exact hsz; kernel_rfl; rfl; rfl)
  intro w3 hzw3 hew3
  refine hK.out _ _ ((hew3.block _ (by omega)).trans hS) (fun hS => ?_)
  clear hK K
  (try simp only [Act.put])
  refine wpAnyH_ready (rs := [4]) (by kernel_rfl) (by simp) ?_
  refine AllReadyH.cons rfl (fun K hK => ?_) (AllReadyH.nil)
  all_goals (try simp only [List.getElem_toArray, List.getElem_cons_succ, List.getElem_cons_zero])
  (apply step_store_g1 ((hew3.block _ hne2).trans hc2); rfl; rfl; rfl; rfl; rfl; rfl; kernel_rfl; rfl)
  intro w4 hzw4 hew4
  refine hK.out _ _ ((hew4.block _ (by omega)).trans hS) (fun hS => ?_)
  clear hK K
  (try simp only [Act.put])
  refine wpAnyH_done (by kernel_rfl) ?_ _
  go_wp2_with fail
  refine ⟨rfl, .panicking [{ v := .iface 36 (.int .i64 3), recovered := true }], rfl, .tuple #[], results_none rfl _ _ _, rfl, rfl, ?_, ?_, ?_⟩
  · exact (hew4.block _ hne).trans hzw3
  · exact hzw4
  · exact (hk0.trans (kept_one hew3 TwoK.l)).trans (kept_one hew4 TwoK.r)
/-- what read answers where it is thrown -/
theorem doorMsg {w0 w : World} {old : Array Value} {y : Value} (hb : w.heap[w0.heap.size]? = some (.cells old 61)) (hsz : old.size = 16) (hc : w.heap[w0.heap.size + 1]? = some (.cells #[y] 36)) (hB : Beh w0 w) {R : Ending → World → Prop}
    (hR : ∀ w', Beh w0 w' → R (.returned (.tuple #[.agg #[.int .i64 0, .int .i64 0, .int .i64 0, .int .i64 0, .int .i64 0, .int .i64 0, .int .i64 0, .int .i64 0, .bool false, .slice none 0 0, .int .i64 0, .int .i64 0, .int .i64 0, .int .i64 0, .slice none 0 0, .slice none 0 0], .int .i64 3])) w') (tmps : Array Value)
    (t4 : tmps.getD 4 undef = .pointer (some ⟨w0.heap.size, 0, none⟩)) (t5 : tmps.getD 5 undef = .pointer (some ⟨w0.heap.size + 1, 0, none⟩)) :
    Leaves Try.prog Try.f60 tmps R [{ target := .fn (.func 95) #[.pointer (some ⟨w0.heap.size, 0, none⟩), .pointer (some ⟨w0.heap.size + 1, 0, none⟩)], args := #[] }] (.panicking thr) w := by
  refine leaves_cons (f := 95) (args := #[.pointer (some ⟨w0.heap.size, 0, none⟩), .pointer (some ⟨w0.heap.size + 1, 0, none⟩)]) (by simp) (by simp [go_sem]) ?_
  refine (catchMsg_thrown hb hsz hc (by omega)).mono ?_
  rintro e u' w'' ⟨rfl, rfl, hb2, hc2, hk⟩
  refine ⟨.tuple #[.agg #[.int .i64 0, .int .i64 0, .int .i64 0, .int .i64 0, .int .i64 0, .int .i64 0, .int .i64 0, .int .i64 0, .bool false, .slice none 0 0, .int .i64 0, .int .i64 0, .int .i64 0, .int .i64 0, .slice none 0 0, .slice none 0 0], .int .i64 3], results_rc rfl t4 t5 hb2 hc2 Try.underlying61 rfl (by kernel_rfl) (load_errno hc2), hR _ (hB.below.trans (hk.below hB.size (fun k hk => ?_)))⟩
  rcases hk with rfl | rfl <;> omega
end Go.Proofs.Ytjdebdfbjcpjgaa.Wr
end
section
/- The landed read of one msg. -/
namespace Go.Proofs.Ytjdebdfbjcpjgaa.Wr
open Go Go.RowKit Vl Kv Ss Cn Mem Lg Nm
attribute [local go_sem] Nm.run_bits Nm.run_frombits run_store_float
/-- what ReadMsg answers -/
def RMsg (l : List Nat) (w : World) (e : Ending) (w' : World) : Prop :=
  Beh w w' ∧ match cMsg.all l with
    | some m => ∃ (p : Mp) (LM : List Mr), e = .returned (.tuple #[Mr.val (m.head, p), .int .i64 0]) ∧ LM.map Prod.fst = m.inner ∧ OwnM (fun k => w.heap.size ≤ k) w' (m.head, p) LM
    | none => e = .returned (.tuple #[Mr.zero.val, .int .i64 3])
set_option maxHeartbeats 1600000 in
set_option maxRecDepth 100000 in
theorem readMsg1_any {w : World} {rb br bs : Nat} {l : List Nat} (h : Rs w rb br bs l) : Calls Try.prog 61 #[.pointer (some ⟨rb, 0, none⟩)] w (Mgot 16 rb br bs l w) := by
  have HF := Lib.hid (Fr1.start h Mr.zero.obj)
  clear h
  have HC := Lib.hid (rmsg16_any HF.out.rs)
  go_enter Try.func61, Try.ntmps61
  go_wp2_with fail
  refine HC.out.mono ?_
  rintro e w1 hx
  cases hd : (cHead.seq (cLi cInner 16)).rd l with
  | none =>
    obtain ⟨rfl, hk⟩ := hx.none hd
    go_wp2_with fail
    exact ⟨rfl, Mgot.no hd (HF.out.kept.trans hk)⟩
  | some q =>
    obtain ⟨⟨f, L⟩, r⟩ := q
    have hle := rd_le (cHead.seq (cLi cInner 16)) HF.out.rs.b8 hd
    obtain ⟨⟨p, LM, rfl, hm, ho⟩, hs, hk⟩ := hx.some hd
    have HF := Lib.hid (HF.out.call hs hk hle)
    have HO := Lib.hid ho
    have hwz : w.heap.size < (w.alloc Mr.zero.obj).heap.size := by rw [size_alloc]; omega
    clear hs hk ho hx HC
    go_wp2_with (first | (apply store_g 16 HF.out.box; rfl; rfl; rfl; rfl; rfl; kernel_rfl; rfl; rfl; intro wz hz he; have HF := Lib.hid (HF.out.set hz he); have HO := Lib.hid (HO.out.kept (else_kept he) (fun k e e2 => by have e2 : k = w.heap.size := e2; omega)); clear hz he))
    (try simp only [Exit.inBlock, Exit.then])
    refine bodyPost_ret (v := Mr.val (f, p)) (Bh.results_cell_row1 rfl _ _ _ _ _ _ _ rfl HF.out.box Try.underlying61 rfl (by kernel_rfl)) rfl ?_
    refine ⟨HF.out.kept, ?_⟩
    rw [hd]
    exact ⟨⟨p, LM, rfl, hm, HO.out.mono fun k e => Nat.le_trans (Nat.le_of_lt hwz) e⟩, HF.out.rs⟩
set_option maxHeartbeats 6400000 in
set_option maxRecDepth 100000 in
theorem readMsg_any {w : World} {b cap : Nat} {a : Option Addr} {l : List Nat} (hs : Mem.Src w b a cap l) (h8 : B8 l) (hl : l.length ≤ 100000) :
    Calls Try.prog 60 #[.slice a l.length cap, .func (Fn.func 61) #[] #[]] w (RMsg l w) := by
  have HB := Lib.hid (Bh.Bx.two w (.cells #[.int .i64 0, .int .i64 0, .int .i64 0, .int .i64 0, .int .i64 0, .int .i64 0, .int .i64 0, .int .i64 0, .bool false, .slice none 0 0, .int .i64 0, .int .i64 0, .int .i64 0, .int .i64 0, .slice none 0 0, .slice none 0 0] 61) (.cells #[.int .i64 0] 36))
  have hmf : ∀ (fn : Fn) (first cap : Array Value) (w : World), (Instr.makeFunc fn first cap).run Try.prog w = .ok (.func fn first cap) w := fun _ _ _ _ => rfl
  have HS := Lib.hid (hs.kept (kept_beh HB.out.beh) (fun _ h => h))
  clear hs
  by_cases h16 : l.length ≤ 16384
  · have d1 : decide ((l.length : Int) ≤ 16384) = true := decide_eq_true (by omega)
    go_enter_defers Try.func60, Try.ntmps60
    go_wp2_with (first | (go_at_call 66; refine (must_ok _).mono ?_; rintro e w' ⟨rfl, rfl⟩))
    refine (Pk.NewReader_any b a cap l _ HS.out (by omega) h8).mono ?_
    rintro e w1 ⟨br, bs, rfl, hr, hbr, hbs, hk⟩
    have HB := Lib.hid (HB.out.on (beh_kept hk))
    have HR := Lib.hid hr
    have hlo : w.heap.size + 1 < w1.heap.size := heap_lt HB.out.b1
    have hbr2 : w.heap.size + 1 < br := by
      rw [size_alloc, size_alloc] at hbr
      omega
    have HBS : Hid (bs ≠ w.heap.size) := by
      rw [size_alloc, size_alloc] at hbs
      exact (by omega : bs ≠ w.heap.size)
    clear hr hbs hk HS
    have HRS := Lib.hid (Rs.laid HR.out hl)
    have HB := Lib.hid (HB.out.alloc (.cells #[.pointer (some ⟨br, 0, none⟩)] 125))
    clear HR
    go_wp2_with fail
    have HC := Lib.hid (readMsg1_any HRS.out)
    cases hd : (cHead.seq (cLi cInner 16)).rd l with
    | none =>
      refine HC.out.mono ?_
      rintro e w2 hx
      obtain ⟨rfl, hk⟩ := hx.none hd
      have HB := Lib.hid (Bx.only HB.out hk hbr2)
      go_wp2_with fail
      exact doorMsg HB.out.b0 rfl HB.out.b1 HB.out.beh (fun w' hb => ⟨hb, by rw [all_none ((show cMsg.rd l = none from as_no hd))]; rfl⟩) _ rfl rfl
    | some p =>
      obtain ⟨⟨f, L⟩, r⟩ := p
      refine HC.out.mono ?_
      rintro e w2 hx
      obtain ⟨⟨p, LM, rfl, hm, ho⟩, hs, hk⟩ := hx.some hd
      have HO := Lib.hid ho
      have hwz : w.heap.size + 1 < (w1.alloc (.cells #[.pointer (some ⟨br, 0, none⟩)] 125)).heap.size := by rw [size_alloc]; omega
      clear ho
      have HB := Lib.hid (Bx.only HB.out hk hbr2)
      have HD := Lib.hid (Pk.Done_any br bs r 0 w2 hs.rd)
      have HRS2 := Lib.hid hs
      clear hx hs hk HC HRS
      have HQ : Hid (∀ wz, Bh.Else w.heap.size w2 wz → Rs wz w1.heap.size br bs r) := fun wz he => HRS2.out.els he (by omega) (by omega) (fun hr => HBS.out)
      go_wp2_with (first | (apply store_g 16 HB.out.b0; rfl; rfl; rfl; rfl; rfl; kernel_rfl; rfl; rfl; intro wz hz he; have HRS3 := Lib.hid (HQ.out wz he); have HB := Lib.hid (HB.out.put0 hz he); have HO := Lib.hid (HO.out.kept (else_kept he) (fun k e e2 => by have e2 : k = _ := e2; omega)); clear hz he; have RB := Bh.cells1 HRS3.out.box))
      have HD := Lib.hid (Pk.Done_any br bs r 0 _ HRS3.out.rd)
      cases r with
      | cons y r =>
        rw [show Pk.doneOf (y :: r) 0 = 3 by unfold Pk.doneOf; simp] at HD
        go_wp2_with (first | (go_at_call 78; refine HD.out.mono ?_; rintro e w' ⟨rfl, rfl⟩) | (go_at_call 66; refine (must_not _).mono ?_; rintro e w' ⟨rfl, rfl⟩))
        exact doorMsg HB.out.b0 rfl HB.out.b1 HB.out.beh (fun w' hb => ⟨hb, by rw [all_left ((show cMsg.rd l = some (⟨f, L⟩, _) from as_yes hd))]; rfl⟩) _ rfl rfl
      | nil =>
        rw [show Pk.doneOf [] 0 = 0 from rfl] at HD
        have HALL := Lib.hid (all_some ((show cMsg.rd l = some (⟨f, L⟩, _) from as_yes hd)) h16)
        go_wp2_with (first | (go_at_call 78; refine HD.out.mono ?_; rintro e w' ⟨rfl, rfl⟩) | (go_at_call 66; refine (must_ok _).mono ?_; rintro e w' ⟨rfl, rfl⟩) | (apply load_g HB.out.b0 Try.underlying61; rfl; rfl; rfl; rfl; kernel_rfl) | (apply store_g 16 HB.out.b0; rfl; rfl; rfl; rfl; rfl; kernel_rfl; rfl; rfl; intro wz hz he; have HB := Lib.hid (HB.out.put0 hz he); have HO := Lib.hid (HO.out.kept (else_kept he) (fun k e e2 => by have e2 : k = _ := e2; omega)); clear hz he) | (apply store_g1 HB.out.b1; rfl; rfl; rfl; rfl; rfl; rfl; kernel_rfl; rfl; intro wz hz he; have HB := Lib.hid (HB.out.put1 hz he); have HO := Lib.hid (HO.out.kept (else_kept he) (fun k e e2 => by have e2 : k = _ := e2; omega)); clear hz he))
        refine leaves_cons (f := 95) (args := #[.pointer (some ⟨w.heap.size, 0, none⟩), .pointer (some ⟨w.heap.size + 1, 0, none⟩)]) (by simp) (by simp [go_sem]) ?_
        refine (catchMsg_idle _ _ _).mono ?_
        rintro e u' w'' ⟨rfl, rfl, rfl⟩
        refine ⟨.tuple #[Mr.val (f, p), .int .i64 0], results_rc rfl rfl rfl HB.out.b0 HB.out.b1 Try.underlying61 rfl (by kernel_rfl) (load_errno HB.out.b1), HB.out.beh, ?_⟩
        rw [HALL.out]
        exact ⟨p, LM, rfl, hm, HO.out.mono fun k e => by omega⟩
  · have d1 : decide ((l.length : Int) ≤ 16384) = false := decide_eq_false (by omega)
    have HL := Lib.hid h16
    clear h16
    go_enter_defers Try.func60, Try.ntmps60
    go_wp2_with (first | (go_at_call 66; refine (must_not _).mono ?_; rintro e w' ⟨rfl, rfl⟩))
    exact doorMsg HB.out.b0 rfl HB.out.b1 HB.out.beh (fun w' hb => ⟨hb, by rw [all_long HL.out]; rfl⟩) _ rfl rfl
end Go.Proofs.Ytjdebdfbjcpjgaa.Wr
end
section
/- The landed ReadMsg. -/
namespace Go.Proofs.Ytjdebdfbjcpjgaa.Wr
open Go Go.RowKit Vl Kv Ss Cn Mem Lg Nm
attribute [local go_sem] Nm.run_bits Nm.run_frombits run_store_float
set_option maxHeartbeats 3200000 in
set_option maxRecDepth 100000 in
theorem ReadMsg_any {w : World} {b cap : Nat} {a : Option Addr} {l : List Nat} (hs : Mem.Src w b a cap l) (h8 : B8 l) (hl : l.length ≤ 100000) :
    Calls Try.prog 28 #[.slice a l.length cap] w (RMsg l w) := by
  have HB := Lib.hid (alloc_here (w := w) (.cells #[.int .i64 0, .int .i64 0, .int .i64 0, .int .i64 0, .int .i64 0, .int .i64 0, .int .i64 0, .int .i64 0, .bool false, .slice none 0 0, .int .i64 0, .int .i64 0, .int .i64 0, .int .i64 0, .slice none 0 0, .slice none 0 0] 61) rfl)
  have HC := Lib.hid (readMsg_any (hs.kept (kept_beh (below_alloc w (.cells #[.int .i64 0, .int .i64 0, .int .i64 0, .int .i64 0, .int .i64 0, .int .i64 0, .int .i64 0, .int .i64 0, .bool false, .slice none 0 0, .int .i64 0, .int .i64 0, .int .i64 0, .int .i64 0, .slice none 0 0, .slice none 0 0] 61))) (fun _ h => h)) h8 hl)
  have hbb := below_alloc w (.cells #[.int .i64 0, .int .i64 0, .int .i64 0, .int .i64 0, .int .i64 0, .int .i64 0, .int .i64 0, .int .i64 0, .bool false, .slice none 0 0, .int .i64 0, .int .i64 0, .int .i64 0, .int .i64 0, .slice none 0 0, .slice none 0 0] 61)
  clear hs h8
  go_enter Try.func28, Try.ntmps28
  go_wp2_with fail
  refine HC.out.mono ?_
  rintro e w1 hx
  have HB := Lib.hid (box_on HB.out hx.1)
  have hsz : w.heap.size < (w.alloc (.cells #[.int .i64 0, .int .i64 0, .int .i64 0, .int .i64 0, .int .i64 0, .int .i64 0, .int .i64 0, .int .i64 0, .bool false, .slice none 0 0, .int .i64 0, .int .i64 0, .int .i64 0, .int .i64 0, .slice none 0 0, .slice none 0 0] 61)).heap.size := by rw [size_alloc]; omega
  obtain ⟨hb, hx⟩ := hx
  clear HC
  cases hd : cMsg.all l with
  | none =>
    rw [hd] at hx
    obtain rfl := hx
    go_wp2_with (first | (apply store_g 16 HB.out; rfl; rfl; rfl; rfl; rfl; kernel_rfl; rfl; rfl; intro wz hz he; have HB := Lib.hid hz; have HBB := Lib.hid (else_beh (Kv.Beh.trans hbb hb) he (Nat.le_refl _)); clear hz he))
    (try simp only [Exit.inBlock, Exit.then])
    refine bodyPost_ret (v := .tuple #[Mr.zero.val, .int .i64 3]) ((Bh.results_cell_row2 rfl _ _ _ _ _ _ _ rfl HB.out Try.underlying61 rfl (by kernel_rfl)).trans rfl) rfl ⟨HBB.out, ?_⟩
    rw [hd]
  | some x =>
    rw [hd] at hx
    obtain ⟨p, LM, rfl, hm, ho⟩ := hx
    have HO := Lib.hid ho
    clear ho
    go_wp2_with (first | (apply store_g 16 HB.out; rfl; rfl; rfl; rfl; rfl; kernel_rfl; rfl; rfl; intro wz hz he; have HB := Lib.hid hz; have HBB := Lib.hid (else_beh (Kv.Beh.trans hbb hb) he (Nat.le_refl _)); have HO := Lib.hid (HO.out.kept (else_kept he) (fun k e e2 => by have e2 : k = w.heap.size := e2; omega)); clear hz he))
    (try simp only [Exit.inBlock, Exit.then])
    refine bodyPost_ret (v := .tuple #[Mr.val (x.head, p), .int .i64 0]) ((Bh.results_cell_row2 rfl _ _ _ _ _ _ _ rfl HB.out Try.underlying61 rfl (by kernel_rfl)).trans rfl) rfl ⟨HBB.out, ?_⟩
    rw [hd]
    exact ⟨p, LM, rfl, hm, HO.out.mono fun k e => Nat.le_trans (Nat.le_of_lt hsz) e⟩
end Go.Proofs.Ytjdebdfbjcpjgaa.Wr
end
