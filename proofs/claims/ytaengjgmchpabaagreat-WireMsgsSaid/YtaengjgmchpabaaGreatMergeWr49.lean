import Derived.Test.YtaengjgmchpabaaGreatWireR10
import Derived.Test.YtaengjgmchpabaaGreatWireSg
import Derived.Test.YtaengjgmchpabaaGreatMergeWr25
import Derived.Test.YtaengjgmchpabaaGreatMergeWr36
section
/- The landed reader of package wire: a message that has no inner ones, one that may have 16. -/
namespace Go.Proofs.YtaengjgmchpabaaGreat.Wr
open Go Go.RowKit Vl Kv Ss Cn Mem Lg Nm
variable {w w' : World} {rb br bs : Nat} {l : List Nat}
theorem none_no {r : List Nat} (h : rdUp 0 r = none) : cNone.rd r = none := by
  rcases up_no h with ⟨n, q, hd, hn⟩ | hd
  · exact emb_no (A := cInt.sel (fun n => if n = 0 then Cod.one () else Cod.non)) (sel_no2 hd (by rw [if_neg (by omega)]; rfl))
  · exact emb_no (A := cInt.sel (fun n => if n = 0 then Cod.one () else Cod.non)) (sel_no1 hd)
theorem none_yes {r q : List Nat} {n : Int} (h : rdUp 0 r = some (n, q)) : cNone.rd r = some ((), q) := by
  obtain ⟨hd, h0, h1⟩ := rdUp_int h
  obtain rfl : n = 0 := by omega
  exact emb_yes (A := cInt.sel (fun n => if n = 0 then Cod.one () else Cod.non)) (sel_yes hd (by rw [if_pos rfl]; rfl))
theorem rmsg0_any (h : Rs w rb br bs l) : Calls Tryz.prog 25 #[.pointer (some ⟨rb, 0, none⟩), .int .i64 0] w (Igot rb br bs l w) := by
  refine (rmessage_any h (most := 0) (fun h => absurd h (by decide)) (by decide)).mono fun e w' hx => ?_
  cases hh : cHead.rd l with
  | none =>
    obtain ⟨he, hk⟩ := hx.none (seq_no1 hh)
    refine ⟨hk, ?_⟩
    rw [show cInner.rd l = none from as_no (seq_no1 hh)]
    exact he
  | some p =>
    obtain ⟨f, r⟩ := p
    cases hu : rdUp 0 r with
    | none =>
      obtain ⟨he, hk⟩ := hx.none (seq_no2 hh (cLi_no1 hu))
      refine ⟨hk, ?_⟩
      rw [show cInner.rd l = none from as_no (seq_no2 hh (none_no hu))]
      exact he
    | some p2 =>
      obtain ⟨n, q⟩ := p2
      have hn := rdUp_int hu
      obtain rfl : n = 0 := by omega
      have hy : (cHead.seq (cLi cInner 0)).rd l = some ((f, []), q) := seq_yes hh (cLi_yes hu (rep_zero q))
      obtain ⟨⟨p, LM, he, hm, ho⟩, hs, hk⟩ := hx.some hy
      refine ⟨hk, ?_⟩
      rw [show cInner.rd l = some (f, q) from as_yes (seq_yes hh (none_yes hu))]
      exact ⟨⟨p, he, by rw [← ho.len]; have : LM = [] := List.map_eq_nil_iff.1 hm; rw [this]; rfl, ho.self⟩, hs⟩
theorem rmsg16_any (h : Rs w rb br bs l) : Calls Tryz.prog 25 #[.pointer (some ⟨rb, 0, none⟩), .int .i64 16] w (Mgot 16 rb br bs l w) :=
  rmessage_any h (fun _ _ _ hs => rmsg0_any hs) (by decide)
end Go.Proofs.YtaengjgmchpabaaGreat.Wr
end
section
/- For the landed read: stores in a region that draws, two results, what is caught. -/
namespace Go.Proofs.YtaengjgmchpabaaGreat.Wr
open Go Go.RowKit Vl Kv Ss Cn Mem Lg Nm
/-- a whole struct stored into block g, in a region that draws -/
theorem step_store_gw {P : Program} {y0 : Nat → Option Bool} {o : Oper} {a : Go.Act} {w : World} {K : Go.Act → World → Prop} {Q : Exit → Go.Act → World → Prop} {E : Prop} (n : Nat) {g : Nat} {t : TypeId} {old : Array Value} (hg : w.heap[g]? = some (.cells old t))
    {ty : TypeId} {x y : Operand} {cells : Array Value} (hgd : o.guard = none) (ho : o.op = .store ty x y)
    (hx : a.eval x = .pointer (some ⟨g, 0, none⟩)) (hy : a.eval y = .agg cells) (hn : old.size = n) (hi : (P.info? ty).map (·.size) = some n) (hc : cells.size = n) (h1 : cells.toList.all (·.oneCell') = true)
    (h : ∀ w', w'.heap[g]? = some (.cells cells t) → Bh.Else g w w' → K (a.put o.dst undef) w') : if Region.wanted o y0 = true then Oper.wp P o a w K Q else E := by
  rw [if_pos (Bh.want_all hgd)]
  exact wp_store_row ty x y ho _ cells hx hy t old hg (hi.trans (by rw [hc])) (by rw [hn, hc]) (by rw [← h1, Array.all_toList]) (h _ (setRow_heap _ _ _ _ _ _ hg) (Bh.Else.row _ _ _))
theorem kept_one {g : Nat} {S : Nat → Prop} {w w' : World} (x : Bh.Else g w w') (h : S g) : Kept S w w' := (else_kept x).mono (fun _ e => by cases e; exact h)
/-- two results, a struct and a number -/
theorem results_rc {P : Program} {fn : Func} {p q : Tmp} {ty tz : TypeId} (h : fn.results = #[.cell p ty, .cell q tz]) {tmps : Array Value} {w : World} {g g2 : Nat} {t u : TypeId} {cs : Array Value} {y : Value} {d : TypeDesc}
    (hp : tmps.getD p undef = .pointer (some ⟨g, 0, none⟩)) (hq : tmps.getD q undef = .pointer (some ⟨g2, 0, none⟩)) (hg : w.heap[g]? = some (.cells cs t)) (_hc : w.heap[g2]? = some (.cells #[y] u))
    (hu : P.underlying ty = some d) (hd : (match d with | .struct _ | .array _ _ => true | _ => false) = true) (hi : (P.info? ty).map (·.size) = some cs.size) (hld : (loadVar tz ⟨g2, 0, none⟩).run P w = .ok y w) :
    (results fn tmps).run P w = .ok (.tuple #[.agg cs, y]) w := by
  rw [results_cells2 h, hp, hq]
  simp only [asAddr, Sem.run_pure, Result.andThen_ok, run_loadVar_row w g t ty cs (0, 0) d hg hu hd hi, hld]
theorem load_errno {w : World} {g : Nat} {y : Int} {u : TypeId} (h : w.heap[g]? = some (.cells #[.int .i64 y] u)) : (loadVar 30 ⟨g, 0, none⟩).run Tryz.prog w = .ok (.int .i64 y) w := by
  have c0 := Bh.cells1 h
  go_simp
theorem all_long {α : Type} {A : Cod α} {l : List Nat} (h : ¬ l.length ≤ 16384) : A.all l = none := by
  unfold Cod.all
  split
  · rw [if_neg h]
  · rfl
theorem all_none {α : Type} {A : Cod α} {l : List Nat} (h : A.rd l = none) : A.all l = none := by unfold Cod.all; rw [h]
theorem all_left {α : Type} {A : Cod α} {l r : List Nat} {x : α} {y : Nat} (h : A.rd l = some (x, y :: r)) : A.all l = none := by unfold Cod.all; rw [h]
theorem all_some {α : Type} {A : Cod α} {l : List Nat} {x : α} (h : A.rd l = some (x, [])) (hl : l.length ≤ 16384) : A.all l = some x := by unfold Cod.all; rw [h]; simp only; rw [if_pos hl]
/-- two blocks of a call's own, and one reader's that may have changed -/
structure Bo (w : World) (o p : Obj) (W : World) : Prop where
  b0 : W.heap[w.heap.size]? = some o
  b1 : W.heap[w.heap.size + 1]? = some p
  beh : Beh w W
theorem Bx.only {w W W' : World} {o p : Obj} {br : Nat} (h : Bh.Bx w [o, p] W) (hk : Kept (Only br) W W') (hb : w.heap.size + 1 < br) : Bo w o p W' :=
  ⟨keptO hk h.b0 (by omega), keptO hk h.b1 (by omega), h.beh.below.trans (hk.below h.beh.size (fun k e => by have e : k = br := e; omega))⟩
theorem Bo.put0 {w W W' : World} {o p q : Obj} (h : Bo w o p W) (hz : W'.heap[w.heap.size]? = some q) (he : Bh.Else w.heap.size W W') : Bo w q p W' :=
  ⟨hz, (he.block _ (by omega)).trans h.b1, else_beh h.beh he (Nat.le_refl _)⟩
theorem Bo.put1 {w W W' : World} {o p q : Obj} (h : Bo w o p W) (hz : W'.heap[w.heap.size + 1]? = some q) (he : Bh.Else (w.heap.size + 1) W W') : Bo w o q W' :=
  ⟨(he.block _ (by omega)).trans h.b0, hz, else_beh h.beh he (Nat.le_succ _)⟩
/-- a reader that was just laid -/
theorem Rs.laid {w1 : World} {br bs : Nat} {l : List Nat} (hr : Pk.RAt w1 br bs l 0) (hl : l.length ≤ 100000) : Rs (w1.alloc (.cells #[.pointer (some ⟨br, 0, none⟩)] 91)) w1.heap.size br bs l := by
  have h1 : br < w1.heap.size := RAt.lt1 hr
  exact ⟨alloc_here _ rfl, RAt.allo hr _, by omega, hl, fun hl => by have := RAt.lt2 hr hl; omega⟩
end Go.Proofs.YtaengjgmchpabaaGreat.Wr
end
section
/- The landed read of one msg: what is caught. -/
namespace Go.Proofs.YtaengjgmchpabaaGreat.Wr
open Go Go.RowKit Vl Kv Ss Cn Mem Lg Nm
attribute [local go_sem] Nm.run_bits Nm.run_frombits run_store_float
set_option maxRecDepth 100000 in
theorem catchMsg_idle (p0 p1 : Value) (w : World) :
    CallsD Tryz.prog 47 #[p0, p1] .returning w fun e u' w' => e = .returned (.tuple #[]) ∧ u' = .returning ∧ w' = w := by
  refine callsD_of_wpS Tryz.func47 rfl fun c₀ cs hu => ?_
  apply wpS_seq
  apply wpS_region
  simp [wpOpsS, go_sem, recoverD, hu, Tryz.ntmps47, Exit.thenS]
  show Code.wpS _ _ _ { tmps := #[p0, p1, .nilIface, undef, .nilIface, undef, undef, undef, undef, undef], defers := [] } _ _
  refine wpS_of_wp ?_
  go_wp2
  cases c₀
  simp_all [bodyPostS, results, Tryz.results47]
set_option maxHeartbeats 3200000 in
set_option maxRecDepth 100000 in
theorem catchMsg_thrown {w : World} {b c : Nat} {old : Array Value} {y : Value} {U : TypeId} (hb : w.heap[b]? = some (.cells old 28)) (hsz : old.size = 16) (hc : w.heap[c]? = some (.cells #[y] U)) (hne : b ≠ c) :
    CallsD Tryz.prog 47 #[.pointer (some ⟨b, 0, none⟩), .pointer (some ⟨c, 0, none⟩)] (.panicking thr) w fun e u' w' =>
      e = .returned (.tuple #[]) ∧ u' = .panicking [{ v := .iface 30 (.int .i64 3), recovered := true }] ∧
      w'.heap[b]? = some (.cells #[.int .i64 0, .int .i64 0, .int .i64 0, .int .i64 0, .int .i64 0, .int .i64 0, .int .i64 0, .int .i64 0, .bool false, .slice none 0 0, .int .i64 0, .int .i64 0, .int .i64 0, .int .i64 0, .slice none 0 0, .slice none 0 0] 28) ∧ w'.heap[c]? = some (.cells #[.int .i64 3] U) ∧ Kept (TwoK b c) w w' := by
  refine callsD_of_wpS Tryz.func47 rfl fun c₀ cs hu => ?_
  unfold thr at hu
  apply wpS_seq
  apply wpS_region
  simp [wpOpsS, go_sem, recoverD, hu, Tryz.ntmps47, Exit.thenS]
  show Code.wpS _ _ _ { tmps := #[.pointer (some ⟨b, 0, none⟩), .pointer (some ⟨c, 0, none⟩), .iface 30 (.int .i64 3), undef, .iface 30 (.int .i64 3), undef, undef, undef, undef, undef], defers := [] } _ _
  refine wpS_of_wp ?_
  have HB := Lib.hid hb
  have HC := Lib.hid hc
  have hbl := heap_lt hb
  have hcl := heap_lt hc
  have hne2 : c ≠ b := fun e => hne e.symm
  have hS0 : (w.alloc (.cells #[.int .i64 0, .int .i64 0, .int .i64 0, .int .i64 0, .int .i64 0, .int .i64 0, .int .i64 0, .int .i64 0, .bool false, .slice none 0 0, .int .i64 0, .int .i64 0, .int .i64 0, .int .i64 0, .slice none 0 0, .slice none 0 0] 28)).drew.heap[w.heap.size]? = some (.cells #[.int .i64 0, .int .i64 0, .int .i64 0, .int .i64 0, .int .i64 0, .int .i64 0, .int .i64 0, .int .i64 0, .bool false, .slice none 0 0, .int .i64 0, .int .i64 0, .int .i64 0, .int .i64 0, .slice none 0 0, .slice none 0 0] 28) := alloc_here _ rfl
  clear hb hc
  go_wp2_with fail
  refine wp_region_held_drew (S := fun W => W.heap[w.heap.size]? = some (.cells #[.int .i64 0, .int .i64 0, .int .i64 0, .int .i64 0, .int .i64 0, .int .i64 0, .int .i64 0, .int .i64 0, .bool false, .slice none 0 0, .int .i64 0, .int .i64 0, .int .i64 0, .int .i64 0, .slice none 0 0, .slice none 0 0] 28)) (by kernel_rfl) (hS0) (fun hS => ?_)
  have hdr : Beh (w.alloc (.cells #[.int .i64 0, .int .i64 0, .int .i64 0, .int .i64 0, .int .i64 0, .int .i64 0, .int .i64 0, .int .i64 0, .bool false, .slice none 0 0, .int .i64 0, .int .i64 0, .int .i64 0, .int .i64 0, .slice none 0 0, .slice none 0 0] 28)) (w.alloc (.cells #[.int .i64 0, .int .i64 0, .int .i64 0, .int .i64 0, .int .i64 0, .int .i64 0, .int .i64 0, .int .i64 0, .bool false, .slice none 0 0, .int .i64 0, .int .i64 0, .int .i64 0, .int .i64 0, .slice none 0 0, .slice none 0 0] 28)).drew := (Beh.start _).drew
  have hb2 := hdr.box (old_alloc (.cells #[.int .i64 0, .int .i64 0, .int .i64 0, .int .i64 0, .int .i64 0, .int .i64 0, .int .i64 0, .int .i64 0, .bool false, .slice none 0 0, .int .i64 0, .int .i64 0, .int .i64 0, .int .i64 0, .slice none 0 0, .slice none 0 0] 28) HB.out)
  have hc2 := hdr.box (old_alloc (.cells #[.int .i64 0, .int .i64 0, .int .i64 0, .int .i64 0, .int .i64 0, .int .i64 0, .int .i64 0, .int .i64 0, .bool false, .slice none 0 0, .int .i64 0, .int .i64 0, .int .i64 0, .int .i64 0, .slice none 0 0, .slice none 0 0] 28) HC.out)
  have hk0 : Kept (TwoK b c) w (w.alloc (.cells #[.int .i64 0, .int .i64 0, .int .i64 0, .int .i64 0, .int .i64 0, .int .i64 0, .int .i64 0, .int .i64 0, .bool false, .slice none 0 0, .int .i64 0, .int .i64 0, .int .i64 0, .int .i64 0, .slice none 0 0, .slice none 0 0] 28)).drew := ((Kept.refl (TwoK b c) w).alloc _).drewN 1
  generalize World.drew (w.alloc (.cells #[.int .i64 0, .int .i64 0, .int .i64 0, .int .i64 0, .int .i64 0, .int .i64 0, .int .i64 0, .int .i64 0, .bool false, .slice none 0 0, .int .i64 0, .int .i64 0, .int .i64 0, .int .i64 0, .slice none 0 0, .slice none 0 0] 28)) = wd at hS hb2 hc2 hk0 ⊢
  clear hdr
  (try simp only [Act.put, List.getElem_toArray, List.getElem_cons_succ, List.getElem_cons_zero, List.setIfInBounds_toArray, List.set_cons_zero, List.set_cons_succ])
  refine' wpAnyH_take (i := 0) (v := _) rfl (by kernel_rfl) (by kernel_rfl) (by kernel_rfl) (fun _ _ _ h => h) (Bh.yif_load_at (fun _ h => h) Tryz.underlying28 rfl rfl rfl rfl (by kernel_rfl)) hS ?_
  (try simp only [Act.put, List.getElem_toArray, List.getElem_cons_zero, List.setIfInBounds_toArray, List.set_cons_zero, List.set_cons_succ])
  refine wpAnyH_take (i := 1) (v := ?_) rfl (by kernel_rfl) (by kernel_rfl) (by kernel_rfl) (fun _ _ _ h => h) (Or.inl ⟨by rfl, ?_⟩) hS ?_
  rotate_left
  · intro W hW; go_simp; try with_reducible rfl
  (try simp only [Act.put, List.getElem_toArray, List.getElem_cons_succ, List.getElem_cons_zero, List.setIfInBounds_toArray, List.set_cons_zero, List.set_cons_succ])
  refine wpAnyH_take (i := 2) (v := ?_) rfl (by kernel_rfl) (by kernel_rfl) (by kernel_rfl) (fun _ _ _ h => h) (Or.inl ⟨by rfl, ?_⟩) hS ?_
  rotate_left
  · intro W hW; (have hra := fun w => run_assertE (.int .i64 3) w); go_simp; try with_reducible rfl
  (try simp only [Act.put, List.getElem_toArray, List.getElem_cons_succ, List.getElem_cons_zero, List.setIfInBounds_toArray, List.set_cons_zero, List.set_cons_succ])
  refine wpAnyH_ready (rs := [3]) (by kernel_rfl) (by simp) ?_
  refine AllReadyH.cons rfl (fun K hK => ?_) (AllReadyH.nil)
  all_goals (try simp only [List.getElem_toArray, List.getElem_cons_succ, List.getElem_cons_zero])
  (apply step_store_gw 16 hb2; rfl; rfl; rfl; rfl; exact hsz; kernel_rfl; rfl; rfl)
  intro w3 hzw3 hew3
  refine hK.out _ _ ((hew3.block _ (by omega)).trans hS) (fun hS => ?_)
  clear hK K
  (try simp only [Act.put])
  refine wpAnyH_ready (rs := [4]) (by kernel_rfl) (by simp) ?_
  refine AllReadyH.cons rfl (fun K hK => ?_) (AllReadyH.nil)
  all_goals (try simp only [List.getElem_toArray, List.getElem_cons_succ, List.getElem_cons_zero])
  (apply step_store_g1 ((hew3.block _ hne2).trans hc2); rfl; rfl; rfl; rfl; rfl; rfl; kernel_rfl; rfl)
  intro w4 hzw4 hew4
  refine hK.out _ _ ((hew4.block _ (by omega)).trans hS) (fun hS => ?_)
  clear hK K
  (try simp only [Act.put])
  refine wpAnyH_done (by kernel_rfl) ?_ _
  go_wp2_with fail
  refine ⟨rfl, .panicking [{ v := .iface 30 (.int .i64 3), recovered := true }], rfl, .tuple #[], results_none rfl _ _ _, rfl, rfl, ?_, ?_, ?_⟩
  · exact (hew4.block _ hne).trans hzw3
  · exact hzw4
  · exact (hk0.trans (kept_one hew3 TwoK.l)).trans (kept_one hew4 TwoK.r)
/-- what read answers where it is thrown -/
theorem doorMsg {w0 w : World} {old : Array Value} {y : Value} (hb : w.heap[w0.heap.size]? = some (.cells old 28)) (hsz : old.size = 16) (hc : w.heap[w0.heap.size + 1]? = some (.cells #[y] 30)) (hB : Beh w0 w) {R : Ending → World → Prop}
    (hR : ∀ w', Beh w0 w' → R (.returned (.tuple #[.agg #[.int .i64 0, .int .i64 0, .int .i64 0, .int .i64 0, .int .i64 0, .int .i64 0, .int .i64 0, .int .i64 0, .bool false, .slice none 0 0, .int .i64 0, .int .i64 0, .int .i64 0, .int .i64 0, .slice none 0 0, .slice none 0 0], .int .i64 3])) w') (tmps : Array Value)
    (t4 : tmps.getD 4 undef = .pointer (some ⟨w0.heap.size, 0, none⟩)) (t5 : tmps.getD 5 undef = .pointer (some ⟨w0.heap.size + 1, 0, none⟩)) :
    Leaves Tryz.prog Tryz.f23 tmps R [{ target := .fn (.func 47) #[.pointer (some ⟨w0.heap.size, 0, none⟩), .pointer (some ⟨w0.heap.size + 1, 0, none⟩)], args := #[] }] (.panicking thr) w := by
  refine leaves_cons (f := 47) (args := #[.pointer (some ⟨w0.heap.size, 0, none⟩), .pointer (some ⟨w0.heap.size + 1, 0, none⟩)]) (by simp) (by simp [go_sem]) ?_
  refine (catchMsg_thrown hb hsz hc (by omega)).mono ?_
  rintro e u' w'' ⟨rfl, rfl, hb2, hc2, hk⟩
  refine ⟨.tuple #[.agg #[.int .i64 0, .int .i64 0, .int .i64 0, .int .i64 0, .int .i64 0, .int .i64 0, .int .i64 0, .int .i64 0, .bool false, .slice none 0 0, .int .i64 0, .int .i64 0, .int .i64 0, .int .i64 0, .slice none 0 0, .slice none 0 0], .int .i64 3], results_rc rfl t4 t5 hb2 hc2 Tryz.underlying28 rfl (by kernel_rfl) (load_errno hc2), hR _ (hB.below.trans (hk.below hB.size (fun k hk => ?_)))⟩
  rcases hk with rfl | rfl <;> omega
end Go.Proofs.YtaengjgmchpabaaGreat.Wr
end
section
/- The landed read of one msg. -/
namespace Go.Proofs.YtaengjgmchpabaaGreat.Wr
open Go Go.RowKit Vl Kv Ss Cn Mem Lg Nm
attribute [local go_sem] Nm.run_bits Nm.run_frombits run_store_float
/-- what ReadMsg answers -/
def RMsg (l : List Nat) (w : World) (e : Ending) (w' : World) : Prop :=
  Beh w w' ∧ match cMsg.all l with
    | some m => ∃ (p : Mp) (LM : List Mr), e = .returned (.tuple #[Mr.val (m.head, p), .int .i64 0]) ∧ LM.map Prod.fst = m.inner ∧ OwnM (fun k => w.heap.size ≤ k) w' (m.head, p) LM
    | none => e = .returned (.tuple #[Mr.zero.val, .int .i64 3])
set_option maxHeartbeats 1600000 in
set_option maxRecDepth 100000 in
theorem readMsg1_any {w : World} {rb br bs : Nat} {l : List Nat} (h : Rs w rb br bs l) : Calls Tryz.prog 24 #[.pointer (some ⟨rb, 0, none⟩)] w (Mgot 16 rb br bs l w) := by
  have HF := Lib.hid (Fr1.start h Mr.zero.obj)
  clear h
  have HC := Lib.hid (rmsg16_any HF.out.rs)
  go_enter Tryz.func24, Tryz.ntmps24
  go_wp2_with fail
  refine HC.out.mono ?_
  rintro e w1 hx
  cases hd : (cHead.seq (cLi cInner 16)).rd l with
  | none =>
    obtain ⟨rfl, hk⟩ := hx.none hd
    go_wp2_with fail
    exact ⟨rfl, Mgot.no hd (HF.out.kept.trans hk)⟩
  | some q =>
    obtain ⟨⟨f, L⟩, r⟩ := q
    have hle := rd_le (cHead.seq (cLi cInner 16)) HF.out.rs.b8 hd
    obtain ⟨⟨p, LM, rfl, hm, ho⟩, hs, hk⟩ := hx.some hd
    have HF := Lib.hid (HF.out.call hs hk hle)
    have HO := Lib.hid ho
    have hwz : w.heap.size < (w.alloc Mr.zero.obj).heap.size := by rw [size_alloc]; omega
    clear hs hk ho hx HC
    go_wp2_with (first | (apply store_g 16 HF.out.box; rfl; rfl; rfl; rfl; rfl; kernel_rfl; rfl; rfl; intro wz hz he; have HF := Lib.hid (HF.out.set hz he); have HO := Lib.hid (HO.out.kept (else_kept he) (fun k e e2 => by have e2 : k = w.heap.size := e2; omega)); clear hz he))
    (try simp only [Exit.inBlock, Exit.then])
    refine bodyPost_ret (v := Mr.val (f, p)) (Bh.results_cell_row1 rfl _ _ _ _ _ _ _ rfl HF.out.box Tryz.underlying28 rfl (by kernel_rfl)) rfl ?_
    refine ⟨HF.out.kept, ?_⟩
    rw [hd]
    exact ⟨⟨p, LM, rfl, hm, HO.out.mono fun k e => Nat.le_trans (Nat.le_of_lt hwz) e⟩, HF.out.rs⟩
set_option maxHeartbeats 6400000 in
set_option maxRecDepth 100000 in
theorem readMsg_any {w : World} {b cap : Nat} {a : Option Addr} {l : List Nat} (hs : Mem.Src w b a cap l) (h8 : B8 l) (hl : l.length ≤ 100000) :
    Calls Tryz.prog 23 #[.slice a l.length cap, .func (Fn.func 24) #[] #[]] w (RMsg l w) := by
  have HB := Lib.hid (Bh.Bx.two w (.cells #[.int .i64 0, .int .i64 0, .int .i64 0, .int .i64 0, .int .i64 0, .int .i64 0, .int .i64 0, .int .i64 0, .bool false, .slice none 0 0, .int .i64 0, .int .i64 0, .int .i64 0, .int .i64 0, .slice none 0 0, .slice none 0 0] 28) (.cells #[.int .i64 0] 30))
  have hmf : ∀ (fn : Fn) (first cap : Array Value) (w : World), (Instr.makeFunc fn first cap).run Tryz.prog w = .ok (.func fn first cap) w := fun _ _ _ _ => rfl
  have HS := Lib.hid (hs.kept (kept_beh HB.out.beh) (fun _ h => h))
  clear hs
  by_cases h16 : l.length ≤ 16384
  · have d1 : decide ((l.length : Int) ≤ 16384) = true := decide_eq_true (by omega)
    go_enter_defers Tryz.func23, Tryz.ntmps23
    go_wp2_with (first | (go_at_call 48; refine (must_ok _).mono ?_; rintro e w' ⟨rfl, rfl⟩))
    refine (Pk.NewReader_any b a cap l _ HS.out (by omega) h8).mono ?_
    rintro e w1 ⟨br, bs, rfl, hr, hbr, hbs, hk⟩
    have HB := Lib.hid (HB.out.on (beh_kept hk))
    have HR := Lib.hid hr
    have hlo : w.heap.size + 1 < w1.heap.size := heap_lt HB.out.b1
    have hbr2 : w.heap.size + 1 < br := by
      rw [size_alloc, size_alloc] at hbr
      omega
    have HBS : Hid (bs ≠ w.heap.size) := by
      rw [size_alloc, size_alloc] at hbs
      exact (by omega : bs ≠ w.heap.size)
    clear hr hbs hk HS
    have HRS := Lib.hid (Rs.laid HR.out hl)
    have HB := Lib.hid (HB.out.alloc (.cells #[.pointer (some ⟨br, 0, none⟩)] 91))
    clear HR
    go_wp2_with fail
    have HC := Lib.hid (readMsg1_any HRS.out)
    cases hd : (cHead.seq (cLi cInner 16)).rd l with
    | none =>
      refine HC.out.mono ?_
      rintro e w2 hx
      obtain ⟨rfl, hk⟩ := hx.none hd
      have HB := Lib.hid (Bx.only HB.out hk hbr2)
      go_wp2_with fail
      exact doorMsg HB.out.b0 rfl HB.out.b1 HB.out.beh (fun w' hb => ⟨hb, by rw [all_none ((show cMsg.rd l = none from as_no hd))]; rfl⟩) _ rfl rfl
    | some p =>
      obtain ⟨⟨f, L⟩, r⟩ := p
      refine HC.out.mono ?_
      rintro e w2 hx
      obtain ⟨⟨p, LM, rfl, hm, ho⟩, hs, hk⟩ := hx.some hd
      have HO := Lib.hid ho
      have hwz : w.heap.size + 1 < (w1.alloc (.cells #[.pointer (some ⟨br, 0, none⟩)] 91)).heap.size := by rw [size_alloc]; omega
      clear ho
      have HB := Lib.hid (Bx.only HB.out hk hbr2)
      have HD := Lib.hid (Pk.Done_any br bs r 0 w2 hs.rd)
      have HRS2 := Lib.hid hs
      clear hx hs hk HC HRS
      have HQ : Hid (∀ wz, Bh.Else w.heap.size w2 wz → Rs wz w1.heap.size br bs r) := fun wz he => HRS2.out.els he (by omega) (by omega) (fun hr => HBS.out)
      go_wp2_with (first | (apply store_g 16 HB.out.b0; rfl; rfl; rfl; rfl; rfl; kernel_rfl; rfl; rfl; intro wz hz he; have HRS3 := Lib.hid (HQ.out wz he); have HB := Lib.hid (HB.out.put0 hz he); have HO := Lib.hid (HO.out.kept (else_kept he) (fun k e e2 => by have e2 : k = _ := e2; omega)); clear hz he; have RB := Bh.cells1 HRS3.out.box))
      have HD := Lib.hid (Pk.Done_any br bs r 0 _ HRS3.out.rd)
      cases r with
      | cons y r =>
        rw [show Pk.doneOf (y :: r) 0 = 3 by unfold Pk.doneOf; simp] at HD
        go_wp2_with (first | (go_at_call 50; refine HD.out.mono ?_; rintro e w' ⟨rfl, rfl⟩) | (go_at_call 48; refine (must_not _).mono ?_; rintro e w' ⟨rfl, rfl⟩))
        exact doorMsg HB.out.b0 rfl HB.out.b1 HB.out.beh (fun w' hb => ⟨hb, by rw [all_left ((show cMsg.rd l = some (⟨f, L⟩, _) from as_yes hd))]; rfl⟩) _ rfl rfl
      | nil =>
        rw [show Pk.doneOf [] 0 = 0 from rfl] at HD
        have HALL := Lib.hid (all_some ((show cMsg.rd l = some (⟨f, L⟩, _) from as_yes hd)) h16)
        go_wp2_with (first | (go_at_call 50; refine HD.out.mono ?_; rintro e w' ⟨rfl, rfl⟩) | (go_at_call 48; refine (must_ok _).mono ?_; rintro e w' ⟨rfl, rfl⟩) | (apply load_g HB.out.b0 Tryz.underlying28; rfl; rfl; rfl; rfl; kernel_rfl) | (apply store_g 16 HB.out.b0; rfl; rfl; rfl; rfl; rfl; kernel_rfl; rfl; rfl; intro wz hz he; have HB := Lib.hid (HB.out.put0 hz he); have HO := Lib.hid (HO.out.kept (else_kept he) (fun k e e2 => by have e2 : k = _ := e2; omega)); clear hz he) | (apply store_g1 HB.out.b1; rfl; rfl; rfl; rfl; rfl; rfl; kernel_rfl; rfl; intro wz hz he; have HB := Lib.hid (HB.out.put1 hz he); have HO := Lib.hid (HO.out.kept (else_kept he) (fun k e e2 => by have e2 : k = _ := e2; omega)); clear hz he))
        refine leaves_cons (f := 47) (args := #[.pointer (some ⟨w.heap.size, 0, none⟩), .pointer (some ⟨w.heap.size + 1, 0, none⟩)]) (by simp) (by simp [go_sem]) ?_
        refine (catchMsg_idle _ _ _).mono ?_
        rintro e u' w'' ⟨rfl, rfl, rfl⟩
        refine ⟨.tuple #[Mr.val (f, p), .int .i64 0], results_rc rfl rfl rfl HB.out.b0 HB.out.b1 Tryz.underlying28 rfl (by kernel_rfl) (load_errno HB.out.b1), HB.out.beh, ?_⟩
        rw [HALL.out]
        exact ⟨p, LM, rfl, hm, HO.out.mono fun k e => by omega⟩
  · have d1 : decide ((l.length : Int) ≤ 16384) = false := decide_eq_false (by omega)
    have HL := Lib.hid h16
    clear h16
    go_enter_defers Tryz.func23, Tryz.ntmps23
    go_wp2_with (first | (go_at_call 48; refine (must_not _).mono ?_; rintro e w' ⟨rfl, rfl⟩))
    exact doorMsg HB.out.b0 rfl HB.out.b1 HB.out.beh (fun w' hb => ⟨hb, by rw [all_long HL.out]; rfl⟩) _ rfl rfl
end Go.Proofs.YtaengjgmchpabaaGreat.Wr
end
section
/- The landed ReadMsg. -/
namespace Go.Proofs.YtaengjgmchpabaaGreat.Wr
open Go Go.RowKit Vl Kv Ss Cn Mem Lg Nm
attribute [local go_sem] Nm.run_bits Nm.run_frombits run_store_float
set_option maxHeartbeats 3200000 in
set_option maxRecDepth 100000 in
theorem ReadMsg_any {w : World} {b cap : Nat} {a : Option Addr} {l : List Nat} (hs : Mem.Src w b a cap l) (h8 : B8 l) (hl : l.length ≤ 100000) :
    Calls Tryz.prog 9 #[.slice a l.length cap] w (RMsg l w) := by
  have HB := Lib.hid (alloc_here (w := w) (.cells #[.int .i64 0, .int .i64 0, .int .i64 0, .int .i64 0, .int .i64 0, .int .i64 0, .int .i64 0, .int .i64 0, .bool false, .slice none 0 0, .int .i64 0, .int .i64 0, .int .i64 0, .int .i64 0, .slice none 0 0, .slice none 0 0] 28) rfl)
  have HC := Lib.hid (readMsg_any (hs.kept (kept_beh (below_alloc w (.cells #[.int .i64 0, .int .i64 0, .int .i64 0, .int .i64 0, .int .i64 0, .int .i64 0, .int .i64 0, .int .i64 0, .bool false, .slice none 0 0, .int .i64 0, .int .i64 0, .int .i64 0, .int .i64 0, .slice none 0 0, .slice none 0 0] 28))) (fun _ h => h)) h8 hl)
  have hbb := below_alloc w (.cells #[.int .i64 0, .int .i64 0, .int .i64 0, .int .i64 0, .int .i64 0, .int .i64 0, .int .i64 0, .int .i64 0, .bool false, .slice none 0 0, .int .i64 0, .int .i64 0, .int .i64 0, .int .i64 0, .slice none 0 0, .slice none 0 0] 28)
  clear hs h8
  go_enter Tryz.func9, Tryz.ntmps9
  go_wp2_with fail
  refine HC.out.mono ?_
  rintro e w1 hx
  have HB := Lib.hid (box_on HB.out hx.1)
  have hsz : w.heap.size < (w.alloc (.cells #[.int .i64 0, .int .i64 0, .int .i64 0, .int .i64 0, .int .i64 0, .int .i64 0, .int .i64 0, .int .i64 0, .bool false, .slice none 0 0, .int .i64 0, .int .i64 0, .int .i64 0, .int .i64 0, .slice none 0 0, .slice none 0 0] 28)).heap.size := by rw [size_alloc]; omega
  obtain ⟨hb, hx⟩ := hx
  clear HC
  cases hd : cMsg.all l with
  | none =>
    rw [hd] at hx
    obtain rfl := hx
    go_wp2_with (first | (apply store_g 16 HB.out; rfl; rfl; rfl; rfl; rfl; kernel_rfl; rfl; rfl; intro wz hz he; have HB := Lib.hid hz; have HBB := Lib.hid (else_beh (Kv.Beh.trans hbb hb) he (Nat.le_refl _)); clear hz he))
    (try simp only [Exit.inBlock, Exit.then])
    refine bodyPost_ret (v := .tuple #[Mr.zero.val, .int .i64 3]) ((Bh.results_cell_row2 rfl _ _ _ _ _ _ _ rfl HB.out Tryz.underlying28 rfl (by kernel_rfl)).trans rfl) rfl ⟨HBB.out, ?_⟩
    rw [hd]
  | some x =>
    rw [hd] at hx
    obtain ⟨p, LM, rfl, hm, ho⟩ := hx
    have HO := Lib.hid ho
    clear ho
    go_wp2_with (first | (apply store_g 16 HB.out; rfl; rfl; rfl; rfl; rfl; kernel_rfl; rfl; rfl; intro wz hz he; have HB := Lib.hid hz; have HBB := Lib.hid (else_beh (Kv.Beh.trans hbb hb) he (Nat.le_refl _)); have HO := Lib.hid (HO.out.kept (else_kept he) (fun k e e2 => by have e2 : k = w.heap.size := e2; omega)); clear hz he))
    (try simp only [Exit.inBlock, Exit.then])
    refine bodyPost_ret (v := .tuple #[Mr.val (x.head, p), .int .i64 0]) ((Bh.results_cell_row2 rfl _ _ _ _ _ _ _ rfl HB.out Tryz.underlying28 rfl (by kernel_rfl)).trans rfl) rfl ⟨HBB.out, ?_⟩
    rw [hd]
    exact ⟨p, LM, rfl, hm, HO.out.mono fun k e => Nat.le_trans (Nat.le_of_lt hsz) e⟩
end Go.Proofs.YtaengjgmchpabaaGreat.Wr
end
section
/- The landed written, told to write one entry. -/
namespace Go.Proofs.YtaengjgmchpabaaGreat.Wr
open Go Go.RowKit Vl Kv Ss Cn Mem Lg Nm
attribute [local go_sem] Nm.run_bits Nm.run_frombits run_store_float
variable {w : World} {r : Option (Option (List Nat))}
set_option maxHeartbeats 3200000 in
set_option maxRecDepth 100000 in
theorem written_Entry {pa : Addr} (HG : ∀ (bw : Nat) (wr : World) (F : List (Nat × Obj)), Yw w wr bw (some []) F → Calls Tryz.prog 64 #[.pointer (some ⟨bw, 0, none⟩), .pointer (some pa)] wr (Wrote w bw F r)) (hr : ∀ l, r = some (some l) → l.length ≤ 9000000000) :
    Calls Tryz.prog 15 #[.func (Fn.func 64) #[] #[.pointer (some pa)]] w (EncTold r w) := by
  have HGG := Lib.hid HG
  have HR := Lib.hid hr
  have HB := Lib.hid (Bh.Bx.two w (.cells #[.slice none 0 0] 25) (.cells #[.int .i64 0] 30))
  have HX := Lib.hid (Yw.new (T := 76) (F := [(w.heap.size, .cells #[.slice none 0 0] 25), (w.heap.size + 1, .cells #[.int .i64 0] 30)]) HB.out.beh (fun x hx => by
    simp only [List.mem_cons, List.not_mem_nil, or_false] at hx
    rcases hx with rfl | rfl
    · exact HB.out.b0
    · exact HB.out.b1))
  have hsz : ((w.alloc (.cells #[.slice none 0 0] 25)).alloc (.cells #[.int .i64 0] 30)).heap.size = w.heap.size + 1 + 1 := by simp
  rw [hsz] at HX
  clear hsz
  have hmf : ∀ (fn : Fn) (first cap : Array Value) (w : World), (Instr.makeFunc fn first cap).run Tryz.prog w = .ok (.func fn first cap) w := fun _ _ _ _ => rfl
  clear HG hr
  have hin1 : Hid ((w.heap.size, .cells #[.slice none 0 0] 25) ∈ [(w.heap.size, (.cells #[.slice none 0 0] 25 : Obj)), (w.heap.size + 1, .cells #[.int .i64 0] 30)]) := List.mem_cons_self ..
  have hin2 : Hid ((w.heap.size + 1, .cells #[.int .i64 0] 30) ∈ [(w.heap.size, (.cells #[.slice none 0 0] 25 : Obj)), (w.heap.size + 1, .cells #[.int .i64 0] 30)]) := List.mem_cons_of_mem _ (List.mem_cons_self ..)
  go_enter_defers Tryz.func15, Tryz.ntmps15
  go_wp2_with fail
  refine Calls.mono (HGG.out _ _ _ HX.out) ?_
  rintro e w1 HW
  clear HX
  cases r with
  | none =>
    obtain ⟨rfl, o, hx⟩ := HW
    go_wp2_with fail
    exact door_thrown hx hin1.out hin2.out (by omega) (Nat.le_refl _) (Nat.le_succ _) _ rfl rfl
  | some o =>
    obtain ⟨rfl, hx⟩ := HW
    have HX := Lib.hid hx
    clear hx
    cases o with
    | none =>
      go_wp2_with fail
      refine Calls.mono (yBytes_long HX.out) ?_
      rintro e w2 ⟨rfl, rfl⟩
      have hb := HX.out.get hin1.out
      have hc := HX.out.get hin2.out
      have HCQ := Lib.hid hc
      have b0 := Bh.cells1 hb
      have b1 := Bh.frozen_of hb 0
      have c0 := Bh.cells1 hc
      have c1 := Bh.frozen_of hc 0
      clear hb hc
      go_wp2_with fail
      refine leaves_cons (f := 33) (args := #[.pointer (some ⟨w.heap.size, 0, none⟩), .pointer (some ⟨w.heap.size + 1, 0, none⟩)]) (by simp) (by simp [go_sem]) ?_
      refine (catchW_idle _ _ _).mono ?_
      rintro e u' w'' ⟨rfl, rfl, rfl⟩
      refine ⟨.tuple #[.slice none 0 0, .int .i64 2], ?_, ?_, rfl⟩
      · rw [results_cells2 rfl]
        have y0 := fun a b c d => four_q (p := w.heap.size) (a := a) (b := b) (c := c) (d := d) HCQ.out (by omega)
        go_simp
      · have hbb := HX.out.beh
        repeat' (first | with_reducible exact hbb | with_reducible refine Kv.Beh.set ?_ (by omega) _ _)
    | some l =>
      have hl := HR.out l rfl
      go_wp2_with fail
      refine Calls.mono (yBytes HX.out (by omega)) ?_
      rintro e w2 ⟨bq, aq, cq, rfl, ho, hnew, hbeh⟩
      have HY := Lib.hid (HX.out.on hbeh)
      have HOW := Lib.hid ho
      have hnew0 : w.heap.size + 1 < bq := by
        have := heap_lt (HX.out.get hin2.out)
        omega
      clear ho hbeh hnew
      have hb := HY.out.get hin1.out
      have hc := HY.out.get hin2.out
      have HCQ := Lib.hid hc
      have b0 := Bh.cells1 hb
      have b1 := Bh.frozen_of hb 0
      have c0 := Bh.cells1 hc
      have c1 := Bh.frozen_of hc 0
      clear hb hc HX
      by_cases h16 : 16384 < l.length
      · have d1 : decide ((16384 : Int) < (l.length : Int)) = true := decide_eq_true (by omega)
        go_wp2_with fail
        refine leaves_cons (f := 33) (args := #[.pointer (some ⟨w.heap.size, 0, none⟩), .pointer (some ⟨w.heap.size + 1, 0, none⟩)]) (by simp) (by simp [go_sem]) ?_
        refine (catchW_idle _ _ _).mono ?_
        rintro e u' w'' ⟨rfl, rfl, rfl⟩
        refine ⟨.tuple #[.slice none 0 0, .int .i64 2], ?_, ?_, fun h => by omega, fun _ => rfl⟩
        · rw [results_cells2 rfl]
          have y0 := fun a b c d => four_q (p := w.heap.size) (a := a) (b := b) (c := c) (d := d) HCQ.out (by omega)
          go_simp
        · have hbb := HY.out.beh
          repeat' (first | with_reducible exact hbb | with_reducible refine Kv.Beh.set ?_ (by omega) _ _)
      · have d1 : decide ((16384 : Int) < (l.length : Int)) = false := decide_eq_false (by omega)
        go_wp2_with fail
        refine leaves_cons (f := 33) (args := #[.pointer (some ⟨w.heap.size, 0, none⟩), .pointer (some ⟨w.heap.size + 1, 0, none⟩)]) (by simp) (by simp [go_sem]) ?_
        refine (catchW_idle _ _ _).mono ?_
        rintro e u' w'' ⟨rfl, rfl, rfl⟩
        refine ⟨.tuple #[.slice aq l.length cq, .int .i64 0], ?_, ?_, fun _ => ⟨bq, aq, cq, rfl, ?_, by omega⟩, fun h => by omega⟩
        · rw [results_cells2 rfl]
          have y0 := fun a b c d => four_q (p := w.heap.size) (a := a) (b := b) (c := c) (d := d) HCQ.out (by omega)
          go_simp
        · have hbb := HY.out.beh
          repeat' (first | with_reducible exact hbb | with_reducible refine Kv.Beh.set ?_ (by omega) _ _)
        · have how := HOW.out
          repeat' (first | with_reducible exact how | refine own_set ?_ (by omega) _ _)
end Go.Proofs.YtaengjgmchpabaaGreat.Wr
end
