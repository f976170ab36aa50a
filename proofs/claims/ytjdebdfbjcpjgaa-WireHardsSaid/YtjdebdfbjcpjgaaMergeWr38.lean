import Derived.Test.YtjdebdfbjcpjgaaWireR11
import Derived.Test.YtjdebdfbjcpjgaaMergeWr23
import Derived.Test.YtjdebdfbjcpjgaaMergeWr35
section
/- For the landed read: stores in a region that draws, two results, what is caught. -/
namespace Go.Proofs.Ytjdebdfbjcpjgaa.Wr
open Go Go.RowKit Vl Kv Ss Cn Mem Lg Nm
/-- a whole struct stored into block g, in a region that draws -/
theorem step_store_gw {P : Program} {y0 : Nat → Option Bool} {o : Oper} {a : Go.Act} {w : World} {K : Go.Act → World → Prop} {Q : Exit → Go.Act → World → Prop} {E : Prop} (n : Nat) {g : Nat} {t : TypeId} {old : Array Value} (hg : w.heap[g]? = some (.cells old t))
    {ty : TypeId} {x y : Operand} {cells : Array Value} (hgd : o.guard = none) (ho : o.op = .store ty x y)
    (hx : a.eval x = .pointer (some ⟨g, 0, none⟩)) (hy : a.eval y = .agg cells) (hn : old.size = n) (hi : (P.info? ty).map (·.size) = some n) (hc : cells.size = n) (h1 : cells.toList.all (·.oneCell') = true)
    (h : ∀ w', w'.heap[g]? = some (.cells cells t) → Bh.Else g w w' → K (a.put o.dst undef) w') : if Region.wanted o y0 = true then Oper.wp P o a w K Q else E := by
  rw [if_pos (Bh.want_all hgd)]
  exact wp_store_row ty x y ho _ cells hx hy t old hg (hi.trans (by rw [hc])) (by rw [hn, hc]) (by rw [← h1, Array.all_toList]) (h _ (setRow_heap _ _ _ _ _ _ hg) (Bh.Else.row _ _ _))
theorem kept_one {g : Nat} {S : Nat → Prop} {w w' : World} (x : Bh.Else g w w') (h : S g) : Kept S w w' := (else_kept x).mono (fun _ e => by cases e; exact h)
/-- two results, a struct and a number -/
theorem results_rc {P : Program} {fn : Func} {p q : Tmp} {ty tz : TypeId} (h : fn.results = #[.cell p ty, .cell q tz]) {tmps : Array Value} {w : World} {g g2 : Nat} {t u : TypeId} {cs : Array Value} {y : Value} {d : TypeDesc}
    (hp : tmps.getD p undef = .pointer (some ⟨g, 0, none⟩)) (hq : tmps.getD q undef = .pointer (some ⟨g2, 0, none⟩)) (hg : w.heap[g]? = some (.cells cs t)) (_hc : w.heap[g2]? = some (.cells #[y] u))
    (hu : P.underlying ty = some d) (hd : (match d with | .struct _ | .array _ _ => true | _ => false) = true) (hi : (P.info? ty).map (·.size) = some cs.size) (hld : (loadVar tz ⟨g2, 0, none⟩).run P w = .ok y w) :
    (results fn tmps).run P w = .ok (.tuple #[.agg cs, y]) w := by
  rw [results_cells2 h, hp, hq]
  simp only [asAddr, Sem.run_pure, Result.andThen_ok, run_loadVar_row w g t ty cs (0, 0) d hg hu hd hi, hld]
theorem load_errno {w : World} {g : Nat} {y : Int} {u : TypeId} (h : w.heap[g]? = some (.cells #[.int .i64 y] u)) : (loadVar 36 ⟨g, 0, none⟩).run Try.prog w = .ok (.int .i64 y) w := by
  have c0 := Bh.cells1 h
  go_simp
theorem all_long {α : Type} {A : Cod α} {l : List Nat} (h : ¬ l.length ≤ 16384) : A.all l = none := by
  unfold Cod.all
  split
  · rw [if_neg h]
  · rfl
theorem all_none {α : Type} {A : Cod α} {l : List Nat} (h : A.rd l = none) : A.all l = none := by unfold Cod.all; rw [h]
theorem all_left {α : Type} {A : Cod α} {l r : List Nat} {x : α} {y : Nat} (h : A.rd l = some (x, y :: r)) : A.all l = none := by unfold Cod.all; rw [h]
theorem all_some {α : Type} {A : Cod α} {l : List Nat} {x : α} (h : A.rd l = some (x, [])) (hl : l.length ≤ 16384) : A.all l = some x := by unfold Cod.all; rw [h]; simp only; rw [if_pos hl]
/-- two blocks of a call's own, and one reader's that may have changed -/
structure Bo (w : World) (o p : Obj) (W : World) : Prop where
  b0 : W.heap[w.heap.size]? = some o
  b1 : W.heap[w.heap.size + 1]? = some p
  beh : Beh w W
theorem Bx.only {w W W' : World} {o p : Obj} {br : Nat} (h : Bh.Bx w [o, p] W) (hk : Kept (Only br) W W') (hb : w.heap.size + 1 < br) : Bo w o p W' :=
  ⟨keptO hk h.b0 (by omega), keptO hk h.b1 (by omega), h.beh.below.trans (hk.below h.beh.size (fun k e => by have e : k = br := e; omega))⟩
theorem Bo.put0 {w W W' : World} {o p q : Obj} (h : Bo w o p W) (hz : W'.heap[w.heap.size]? = some q) (he : Bh.Else w.heap.size W W') : Bo w q p W' :=
  ⟨hz, (he.block _ (by omega)).trans h.b1, else_beh h.beh he (Nat.le_refl _)⟩
theorem Bo.put1 {w W W' : World} {o p q : Obj} (h : Bo w o p W) (hz : W'.heap[w.heap.size + 1]? = some q) (he : Bh.Else (w.heap.size + 1) W W') : Bo w o q W' :=
  ⟨(he.block _ (by omega)).trans h.b0, hz, else_beh h.beh he (Nat.le_succ _)⟩
/-- a reader that was just laid -/
theorem Rs.laid {w1 : World} {br bs : Nat} {l : List Nat} (hr : Pk.RAt w1 br bs l 0) (hl : l.length ≤ 100000) : Rs (w1.alloc (.cells #[.pointer (some ⟨br, 0, none⟩)] 125)) w1.heap.size br bs l := by
  have h1 : br < w1.heap.size := RAt.lt1 hr
  exact ⟨alloc_here _ rfl, RAt.allo hr _, by omega, hl, fun hl => by have := RAt.lt2 hr hl; omega⟩
end Go.Proofs.Ytjdebdfbjcpjgaa.Wr
end
section
/- The landed read of one entry: what is caught. -/
namespace Go.Proofs.Ytjdebdfbjcpjgaa.Wr
open Go Go.RowKit Vl Kv Ss Cn Mem Lg Nm
attribute [local go_sem] Nm.run_bits Nm.run_frombits run_store_float
set_option maxRecDepth 100000 in
theorem catchEntry_idle (p0 p1 : Value) (w : World) :
    CallsD Try.prog 76 #[p0, p1] .returning w fun e u' w' => e = .returned (.tuple #[]) ∧ u' = .returning ∧ w' = w := by
  refine callsD_of_wpS Try.func76 rfl fun c₀ cs hu => ?_
  apply wpS_seq
  apply wpS_region
  simp [wpOpsS, go_sem, recoverD, hu, Try.ntmps76, Exit.thenS]
  show Code.wpS _ _ _ { tmps := #[p0, p1, .nilIface, undef, .nilIface, undef, undef, undef, undef, undef], defers := [] } _ _
  refine wpS_of_wp ?_
  go_wp2
  cases c₀
  simp_all [bodyPostS, results, Try.results76]
set_option maxHeartbeats 3200000 in
set_option maxRecDepth 100000 in
theorem catchEntry_thrown {w : World} {b c : Nat} {old : Array Value} {y : Value} {U : TypeId} (hb : w.heap[b]? = some (.cells old 32)) (hsz : old.size = 16) (hc : w.heap[c]? = some (.cells #[y] U)) (hne : b ≠ c) :
    CallsD Try.prog 76 #[.pointer (some ⟨b, 0, none⟩), .pointer (some ⟨c, 0, none⟩)] (.panicking thr) w fun e u' w' =>
      e = .returned (.tuple #[]) ∧ u' = .panicking [{ v := .iface 36 (.int .i64 3), recovered := true }] ∧
      w'.heap[b]? = some (.cells #[.int .i64 0, .int .i64 0, .int .i64 0, .int .i64 0, .int .i64 0, .string ⟨#[]⟩, .int .i64 0, .float .f64 0, .string ⟨#[]⟩, .int .i64 0, .float .f64 0, .string ⟨#[]⟩, .int .i64 0, .int .i64 0, .int .i64 0, .int .i64 0] 32) ∧ w'.heap[c]? = some (.cells #[.int .i64 3] U) ∧ Kept (TwoK b c) w w' := by
  refine callsD_of_wpS Try.func76 rfl fun c₀ cs hu => ?_
  unfold thr at hu
  apply wpS_seq
  apply wpS_region
  simp [wpOpsS, go_sem, recoverD, hu, Try.ntmps76, Exit.thenS]
  show Code.wpS _ _ _ { tmps := #[.pointer (some ⟨b, 0, none⟩), .pointer (some ⟨c, 0, none⟩), .iface 36 (.int .i64 3), undef, .iface 36 (.int .i64 3), undef, undef, undef, undef, undef], defers := [] } _ _
  refine wpS_of_wp ?_
  have HB := Lib.hid hb
  have HC := Lib.hid hc
  have hbl := heap_lt hb
  have hcl := heap_lt hc
  have hne2 : c ≠ b := fun e => hne e.symm
  have hS0 : (w.alloc (.cells #[.int .i64 0, .int .i64 0, .int .i64 0, .int .i64 0, .int .i64 0, .string ⟨#[]⟩, .int .i64 0, .float .f64 0, .string ⟨#[]⟩, .int .i64 0, .float .f64 0, .string ⟨#[]⟩, .int .i64 0, .int .i64 0, .int .i64 0, .int .i64 0] 32)).drew.heap[w.heap.size]? = some (.cells #[.int .i64 0, .int .i64 0, .int .i64 0, .int .i64 0, .int .i64 0, .string ⟨#[]⟩, .int .i64 0, .float .f64 0, .string ⟨#[]⟩, .int .i64 0, .float .f64 0, .string ⟨#[]⟩, .int .i64 0, .int .i64 0, .int .i64 0, .int .i64 0] 32) := alloc_here _ rfl
  clear hb hc
  go_wp2_with fail
  refine wp_region_held_drew (S := fun W => W.heap[w.heap.size]? = some (.cells #[.int .i64 0, .int .i64 0, .int .i64 0, .int .i64 0, .int .i64 0, .string ⟨#[]⟩, .int .i64 0, .float .f64 0, .string ⟨#[]⟩, .int .i64 0, .float .f64 0, .string ⟨#[]⟩, .int .i64 0, .int .i64 0, .int .i64 0, .int .i64 0] 32)) (by kernel_rfl) (hS0) (fun hS => ?_)
  have hdr : Beh (w.alloc (.cells #[.int .i64 0, .int .i64 0, .int .i64 0, .int .i64 0, .int .i64 0, .string ⟨#[]⟩, .int .i64 0, .float .f64 0, .string ⟨#[]⟩, .int .i64 0, .float .f64 0, .string ⟨#[]⟩, .int .i64 0, .int .i64 0, .int .i64 0, .int .i64 0] 32)) (w.alloc (.cells #[.int .i64 0, .int .i64 0, .int .i64 0, .int .i64 0, .int .i64 0, .string ⟨#[]⟩, .int .i64 0, .float .f64 0, .string ⟨#[]⟩, .int .i64 0, .float .f64 0, .string ⟨#[]⟩, .int .i64 0, .int .i64 0, .int .i64 0, .int .i64 0] 32)).drew := (Beh.start _).drew
  have hb2 := hdr.box (old_alloc (.cells #[.int .i64 0, .int .i64 0, .int .i64 0, .int .i64 0, .int .i64 0, .string ⟨#[]⟩, .int .i64 0, .float .f64 0, .string ⟨#[]⟩, .int .i64 0, .float .f64 0, .string ⟨#[]⟩, .int .i64 0, .int .i64 0, .int .i64 0, .int .i64 0] 32) HB.out)
  have hc2 := hdr.box (old_alloc (.cells #[.int .i64 0, .int .i64 0, .int .i64 0, .int .i64 0, .int .i64 0, .string ⟨#[]⟩, .int .i64 0, .float .f64 0, .string ⟨#[]⟩, .int .i64 0, .float .f64 0, .string ⟨#[]⟩, .int .i64 0, .int .i64 0, .int .i64 0, .int .i64 0] 32) HC.out)
  have hk0 : Kept (TwoK b c) w (w.alloc (.cells #[.int .i64 0, .int .i64 0, .int .i64 0, .int .i64 0, .int .i64 0, .string ⟨#[]⟩, .int .i64 0, .float .f64 0, .string ⟨#[]⟩, .int .i64 0, .float .f64 0, .string ⟨#[]⟩, .int .i64 0, .int .i64 0, .int .i64 0, .int .i64 0] 32)).drew := ((Kept.refl (TwoK b c) w).alloc _).drewN 1
  generalize World.drew (w.alloc (.cells #[.int .i64 0, .int .i64 0, .int .i64 0, .int .i64 0, .int .i64 0, .string ⟨#[]⟩, .int .i64 0, .float .f64 0, .string ⟨#[]⟩, .int .i64 0, .float .f64 0, .string ⟨#[]⟩, .int .i64 0, .int .i64 0, .int .i64 0, .int .i64 0] 32)) = wd at hS hb2 hc2 hk0 ⊢
  clear hdr
  (try simp only [Act.put, List.getElem_toArray, List.getElem_cons_succ, List.getElem_cons_zero, List.setIfInBounds_toArray, List.set_cons_zero, List.set_cons_succ])
  refine' wpAnyH_take (i := 0) (v := _) rfl (by kernel_rfl) (by kernel_rfl) (by kernel_rfl) (fun _ _ _ h => h) (Bh.yif_load_at (fun _ h => h) Try.underlying32 rfl rfl rfl rfl (by kernel_rfl)) hS ?_
  (try simp only [Act.put, List.getElem_toArray, List.getElem_cons_zero, List.setIfInBounds_toArray, List.set_cons_zero, List.set_cons_succ])
  refine wpAnyH_take (i := 1) (v := ?_) rfl (by kernel_rfl) (by kernel_rfl) (by kernel_rfl) (fun _ _ _ h => h) (Or.inl ⟨by rfl, ?_⟩) hS ?_
  rotate_left
  · intro W hW; go_simp; try with_reducible rfl
  (try simp only [Act.put, List.getElem_toArray, List.getElem_cons_succ, List.getElem_cons_zero, List.setIfInBounds_toArray, List.set_cons_zero, List.set_cons_succ])
  refine wpAnyH_take (i := 2) (v := ?_) rfl (by kernel_rfl) (by kernel_rfl) (by kernel_rfl) (fun _ _ _ h => h) (Or.inl ⟨by rfl, ?_⟩) hS ?_
  rotate_left
  · intro W hW; (have hra := fun w => run_assertE (.int .i64 3) w); go_simp; try with_reducible rfl
  (try simp only [Act.put, List.getElem_toArray, List.getElem_cons_succ, List.getElem_cons_zero, List.setIfInBounds_toArray, List.set_cons_zero, List.set_cons_succ])
  refine wpAnyH_ready (rs := [3]) (by kernel_rfl) (by simp) ?_
  refine AllReadyH.cons rfl (fun K hK => ?_) (AllReadyH.nil)
  all_goals (try simp only [List.getElem_toArray, List.getElem_cons_succ, List.getElem_cons_zero])
  (apply step_store_gw 16 hb2; rfl; rfl; rfl; rfl; exact hsz; kernel_rfl; rfl; rfl)
  intro w3 hzw3 hew3
  refine hK.out _ _ ((hew3.block _ (by omega)).trans hS) (fun hS => ?_)
  clear hK K
  (try simp only [Act.put])
  refine wpAnyH_ready (rs := [4]) (by kernel_rfl) (by simp) ?_
  refine AllReadyH.cons rfl (fun K hK => ?_) (AllReadyH.nil)
  all_goals (try simp only [List.getElem_toArray, List.getElem_cons_succ, List.getElem_cons_zero])
  (apply step_store_g1 ((hew3.block _ hne2).trans hc2); rfl; rfl; rfl; rfl; rfl; rfl; kernel_rfl; rfl)
  intro w4 hzw4 hew4
  refine hK.out _ _ ((hew4.block _ (by omega)).trans hS) (fun hS => ?_)
  clear hK K
  (try simp only [Act.put])
  refine wpAnyH_done (by kernel_rfl) ?_ _
  go_wp2_with fail
  refine ⟨rfl, .panicking [{ v := .iface 36 (.int .i64 3), recovered := true }], rfl, .tuple #[], results_none rfl _ _ _, rfl, rfl, ?_, ?_, ?_⟩
  · exact (hew4.block _ hne).trans hzw3
  · exact hzw4
  · exact (hk0.trans (kept_one hew3 TwoK.l)).trans (kept_one hew4 TwoK.r)
/-- what read answers where it is thrown -/
theorem doorEntry {w0 w : World} {old : Array Value} {y : Value} (hb : w.heap[w0.heap.size]? = some (.cells old 32)) (hsz : old.size = 16) (hc : w.heap[w0.heap.size + 1]? = some (.cells #[y] 36)) (hB : Beh w0 w) {R : Ending → World → Prop}
    (hR : ∀ w', Beh w0 w' → R (.returned (.tuple #[.agg #[.int .i64 0, .int .i64 0, .int .i64 0, .int .i64 0, .int .i64 0, .string ⟨#[]⟩, .int .i64 0, .float .f64 0, .string ⟨#[]⟩, .int .i64 0, .float .f64 0, .string ⟨#[]⟩, .int .i64 0, .int .i64 0, .int .i64 0, .int .i64 0], .int .i64 3])) w') (tmps : Array Value)
    (t4 : tmps.getD 4 undef = .pointer (some ⟨w0.heap.size, 0, none⟩)) (t5 : tmps.getD 5 undef = .pointer (some ⟨w0.heap.size + 1, 0, none⟩)) :
    Leaves Try.prog Try.f37 tmps R [{ target := .fn (.func 76) #[.pointer (some ⟨w0.heap.size, 0, none⟩), .pointer (some ⟨w0.heap.size + 1, 0, none⟩)], args := #[] }] (.panicking thr) w := by
  refine leaves_cons (f := 76) (args := #[.pointer (some ⟨w0.heap.size, 0, none⟩), .pointer (some ⟨w0.heap.size + 1, 0, none⟩)]) (by simp) (by simp [go_sem]) ?_
  refine (catchEntry_thrown hb hsz hc (by omega)).mono ?_
  rintro e u' w'' ⟨rfl, rfl, hb2, hc2, hk⟩
  refine ⟨.tuple #[.agg #[.int .i64 0, .int .i64 0, .int .i64 0, .int .i64 0, .int .i64 0, .string ⟨#[]⟩, .int .i64 0, .float .f64 0, .string ⟨#[]⟩, .int .i64 0, .float .f64 0, .string ⟨#[]⟩, .int .i64 0, .int .i64 0, .int .i64 0, .int .i64 0], .int .i64 3], results_rc rfl t4 t5 hb2 hc2 Try.underlying32 rfl (by kernel_rfl) (load_errno hc2), hR _ (hB.below.trans (hk.below hB.size (fun k hk => ?_)))⟩
  rcases hk with rfl | rfl <;> omega
end Go.Proofs.Ytjdebdfbjcpjgaa.Wr
end
section
/- The landed read of one entry. -/
namespace Go.Proofs.Ytjdebdfbjcpjgaa.Wr
open Go Go.RowKit Vl Kv Ss Cn Mem Lg Nm
attribute [local go_sem] Nm.run_bits Nm.run_frombits run_store_float
/-- what ReadEntry answers -/
def REnt (l : List Nat) (w : World) (e : Ending) (w' : World) : Prop :=
  Beh w w' ∧ match cEnt.all l with
    | some x => e = .returned (.tuple #[x.agg, .int .i64 0])
    | none => e = .returned (.tuple #[E.zero.agg, .int .i64 3])
set_option maxHeartbeats 6400000 in
set_option maxRecDepth 100000 in
theorem readEntry_any {w : World} {b cap : Nat} {a : Option Addr} {l : List Nat} (hs : Mem.Src w b a cap l) (h8 : B8 l) (hl : l.length ≤ 100000) :
    Calls Try.prog 37 #[.slice a l.length cap, .func (Fn.func 38) #[] #[]] w (REnt l w) := by
  have HB := Lib.hid (Bh.Bx.two w (.cells #[.int .i64 0, .int .i64 0, .int .i64 0, .int .i64 0, .int .i64 0, .string ⟨#[]⟩, .int .i64 0, .float .f64 0, .string ⟨#[]⟩, .int .i64 0, .float .f64 0, .string ⟨#[]⟩, .int .i64 0, .int .i64 0, .int .i64 0, .int .i64 0] 32) (.cells #[.int .i64 0] 36))
  have hmf : ∀ (fn : Fn) (first cap : Array Value) (w : World), (Instr.makeFunc fn first cap).run Try.prog w = .ok (.func fn first cap) w := fun _ _ _ _ => rfl
  have HS := Lib.hid (hs.kept (kept_beh HB.out.beh) (fun _ h => h))
  clear hs
  by_cases h16 : l.length ≤ 16384
  · have d1 : decide ((l.length : Int) ≤ 16384) = true := decide_eq_true (by omega)
    go_enter_defers Try.func37, Try.ntmps37
    go_wp2_with (first | (go_at_call 66; refine (must_ok _).mono ?_; rintro e w' ⟨rfl, rfl⟩))
    refine (Pk.NewReader_any b a cap l _ HS.out (by omega) h8).mono ?_
    rintro e w1 ⟨br, bs, rfl, hr, hbr, hbs, hk⟩
    have HB := Lib.hid (HB.out.on (beh_kept hk))
    have HR := Lib.hid hr
    have hlo : w.heap.size + 1 < w1.heap.size := heap_lt HB.out.b1
    have hbr2 : w.heap.size + 1 < br := by
      rw [size_alloc, size_alloc] at hbr
      omega
    have HBS : Hid (bs ≠ w.heap.size) := by
      rw [size_alloc, size_alloc] at hbs
      exact (by omega : bs ≠ w.heap.size)
    clear hr hbs hk HS
    have HRS := Lib.hid (Rs.laid HR.out hl)
    have HB := Lib.hid (HB.out.alloc (.cells #[.pointer (some ⟨br, 0, none⟩)] 125))
    clear HR
    go_wp2_with fail
    have HC := Lib.hid (rentry_any HRS.out)
    cases hd : cEnt.rd l with
    | none =>
      refine HC.out.mono ?_
      rintro e w2 hx
      obtain ⟨rfl, hk⟩ := hx.none hd
      have HB := Lib.hid (Bx.only HB.out hk hbr2)
      go_wp2_with fail
      exact doorEntry HB.out.b0 rfl HB.out.b1 HB.out.beh (fun w' hb => ⟨hb, by rw [all_none (hd)]; rfl⟩) _ rfl rfl
    | some p =>
      obtain ⟨x, r⟩ := p
      refine HC.out.mono ?_
      rintro e w2 hx
      obtain ⟨rfl, hs, hk⟩ := hx.some hd
      have HB := Lib.hid (Bx.only HB.out hk hbr2)
      have HD := Lib.hid (Pk.Done_any br bs r 0 w2 hs.rd)
      have HRS2 := Lib.hid hs
      clear hx hs hk HC HRS
      have HQ : Hid (∀ wz, Bh.Else w.heap.size w2 wz → Rs wz w1.heap.size br bs r) := fun wz he => HRS2.out.els he (by omega) (by omega) (fun hr => HBS.out)
      go_wp2_with (first | (apply store_g 16 HB.out.b0; rfl; rfl; rfl; rfl; rfl; kernel_rfl; rfl; rfl; intro wz hz he; have HRS3 := Lib.hid (HQ.out wz he); have HB := Lib.hid (HB.out.put0 hz he); clear hz he; have RB := Bh.cells1 HRS3.out.box))
      have HD := Lib.hid (Pk.Done_any br bs r 0 _ HRS3.out.rd)
      cases r with
      | cons y r =>
        rw [show Pk.doneOf (y :: r) 0 = 3 by unfold Pk.doneOf; simp] at HD
        go_wp2_with (first | (go_at_call 78; refine HD.out.mono ?_; rintro e w' ⟨rfl, rfl⟩) | (go_at_call 66; refine (must_not _).mono ?_; rintro e w' ⟨rfl, rfl⟩))
        exact doorEntry HB.out.b0 rfl HB.out.b1 HB.out.beh (fun w' hb => ⟨hb, by rw [all_left (hd)]; rfl⟩) _ rfl rfl
      | nil =>
        rw [show Pk.doneOf [] 0 = 0 from rfl] at HD
        have HALL := Lib.hid (all_some (hd) h16)
        go_wp2_with (first | (go_at_call 78; refine HD.out.mono ?_; rintro e w' ⟨rfl, rfl⟩) | (go_at_call 66; refine (must_ok _).mono ?_; rintro e w' ⟨rfl, rfl⟩) | (apply load_g HB.out.b0 Try.underlying32; rfl; rfl; rfl; rfl; kernel_rfl) | (apply store_g 16 HB.out.b0; rfl; rfl; rfl; rfl; rfl; kernel_rfl; rfl; rfl; intro wz hz he; have HB := Lib.hid (HB.out.put0 hz he); clear hz he) | (apply store_g1 HB.out.b1; rfl; rfl; rfl; rfl; rfl; rfl; kernel_rfl; rfl; intro wz hz he; have HB := Lib.hid (HB.out.put1 hz he); clear hz he))
        refine leaves_cons (f := 76) (args := #[.pointer (some ⟨w.heap.size, 0, none⟩), .pointer (some ⟨w.heap.size + 1, 0, none⟩)]) (by simp) (by simp [go_sem]) ?_
        refine (catchEntry_idle _ _ _).mono ?_
        rintro e u' w'' ⟨rfl, rfl, rfl⟩
        refine ⟨.tuple #[x.agg, .int .i64 0], results_rc rfl rfl rfl HB.out.b0 HB.out.b1 Try.underlying32 rfl (by kernel_rfl) (load_errno HB.out.b1), HB.out.beh, ?_⟩
        rw [HALL.out]
  · have d1 : decide ((l.length : Int) ≤ 16384) = false := decide_eq_false (by omega)
    have HL := Lib.hid h16
    clear h16
    go_enter_defers Try.func37, Try.ntmps37
    go_wp2_with (first | (go_at_call 66; refine (must_not _).mono ?_; rintro e w' ⟨rfl, rfl⟩))
    exact doorEntry HB.out.b0 rfl HB.out.b1 HB.out.beh (fun w' hb => ⟨hb, by rw [all_long HL.out]; rfl⟩) _ rfl rfl
end Go.Proofs.Ytjdebdfbjcpjgaa.Wr
end
section
/- The landed ReadEntry. -/
namespace Go.Proofs.Ytjdebdfbjcpjgaa.Wr
open Go Go.RowKit Vl Kv Ss Cn Mem Lg Nm
attribute [local go_sem] Nm.run_bits Nm.run_frombits run_store_float
set_option maxHeartbeats 3200000 in
set_option maxRecDepth 100000 in
theorem ReadEntry_any {w : World} {b cap : Nat} {a : Option Addr} {l : List Nat} (hs : Mem.Src w b a cap l) (h8 : B8 l) (hl : l.length ≤ 100000) :
    Calls Try.prog 14 #[.slice a l.length cap] w (REnt l w) := by
  have HB := Lib.hid (alloc_here (w := w) (.cells #[.int .i64 0, .int .i64 0, .int .i64 0, .int .i64 0, .int .i64 0, .string ⟨#[]⟩, .int .i64 0, .float .f64 0, .string ⟨#[]⟩, .int .i64 0, .float .f64 0, .string ⟨#[]⟩, .int .i64 0, .int .i64 0, .int .i64 0, .int .i64 0] 32) rfl)
  have HC := Lib.hid (readEntry_any (hs.kept (kept_beh (below_alloc w (.cells #[.int .i64 0, .int .i64 0, .int .i64 0, .int .i64 0, .int .i64 0, .string ⟨#[]⟩, .int .i64 0, .float .f64 0, .string ⟨#[]⟩, .int .i64 0, .float .f64 0, .string ⟨#[]⟩, .int .i64 0, .int .i64 0, .int .i64 0, .int .i64 0] 32))) (fun _ h => h)) h8 hl)
  have hbb := below_alloc w (.cells #[.int .i64 0, .int .i64 0, .int .i64 0, .int .i64 0, .int .i64 0, .string ⟨#[]⟩, .int .i64 0, .float .f64 0, .string ⟨#[]⟩, .int .i64 0, .float .f64 0, .string ⟨#[]⟩, .int .i64 0, .int .i64 0, .int .i64 0, .int .i64 0] 32)
  clear hs h8
  go_enter Try.func14, Try.ntmps14
  go_wp2_with fail
  refine HC.out.mono ?_
  rintro e w1 hx
  have HB := Lib.hid (box_on HB.out hx.1)
  have hsz : w.heap.size < (w.alloc (.cells #[.int .i64 0, .int .i64 0, .int .i64 0, .int .i64 0, .int .i64 0, .string ⟨#[]⟩, .int .i64 0, .float .f64 0, .string ⟨#[]⟩, .int .i64 0, .float .f64 0, .string ⟨#[]⟩, .int .i64 0, .int .i64 0, .int .i64 0, .int .i64 0] 32)).heap.size := by rw [size_alloc]; omega
  obtain ⟨hb, hx⟩ := hx
  clear HC
  cases hd : cEnt.all l with
  | none =>
    rw [hd] at hx
    obtain rfl := hx
    go_wp2_with (first | (apply store_g 16 HB.out; rfl; rfl; rfl; rfl; rfl; kernel_rfl; rfl; rfl; intro wz hz he; have HB := Lib.hid hz; have HBB := Lib.hid (else_beh (Kv.Beh.trans hbb hb) he (Nat.le_refl _)); clear hz he))
    (try simp only [Exit.inBlock, Exit.then])
    refine bodyPost_ret (v := .tuple #[E.zero.agg, .int .i64 3]) ((Bh.results_cell_row2 rfl _ _ _ _ _ _ _ rfl HB.out Try.underlying32 rfl (by kernel_rfl)).trans rfl) rfl ⟨HBB.out, ?_⟩
    rw [hd]
  | some x =>
    rw [hd] at hx
    obtain rfl := hx
    go_wp2_with (first | (apply store_g 16 HB.out; rfl; rfl; rfl; rfl; rfl; kernel_rfl; rfl; rfl; intro wz hz he; have HB := Lib.hid hz; have HBB := Lib.hid (else_beh (Kv.Beh.trans hbb hb) he (Nat.le_refl _)); clear hz he))
    (try simp only [Exit.inBlock, Exit.then])
    refine bodyPost_ret (v := .tuple #[x.agg, .int .i64 0]) ((Bh.results_cell_row2 rfl _ _ _ _ _ _ _ rfl HB.out Try.underlying32 rfl (by kernel_rfl)).trans rfl) rfl ⟨HBB.out, ?_⟩
    rw [hd]
end Go.Proofs.Ytjdebdfbjcpjgaa.Wr
end
section
/- The landed read of one hard: what is caught. -/
namespace Go.Proofs.Ytjdebdfbjcpjgaa.Wr
open Go Go.RowKit Vl Kv Ss Cn Mem Lg Nm
attribute [local go_sem] Nm.run_bits Nm.run_frombits run_store_float
set_option maxRecDepth 100000 in
theorem catchHard_idle (p0 p1 : Value) (w : World) :
    CallsD Try.prog 90 #[p0, p1] .returning w fun e u' w' => e = .returned (.tuple #[]) ∧ u' = .returning ∧ w' = w := by
  refine callsD_of_wpS Try.func90 rfl fun c₀ cs hu => ?_
  apply wpS_seq
  apply wpS_region
  simp [wpOpsS, go_sem, recoverD, hu, Try.ntmps90, Exit.thenS]
  show Code.wpS _ _ _ { tmps := #[p0, p1, .nilIface, undef, .nilIface, undef, undef, undef, undef, undef], defers := [] } _ _
  refine wpS_of_wp ?_
  go_wp2
  cases c₀
  simp_all [bodyPostS, results, Try.results90]
set_option maxHeartbeats 3200000 in
set_option maxRecDepth 100000 in
theorem catchHard_thrown {w : World} {b c : Nat} {old : Array Value} {y : Value} {U : TypeId} (hb : w.heap[b]? = some (.cells old 48)) (hsz : old.size = 10) (hc : w.heap[c]? = some (.cells #[y] U)) (hne : b ≠ c) :
    CallsD Try.prog 90 #[.pointer (some ⟨b, 0, none⟩), .pointer (some ⟨c, 0, none⟩)] (.panicking thr) w fun e u' w' =>
      e = .returned (.tuple #[]) ∧ u' = .panicking [{ v := .iface 36 (.int .i64 3), recovered := true }] ∧
      w'.heap[b]? = some (.cells #[.int .i64 0, .int .i64 0, .int .i64 0, .int .i64 0, .int .i64 0, .int .i64 0, .int .i64 0, .int .i64 0, .slice none 0 0, .slice none 0 0] 48) ∧ w'.heap[c]? = some (.cells #[.int .i64 3] U) ∧ Kept (TwoK b c) w w' := by
  refine callsD_of_wpS Try.func90 rfl fun c₀ cs hu => ?_
  unfold thr at hu
  apply wpS_seq
  apply wpS_region
  simp [wpOpsS, go_sem, recoverD, hu, Try.ntmps90, Exit.thenS]
  show Code.wpS _ _ _ { tmps := #[.pointer (some ⟨b, 0, none⟩), .pointer (some ⟨c, 0, none⟩), .iface 36 (.int .i64 3), undef, .iface 36 (.int .i64 3), undef, undef, undef, undef, undef], defers := [] } _ _
  refine wpS_of_wp ?_
  have HB := Lib.hid hb
  have HC := Lib.hid hc
  have hbl := heap_lt hb
  have hcl := heap_lt hc
  have hne2 : c ≠ b := fun e => hne e.symm
  have hS0 : (w.alloc (.cells #[.int .i64 0, .int .i64 0, .int .i64 0, .int .i64 0, .int .i64 0, .int .i64 0, .int .i64 0, .int .i64 0, .slice none 0 0, .slice none 0 0] 48)).drew.heap[w.heap.size]? = some (.cells #[.int .i64 0, .int .i64 0, .int .i64 0, .int .i64 0, .int .i64 0, .int .i64 0, .int .i64 0, .int .i64 0, .slice none 0 0, .slice none 0 0] 48) := alloc_here _ rfl
  clear hb hc
  go_wp2_with fail
  refine wp_region_held_drew (S := fun W => W.heap[w.heap.size]? = some (.cells #[.int .i64 0, .int .i64 0, .int .i64 0, .int .i64 0, .int .i64 0, .int .i64 0, .int .i64 0, .int .i64 0, .slice none 0 0, .slice none 0 0] 48)) (by kernel_rfl) (hS0) (fun hS => ?_)
  have hdr : Beh (w.alloc (.cells #[.int .i64 0, .int .i64 0, .int .i64 0, .int .i64 0, .int .i64 0, .int .i64 0, .int .i64 0, .int .i64 0, .slice none 0 0, .slice none 0 0] 48)) (w.alloc (.cells #[.int .i64 0, .int .i64 0, .int .i64 0, .int .i64 0, .int .i64 0, .int .i64 0, .int .i64 0, .int .i64 0, .slice none 0 0, .slice none 0 0] 48)).drew := (Beh.start _).drew
  have hb2 := hdr.box (old_alloc (.cells #[.int .i64 0, .int .i64 0, .int .i64 0, .int .i64 0, .int .i64 0, .int .i64 0, .int .i64 0, .int .i64 0, .slice none 0 0, .slice none 0 0] 48) HB.out)
  have hc2 := hdr.box (old_alloc (.cells #[.int .i64 0, .int .i64 0, .int .i64 0, .int .i64 0, .int .i64 0, .int .i64 0, .int .i64 0, .int .i64 0, .slice none 0 0, .slice none 0 0] 48) HC.out)
  have hk0 : Kept (TwoK b c) w (w.alloc (.cells #[.int .i64 0, .int .i64 0, .int .i64 0, .int .i64 0, .int .i64 0, .int .i64 0, .int .i64 0, .int .i64 0, .slice none 0 0, .slice none 0 0] 48)).drew := ((Kept.refl (TwoK b c) w).alloc _).drewN 1
  generalize World.drew (w.alloc (.cells #[.int .i64 0, .int .i64 0, .int .i64 0, .int .i64 0, .int .i64 0, .int .i64 0, .int .i64 0, .int .i64 0, .slice none 0 0, .slice none 0 0] 48)) = wd at hS hb2 hc2 hk0 ⊢
  clear hdr
  (try simp only [Act.put, List.getElem_toArray, List.getElem_cons_succ, List.getElem_cons_zero, List.setIfInBounds_toArray, List.set_cons_zero, List.set_cons_succ])
  refine' wpAnyH_take (i := 0) (v := _) rfl (by kernel_rfl) (by kernel_rfl) (by kernel_rfl) (fun _ _ _ h => h) (Bh.yif_load_at (fun _ h => h) Try.underlying48 rfl rfl rfl rfl (by kernel_rfl)) hS ?_
  (try simp only [Act.put, List.getElem_toArray, List.getElem_cons_zero, List.setIfInBounds_toArray, List.set_cons_zero, List.set_cons_succ])
  refine wpAnyH_take (i := 1) (v := ?_) rfl (by kernel_rfl) (by kernel_rfl) (by kernel_rfl) (fun _ _ _ h => h) (Or.inl ⟨by rfl, ?_⟩) hS ?_
  rotate_left
  · intro W hW; go_simp; try with_reducible rfl
  (try simp only [Act.put, List.getElem_toArray, List.getElem_cons_succ, List.getElem_cons_zero, List.setIfInBounds_toArray, List.set_cons_zero, List.set_cons_succ])
  refine wpAnyH_take (i := 2) (v := ?_) rfl (by kernel_rfl) (by kernel_rfl) (by kernel_rfl) (fun _ _ _ h => h) (Or.inl ⟨by rfl, ?_⟩) hS ?_
  rotate_left
  · intro W hW; (have hra := fun w => run_assertE (.int .i64 3) w); go_simp; try with_reducible rfl
  (try simp only [Act.put, List.getElem_toArray, List.getElem_cons_succ, List.getElem_cons_zero, List.setIfInBounds_toArray, List.set_cons_zero, List.set_cons_succ])
  refine wpAnyH_ready (rs := [3]) (by kernel_rfl) (by simp) ?_
  refine AllReadyH.cons rfl (fun K hK => ?_) (AllReadyH.nil)
  all_goals (try simp only [List.getElem_toArray, List.getElem_cons_succ, List.getElem_cons_zero])
  (apply step_store_gw 10 hb2; rfl; rfl; rfl; rfl; exact hsz; kernel_rfl; rfl; rfl)
  intro w3 hzw3 hew3
  refine hK.out _ _ ((hew3.block _ (by omega)).trans hS) (fun hS => ?_)
  clear hK K
  (try simp only [Act.put])
  refine wpAnyH_ready (rs := [4]) (by kernel_rfl) (by simp) ?_
  refine AllReadyH.cons rfl (fun K hK => ?_) (AllReadyH.nil)
  all_goals (try simp only [List.getElem_toArray, List.getElem_cons_succ, List.getElem_cons_zero])
  (apply step_store_g1 ((hew3.block _ hne2).trans hc2); rfl; rfl; rfl; rfl; rfl; rfl; kernel_rfl; rfl)
  intro w4 hzw4 hew4
  refine hK.out _ _ ((hew4.block _ (by omega)).trans hS) (fun hS => ?_)
  clear hK K
  (try simp only [Act.put])
  refine wpAnyH_done (by kernel_rfl) ?_ _
  go_wp2_with fail
  refine ⟨rfl, .panicking [{ v := .iface 36 (.int .i64 3), recovered := true }], rfl, .tuple #[], results_none rfl _ _ _, rfl, rfl, ?_, ?_, ?_⟩
  · exact (hew4.block _ hne).trans hzw3
  · exact hzw4
  · exact (hk0.trans (kept_one hew3 TwoK.l)).trans (kept_one hew4 TwoK.r)
/-- what read answers where it is thrown -/
theorem doorHard {w0 w : World} {old : Array Value} {y : Value} (hb : w.heap[w0.heap.size]? = some (.cells old 48)) (hsz : old.size = 10) (hc : w.heap[w0.heap.size + 1]? = some (.cells #[y] 36)) (hB : Beh w0 w) {R : Ending → World → Prop}
    (hR : ∀ w', Beh w0 w' → R (.returned (.tuple #[.agg #[.int .i64 0, .int .i64 0, .int .i64 0, .int .i64 0, .int .i64 0, .int .i64 0, .int .i64 0, .int .i64 0, .slice none 0 0, .slice none 0 0], .int .i64 3])) w') (tmps : Array Value)
    (t4 : tmps.getD 4 undef = .pointer (some ⟨w0.heap.size, 0, none⟩)) (t5 : tmps.getD 5 undef = .pointer (some ⟨w0.heap.size + 1, 0, none⟩)) :
    Leaves Try.prog Try.f50 tmps R [{ target := .fn (.func 90) #[.pointer (some ⟨w0.heap.size, 0, none⟩), .pointer (some ⟨w0.heap.size + 1, 0, none⟩)], args := #[] }] (.panicking thr) w := by
  refine leaves_cons (f := 90) (args := #[.pointer (some ⟨w0.heap.size, 0, none⟩), .pointer (some ⟨w0.heap.size + 1, 0, none⟩)]) (by simp) (by simp [go_sem]) ?_
  refine (catchHard_thrown hb hsz hc (by omega)).mono ?_
  rintro e u' w'' ⟨rfl, rfl, hb2, hc2, hk⟩
  refine ⟨.tuple #[.agg #[.int .i64 0, .int .i64 0, .int .i64 0, .int .i64 0, .int .i64 0, .int .i64 0, .int .i64 0, .int .i64 0, .slice none 0 0, .slice none 0 0], .int .i64 3], results_rc rfl t4 t5 hb2 hc2 Try.underlying48 rfl (by kernel_rfl) (load_errno hc2), hR _ (hB.below.trans (hk.below hB.size (fun k hk => ?_)))⟩
  rcases hk with rfl | rfl <;> omega
end Go.Proofs.Ytjdebdfbjcpjgaa.Wr
end
