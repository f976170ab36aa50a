import Derived.Test.YtjdebdfbjcpjgaaWireW8
import Derived.Defers
import Derived.Recover
section
/- The landed written: what is thrown is caught. -/
namespace Go.Proofs.Ytjdebdfbjcpjgaa.Wr
open Go Go.RowKit Vl Kv Ss Cn Mem Lg Nm
attribute [local go_sem] Nm.run_bits Nm.run_frombits run_store_float
set_option maxRecDepth 100000 in
theorem results_cells2 {fn : Func} {p q : Tmp} {ty tz : TypeId} (h : fn.results = #[.cell p ty, .cell q tz]) (tmps : Array Value) (P : Program) (w : World) :
    (results fn tmps).run P w = ((asAddr (tmps.getD p undef)).run P w).andThen fun a w₁ => ((loadVar ty a).run P w₁).andThen fun x w₂ => ((asAddr (tmps.getD q undef)).run P w₂).andThen fun b w₃ => ((loadVar tz b).run P w₃).andThen fun y w₄ => .ok (.tuple #[x, y]) w₄ := by
  simp only [results, h]
  simp [Sem.run_bind, Result.andThen]
set_option maxRecDepth 100000 in
theorem run_assertE (v : Value) (w : World) : (Instr.typeAssert (.iface 36 v) 20 36 false).run Try.prog w = .ok v w := by
  simp [Instr.typeAssert, run_underlying Try.underlying36]
set_option maxRecDepth 100000 in
/-- where nothing was thrown, nothing is done -/
theorem catchW_idle (p0 p1 : Value) (w : World) :
    CallsD Try.prog 64 #[p0, p1] .returning w fun e u' w' => e = .returned (.tuple #[]) ∧ u' = .returning ∧ w' = w := by
  refine callsD_of_wpS Try.func64 rfl fun c₀ cs hu => ?_
  apply wpS_seq
  apply wpS_region
  simp [wpOpsS, go_sem, recoverD, hu, Try.ntmps64, Exit.thenS]
  show Code.wpS _ _ _ { tmps := #[p0, p1, .nilIface, .nilIface, undef, undef, undef, undef], defers := [] } _ _
  refine wpS_of_wp ?_
  go_wp2
  cases c₀
  simp_all [bodyPostS, results, Try.results64]
def TwoK (b c : Nat) : Nat → Prop := fun k => k = b ∨ k = c
theorem TwoK.l {b c : Nat} : TwoK b c b := .inl rfl
theorem TwoK.r {b c : Nat} : TwoK b c c := .inr rfl
set_option maxRecDepth 100000 in
theorem catchW_thrown {w : World} {b c : Nat} {x y : Value} {T U : TypeId} (hb : w.heap[b]? = some (.cells #[x] T)) (hc : w.heap[c]? = some (.cells #[y] U)) (hne : b ≠ c) :
    CallsD Try.prog 64 #[.pointer (some ⟨b, 0, none⟩), .pointer (some ⟨c, 0, none⟩)] (.panicking thr) w fun e u' w' =>
      e = .returned (.tuple #[]) ∧ u' = .panicking [{ v := .iface 36 (.int .i64 3), recovered := true }] ∧
      w'.heap[b]? = some (.cells #[.slice none 0 0] T) ∧ w'.heap[c]? = some (.cells #[.int .i64 3] U) ∧ Kept (TwoK b c) w w' := by
  refine callsD_of_wpS Try.func64 rfl fun c₀ cs hu => ?_
  unfold thr at hu
  apply wpS_seq
  apply wpS_region
  simp [wpOpsS, go_sem, recoverD, hu, Try.ntmps64, Exit.thenS]
  show Code.wpS _ _ _ { tmps := #[.pointer (some ⟨b, 0, none⟩), .pointer (some ⟨c, 0, none⟩), .iface 36 (.int .i64 3), .iface 36 (.int .i64 3), undef, undef, undef, undef], defers := [] } _ _
  refine wpS_of_wp ?_
  have hra := fun w => run_assertE (.int .i64 3) w
  have HB := Lib.hid hb
  have HC := Lib.hid hc
  have b0 := Bh.cells1 hb
  have b1 := Bh.frozen_of hb 0
  have c0 := Bh.cells1 hc
  have c1 := Bh.frozen_of hc 0
  have hne2 : c ≠ b := fun e => hne e.symm
  clear hb hc
  go_wp2_with fail
  go_region
  all_goals
    go_wp2_with fail
    refine ⟨rfl, .panicking [{ v := .iface 36 (.int .i64 3), recovered := true }], rfl, .tuple #[], results_none rfl _ _ _, rfl, rfl, ?_, ?_, ?_⟩
    · exact (Below.heap_setCell _ _ _ _ hne).trans (Bh.heap_set _ HB.out)
    · have : (w.setCell ⟨b, 0, none⟩ (.slice none 0 0)).heap[c]? = some (.cells #[y] U) := (Below.heap_setCell _ _ _ _ hne2).trans HC.out
      exact Bh.heap_set _ this
    · exact (((Kept.refl (TwoK b c) w).setAt (.inl TwoK.l) 0 _).setAt (.inl TwoK.r) 0 _).drewN 1
theorem own_set {w : World} {b k cap : Nat} {a : Option Addr} {l : List Nat} (h : OwnB 5 w b a cap l) (hk : b ≠ k) (i : Nat) (v : Value) : OwnB 5 (w.setCell ⟨k, i, none⟩ v) b a cap l :=
  h.kept ((Kept.refl (Only k) w).setAt (.inl rfl) i v) (fun _ e => hk e)
theorem four_q {w : World} {p q : Nat} {a b c d y : Value} {T : TypeId} (hq : w.heap[q]? = some (.cells #[y] T)) (hne : p ≠ q) : ((((w.setCell ⟨p, 0, none⟩ a).setCell ⟨q, 0, none⟩ b).setCell ⟨p, 0, none⟩ c).setCell ⟨q, 0, none⟩ d).cell? ⟨q, 0, none⟩ = some d := by
  have h1 : (w.setCell ⟨p, 0, none⟩ a).heap[q]? = _ := (Below.heap_setCell _ _ _ _ (fun e => hne e.symm)).trans hq
  have h2 := Bh.heap_set (i := 0) b h1
  have h3 : (((w.setCell ⟨p, 0, none⟩ a).setCell ⟨q, 0, none⟩ b).setCell ⟨p, 0, none⟩ c).heap[q]? = _ := (Below.heap_setCell _ _ _ _ (fun e => hne e.symm)).trans h2
  exact Bh.cells1 (Bh.heap_set (i := 0) d h3)
/-- what written answers -/
def EncTold (r : Option (Option (List Nat))) (w : World) (e : Ending) (w' : World) : Prop :=
  Beh w w' ∧ match r with
    | none => e = .returned (.tuple #[.slice none 0 0, .int .i64 3])
    | some none => e = .returned (.tuple #[.slice none 0 0, .int .i64 2])
    | some (some l) => (l.length ≤ 16384 → ∃ b a cap, e = .returned (.tuple #[.slice a l.length cap, .int .i64 0]) ∧ OwnB 5 w' b a cap l ∧ w.heap.size ≤ b) ∧ (16384 < l.length → e = .returned (.tuple #[.slice none 0 0, .int .i64 2]))
set_option maxRecDepth 100000 in
theorem door_thrown {w0 w : World} {bw : Nat} {o : Option (List Nat)} {F : List (Nat × Obj)} {b c : Nat} {x y : Value} (h : Yw w0 w bw o F) (hb : (b, .cells #[x] 33) ∈ F) (hc : (c, .cells #[y] 36) ∈ F) (hne : b ≠ c) (h0 : w0.heap.size ≤ b) (h1 : w0.heap.size ≤ c) (tmps : Array Value)
    (t4 : tmps.getD 2 undef = .pointer (some ⟨b, 0, none⟩)) (t5 : tmps.getD 3 undef = .pointer (some ⟨c, 0, none⟩)) :
    Leaves Try.prog Try.f31 tmps (EncTold none w0) [{ target := .fn (.func 64) #[.pointer (some ⟨b, 0, none⟩), .pointer (some ⟨c, 0, none⟩)], args := #[] }] (.panicking thr) w := by
  refine leaves_cons (f := 64) (args := #[.pointer (some ⟨b, 0, none⟩), .pointer (some ⟨c, 0, none⟩)]) (by simp) (by simp [go_sem]) ?_
  refine (catchW_thrown (h.get hb) (h.get hc) hne).mono ?_
  rintro e u' w'' ⟨rfl, rfl, hb2, hc2, hk⟩
  have x0 := Bh.cells1 hb2
  have y0 := Bh.cells1 hc2
  refine ⟨.tuple #[.slice none 0 0, .int .i64 3], ?_, h.beh.below.trans (hk.below h.beh.size (fun k hk => ?_)), rfl⟩
  · rw [results_cells2 rfl, t4, t5]
    go_simp
  · rcases hk with rfl | rfl
    · exact h0
    · exact h1
end Go.Proofs.Ytjdebdfbjcpjgaa.Wr
end
section
/- What written tells: its ways. -/
namespace Go.Proofs.Ytjdebdfbjcpjgaa.Wr
open Go Go.RowKit Vl Kv Ss Cn Mem Lg Nm
theorem EncTold.from {r : Option (Option (List Nat))} {w w1 w' : World} {e : Ending} (hb : Beh w w1) (h : EncTold r w1 e w') : EncTold r w e w' := by
  obtain ⟨h1, h2⟩ := h
  refine ⟨hb.trans h1, ?_⟩
  match r, h2 with
  | none, h2 => exact h2
  | some none, h2 => exact h2
  | some (some l), h2 =>
    refine ⟨fun h => ?_, h2.2⟩
    obtain ⟨b, a, cap, e1, e2, e3⟩ := h2.1 h
    exact ⟨b, a, cap, e1, e2, Nat.le_trans hb.size e3⟩
theorem EncTold.ways {r : Option (Option (List Nat))} {w w' : World} {e : Ending} (h : EncTold r w e w') : (∃ c : Int, e = .returned (.tuple #[.slice none 0 0, .int .i64 c])) ∨ ∃ (l : List Nat) (a : Option Addr) (cap : Nat), e = .returned (.tuple #[.slice a l.length cap, .int .i64 0]) := by
  obtain ⟨_, h2⟩ := h
  match r, h2 with
  | none, h2 => exact .inl ⟨3, h2⟩
  | some none, h2 => exact .inl ⟨2, h2⟩
  | some (some l), h2 =>
    by_cases h : l.length ≤ 16384
    · obtain ⟨b, a, cap, e1, _⟩ := h2.1 h
      exact .inr ⟨l, a, cap, e1⟩
    · exact .inl ⟨2, h2.2 (by omega)⟩
end Go.Proofs.Ytjdebdfbjcpjgaa.Wr
end
section
/- The landed written, told to write one entry. -/
namespace Go.Proofs.Ytjdebdfbjcpjgaa.Wr
open Go Go.RowKit Vl Kv Ss Cn Mem Lg Nm
attribute [local go_sem] Nm.run_bits Nm.run_frombits run_store_float
variable {w : World} {r : Option (Option (List Nat))}
set_option maxHeartbeats 3200000 in
set_option maxRecDepth 100000 in
theorem written_Entry {pa : Addr} (HG : ∀ (bw : Nat) (wr : World) (F : List (Nat × Obj)), Yw w wr bw (some []) F → Calls Try.prog 32 #[.pointer (some ⟨bw, 0, none⟩), .pointer (some pa)] wr (Wrote w bw F r)) (hr : ∀ l, r = some (some l) → l.length ≤ 900000000) :
    Calls Try.prog 31 #[.func (Fn.func 32) #[] #[.pointer (some pa)]] w (EncTold r w) := by
  have HGG := Lib.hid HG
  have HR := Lib.hid hr
  have HB := Lib.hid (Bh.Bx.two w (.cells #[.slice none 0 0] 33) (.cells #[.int .i64 0] 36))
  have HX := Lib.hid (Yw.new (T := 111) (F := [(w.heap.size, .cells #[.slice none 0 0] 33), (w.heap.size + 1, .cells #[.int .i64 0] 36)]) HB.out.beh (fun x hx => by
    simp only [List.mem_cons, List.not_mem_nil, or_false] at hx
    rcases hx with rfl | rfl
    · exact HB.out.b0
    · exact HB.out.b1))
  have hsz : ((w.alloc (.cells #[.slice none 0 0] 33)).alloc (.cells #[.int .i64 0] 36)).heap.size = w.heap.size + 1 + 1 := by simp
  rw [hsz] at HX
  clear hsz
  have hmf : ∀ (fn : Fn) (first cap : Array Value) (w : World), (Instr.makeFunc fn first cap).run Try.prog w = .ok (.func fn first cap) w := fun _ _ _ _ => rfl
  clear HG hr
  have hin1 : Hid ((w.heap.size, .cells #[.slice none 0 0] 33) ∈ [(w.heap.size, (.cells #[.slice none 0 0] 33 : Obj)), (w.heap.size + 1, .cells #[.int .i64 0] 36)]) := List.mem_cons_self ..
  have hin2 : Hid ((w.heap.size + 1, .cells #[.int .i64 0] 36) ∈ [(w.heap.size, (.cells #[.slice none 0 0] 33 : Obj)), (w.heap.size + 1, .cells #[.int .i64 0] 36)]) := List.mem_cons_of_mem _ (List.mem_cons_self ..)
  go_enter_defers Try.func31, Try.ntmps31
  go_wp2_with fail
  refine Calls.mono (HGG.out _ _ _ HX.out) ?_
  rintro e w1 HW
  clear HX
  cases r with
  | none =>
    obtain ⟨rfl, o, hx⟩ := HW
    go_wp2_with fail
    exact door_thrown hx hin1.out hin2.out (by omega) (Nat.le_refl _) (Nat.le_succ _) _ rfl rfl
  | some o =>
    obtain ⟨rfl, hx⟩ := HW
    have HX := Lib.hid hx
    clear hx
    cases o with
    | none =>
      go_wp2_with fail
      refine Calls.mono (yBytes_long HX.out) ?_
      rintro e w2 ⟨rfl, rfl⟩
      have hb := HX.out.get hin1.out
      have hc := HX.out.get hin2.out
      have HCQ := Lib.hid hc
      have b0 := Bh.cells1 hb
      have b1 := Bh.frozen_of hb 0
      have c0 := Bh.cells1 hc
      have c1 := Bh.frozen_of hc 0
      clear hb hc
      go_wp2_with fail
      refine leaves_cons (f := 64) (args := #[.pointer (some ⟨w.heap.size, 0, none⟩), .pointer (some ⟨w.heap.size + 1, 0, none⟩)]) (by simp) (by simp [go_sem]) ?_
      refine (catchW_idle _ _ _).mono ?_
      rintro e u' w'' ⟨rfl, rfl, rfl⟩
      refine ⟨.tuple #[.slice none 0 0, .int .i64 2], ?_, ?_, rfl⟩
      · rw [results_cells2 rfl]
        have y0 := fun a b c d => four_q (p := w.heap.size) (a := a) (b := b) (c := c) (d := d) HCQ.out (by omega)
        go_simp
      · have hbb := HX.out.beh
        repeat' (first | with_reducible exact hbb | with_reducible refine Kv.Beh.set ?_ (by omega) _ _)
    | some l =>
      have hl := HR.out l rfl
      go_wp2_with fail
      refine Calls.mono (yBytes HX.out (by omega)) ?_
      rintro e w2 ⟨bq, aq, cq, rfl, ho, hnew, hbeh⟩
      have HY := Lib.hid (HX.out.on hbeh)
      have HOW := Lib.hid ho
      have hnew0 : w.heap.size + 1 < bq := by
        have := heap_lt (HX.out.get hin2.out)
        omega
      clear ho hbeh hnew
      have hb := HY.out.get hin1.out
      have hc := HY.out.get hin2.out
      have HCQ := Lib.hid hc
      have b0 := Bh.cells1 hb
      have b1 := Bh.frozen_of hb 0
      have c0 := Bh.cells1 hc
      have c1 := Bh.frozen_of hc 0
      clear hb hc HX
      by_cases h16 : 16384 < l.length
      · have d1 : decide ((16384 : Int) < (l.length : Int)) = true := decide_eq_true (by omega)
        go_wp2_with fail
        refine leaves_cons (f := 64) (args := #[.pointer (some ⟨w.heap.size, 0, none⟩), .pointer (some ⟨w.heap.size + 1, 0, none⟩)]) (by simp) (by simp [go_sem]) ?_
        refine (catchW_idle _ _ _).mono ?_
        rintro e u' w'' ⟨rfl, rfl, rfl⟩
        refine ⟨.tuple #[.slice none 0 0, .int .i64 2], ?_, ?_, fun h => by omega, fun _ => rfl⟩
        · rw [results_cells2 rfl]
          have y0 := fun a b c d => four_q (p := w.heap.size) (a := a) (b := b) (c := c) (d := d) HCQ.out (by omega)
          go_simp
        · have hbb := HY.out.beh
          repeat' (first | with_reducible exact hbb | with_reducible refine Kv.Beh.set ?_ (by omega) _ _)
      · have d1 : decide ((16384 : Int) < (l.length : Int)) = false := decide_eq_false (by omega)
        go_wp2_with fail
        refine leaves_cons (f := 64) (args := #[.pointer (some ⟨w.heap.size, 0, none⟩), .pointer (some ⟨w.heap.size + 1, 0, none⟩)]) (by simp) (by simp [go_sem]) ?_
        refine (catchW_idle _ _ _).mono ?_
        rintro e u' w'' ⟨rfl, rfl, rfl⟩
        refine ⟨.tuple #[.slice aq l.length cq, .int .i64 0], ?_, ?_, fun _ => ⟨bq, aq, cq, rfl, ?_, by omega⟩, fun h => by omega⟩
        · rw [results_cells2 rfl]
          have y0 := fun a b c d => four_q (p := w.heap.size) (a := a) (b := b) (c := c) (d := d) HCQ.out (by omega)
          go_simp
        · have hbb := HY.out.beh
          repeat' (first | with_reducible exact hbb | with_reducible refine Kv.Beh.set ?_ (by omega) _ _)
        · have how := HOW.out
          repeat' (first | with_reducible exact how | refine own_set ?_ (by omega) _ _)
end Go.Proofs.Ytjdebdfbjcpjgaa.Wr
end
