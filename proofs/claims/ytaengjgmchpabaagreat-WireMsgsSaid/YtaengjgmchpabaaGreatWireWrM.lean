import Derived.Test.YtaengjgmchpabaaGreatWireW8
import Derived.Test.YtaengjgmchpabaaGreatMergeWr36
/- The landed written, told to write one msg. -/
namespace Go.Proofs.YtaengjgmchpabaaGreat.Wr
open Go Go.RowKit Vl Kv Ss Cn Mem Lg Nm
attribute [local go_sem] Nm.run_bits Nm.run_frombits run_store_float
variable {w : World} {r : Option (Option (List Nat))}
set_option maxHeartbeats 3200000 in
set_option maxRecDepth 100000 in
theorem written_Msg {pa : Addr} (HG : ∀ (bw : Nat) (wr : World) (F : List (Nat × Obj)), Yw w wr bw (some []) F → Calls Tryz.prog 16 #[.pointer (some ⟨bw, 0, none⟩), .pointer (some pa)] wr (Wrote w bw F r)) (hr : ∀ l, r = some (some l) → l.length ≤ 9000000000) :
    Calls Tryz.prog 15 #[.func (Fn.func 16) #[] #[.pointer (some pa)]] w (EncTold r w) := by
  have HGG := Lib.hid HG
  have HR := Lib.hid hr
  have HB := Lib.hid (Bh.Bx.two w (.cells #[.slice none 0 0] 25) (.cells #[.int .i64 0] 30))
  have HX := Lib.hid (Yw.new (T := 76) (F := [(w.heap.size, .cells #[.slice none 0 0] 25), (w.heap.size + 1, .cells #[.int .i64 0] 30)]) HB.out.beh (fun x hx => by
    simp only [List.mem_cons, List.not_mem_nil, or_false] at hx
    rcases hx with rfl | rfl
    · exact HB.out.b0
    · exact HB.out.b1))
  have hsz : ((w.alloc (.cells #[.slice none 0 0] 25)).alloc (.cells #[.int .i64 0] 30)).heap.size = w.heap.size + 1 + 1 := by simp
  rw [hsz] at HX
  clear hsz
  have hmf : ∀ (fn : Fn) (first cap : Array Value) (w : World), (Instr.makeFunc fn first cap).run Tryz.prog w = .ok (.func fn first cap) w := fun _ _ _ _ => rfl
  clear HG hr
  have hin1 : Hid ((w.heap.size, .cells #[.slice none 0 0] 25) ∈ [(w.heap.size, (.cells #[.slice none 0 0] 25 : Obj)), (w.heap.size + 1, .cells #[.int .i64 0] 30)]) := List.mem_cons_self ..
  have hin2 : Hid ((w.heap.size + 1, .cells #[.int .i64 0] 30) ∈ [(w.heap.size, (.cells #[.slice none 0 0] 25 : Obj)), (w.heap.size + 1, .cells #[.int .i64 0] 30)]) := List.mem_cons_of_mem _ (List.mem_cons_self ..)
  go_enter_defers Tryz.func15, Tryz.ntmps15
  go_wp2_with fail
  refine Calls.mono (HGG.out _ _ _ HX.out) ?_
  rintro e w1 HW
  clear HX
  cases r with
  | none =>
    obtain ⟨rfl, o, hx⟩ := HW
    go_wp2_with fail
    exact door_thrown hx hin1.out hin2.out (by omega) (Nat.le_refl _) (Nat.le_succ _) _ rfl rfl
  | some o =>
    obtain ⟨rfl, hx⟩ := HW
    have HX := Lib.hid hx
    clear hx
    cases o with
    | none =>
      go_wp2_with fail
      refine Calls.mono (yBytes_long HX.out) ?_
      rintro e w2 ⟨rfl, rfl⟩
      have hb := HX.out.get hin1.out
      have hc := HX.out.get hin2.out
      have HCQ := Lib.hid hc
      have b0 := Bh.cells1 hb
      have b1 := Bh.frozen_of hb 0
      have c0 := Bh.cells1 hc
      have c1 := Bh.frozen_of hc 0
      clear hb hc
      go_wp2_with fail
      refine leaves_cons (f := 33) (args := #[.pointer (some ⟨w.heap.size, 0, none⟩), .pointer (some ⟨w.heap.size + 1, 0, none⟩)]) (by simp) (by simp [go_sem]) ?_
      refine (catchW_idle _ _ _).mono ?_
      rintro e u' w'' ⟨rfl, rfl, rfl⟩
      refine ⟨.tuple #[.slice none 0 0, .int .i64 2], ?_, ?_, rfl⟩
      · rw [results_cells2 rfl]
        have y0 := fun a b c d => four_q (p := w.heap.size) (a := a) (b := b) (c := c) (d := d) HCQ.out (by omega)
        go_simp
      · have hbb := HX.out.beh
        repeat' (first | with_reducible exact hbb | with_reducible refine Kv.Beh.set ?_ (by omega) _ _)
    | some l =>
      have hl := HR.out l rfl
      go_wp2_with fail
      refine Calls.mono (yBytes HX.out (by omega)) ?_
      rintro e w2 ⟨bq, aq, cq, rfl, ho, hnew, hbeh⟩
      have HY := Lib.hid (HX.out.on hbeh)
      have HOW := Lib.hid ho
      have hnew0 : w.heap.size + 1 < bq := by
        have := heap_lt (HX.out.get hin2.out)
        omega
      clear ho hbeh hnew
      have hb := HY.out.get hin1.out
      have hc := HY.out.get hin2.out
      have HCQ := Lib.hid hc
      have b0 := Bh.cells1 hb
      have b1 := Bh.frozen_of hb 0
      have c0 := Bh.cells1 hc
      have c1 := Bh.frozen_of hc 0
      clear hb hc HX
      by_cases h16 : 16384 < l.length
      · have d1 : decide ((16384 : Int) < (l.length : Int)) = true := decide_eq_true (by omega)
        go_wp2_with fail
        refine leaves_cons (f := 33) (args := #[.pointer (some ⟨w.heap.size, 0, none⟩), .pointer (some ⟨w.heap.size + 1, 0, none⟩)]) (by simp) (by simp [go_sem]) ?_
        refine (catchW_idle _ _ _).mono ?_
        rintro e u' w'' ⟨rfl, rfl, rfl⟩
        refine ⟨.tuple #[.slice none 0 0, .int .i64 2], ?_, ?_, fun h => by omega, fun _ => rfl⟩
        · rw [results_cells2 rfl]
          have y0 := fun a b c d => four_q (p := w.heap.size) (a := a) (b := b) (c := c) (d := d) HCQ.out (by omega)
          go_simp
        · have hbb := HY.out.beh
          repeat' (first | with_reducible exact hbb | with_reducible refine Kv.Beh.set ?_ (by omega) _ _)
      · have d1 : decide ((16384 : Int) < (l.length : Int)) = false := decide_eq_false (by omega)
        go_wp2_with fail
        refine leaves_cons (f := 33) (args := #[.pointer (some ⟨w.heap.size, 0, none⟩), .pointer (some ⟨w.heap.size + 1, 0, none⟩)]) (by simp) (by simp [go_sem]) ?_
        refine (catchW_idle _ _ _).mono ?_
        rintro e u' w'' ⟨rfl, rfl, rfl⟩
        refine ⟨.tuple #[.slice aq l.length cq, .int .i64 0], ?_, ?_, fun _ => ⟨bq, aq, cq, rfl, ?_, by omega⟩, fun h => by omega⟩
        · rw [results_cells2 rfl]
          have y0 := fun a b c d => four_q (p := w.heap.size) (a := a) (b := b) (c := c) (d := d) HCQ.out (by omega)
          go_simp
        · have hbb := HY.out.beh
          repeat' (first | with_reducible exact hbb | with_reducible refine Kv.Beh.set ?_ (by omega) _ _)
        · have how := HOW.out
          repeat' (first | with_reducible exact how | refine own_set ?_ (by omega) _ _)
end Go.Proofs.YtaengjgmchpabaaGreat.Wr
