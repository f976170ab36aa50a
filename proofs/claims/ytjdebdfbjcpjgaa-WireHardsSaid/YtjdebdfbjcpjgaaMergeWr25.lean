import Derived.Test.YtjdebdfbjcpjgaaMergeWr23
section
/- The landed written, told to write one hard. -/
namespace Go.Proofs.Ytjdebdfbjcpjgaa.Wr
open Go Go.RowKit Vl Kv Ss Cn Mem Lg Nm
attribute [local go_sem] Nm.run_bits Nm.run_frombits run_store_float
variable {w : World} {r : Option (Option (List Nat))}
set_option maxHeartbeats 3200000 in
set_option maxRecDepth 100000 in
theorem written_Hard {pa : Addr} (HG : ∀ (bw : Nat) (wr : World) (F : List (Nat × Obj)), Yw w wr bw (some []) F → Calls Try.prog 43 #[.pointer (some ⟨bw, 0, none⟩), .pointer (some pa)] wr (Wrote w bw F r)) (hr : ∀ l, r = some (some l) → l.length ≤ 900000000) :
    Calls Try.prog 31 #[.func (Fn.func 43) #[] #[.pointer (some pa)]] w (EncTold r w) := by
  have HGG := Lib.hid HG
  have HR := Lib.hid hr
  have HB := Lib.hid (Bh.Bx.two w (.cells #[.slice none 0 0] 33) (.cells #[.int .i64 0] 36))
  have HX := Lib.hid (Yw.new (T := 111) (F := [(w.heap.size, .cells #[.slice none 0 0] 33), (w.heap.size + 1, .cells #[.int .i64 0] 36)]) HB.out.beh (fun x hx => by
    simp only [List.mem_cons, List.not_mem_nil, or_false] at hx
    rcases hx with rfl | rfl
    · exact HB.out.b0
    · exact HB.out.b1))
  have hsz : ((w.alloc (.cells #[.slice none 0 0] 33)).alloc (.cells #[.int .i64 0] 36)).heap.size = w.heap.size + 1 + 1 := by simp
  rw [hsz] at HX
  clear hsz
  have hmf : ∀ (fn : Fn) (first cap : Array Value) (w : World), (Instr.makeFunc fn first cap).run Try.prog w = .ok (.func fn first cap) w := fun _ _ _ _ => rfl
  clear HG hr
  have hin1 : Hid ((w.heap.size, .cells #[.slice none 0 0] 33) ∈ [(w.heap.size, (.cells #[.slice none 0 0] 33 : Obj)), (w.heap.size + 1, .cells #[.int .i64 0] 36)]) := List.mem_cons_self ..
  have hin2 : Hid ((w.heap.size + 1, .cells #[.int .i64 0] 36) ∈ [(w.heap.size, (.cells #[.slice none 0 0] 33 : Obj)), (w.heap.size + 1, .cells #[.int .i64 0] 36)]) := List.mem_cons_of_mem _ (List.mem_cons_self ..)
  go_enter_defers Try.func31, Try.ntmps31
  go_wp2_with fail
  refine Calls.mono (HGG.out _ _ _ HX.out) ?_
  rintro e w1 HW
  clear HX
  cases r with
  | none =>
    obtain ⟨rfl, o, hx⟩ := HW
    go_wp2_with fail
    exact door_thrown hx hin1.out hin2.out (by omega) (Nat.le_refl _) (Nat.le_succ _) _ rfl rfl
  | some o =>
    obtain ⟨rfl, hx⟩ := HW
    have HX := Lib.hid hx
    clear hx
    cases o with
    | none =>
      go_wp2_with fail
      refine Calls.mono (yBytes_long HX.out) ?_
      rintro e w2 ⟨rfl, rfl⟩
      have hb := HX.out.get hin1.out
      have hc := HX.out.get hin2.out
      have HCQ := Lib.hid hc
      have b0 := Bh.cells1 hb
      have b1 := Bh.frozen_of hb 0
      have c0 := Bh.cells1 hc
      have c1 := Bh.frozen_of hc 0
      clear hb hc
      go_wp2_with fail
      refine leaves_cons (f := 64) (args := #[.pointer (some ⟨w.heap.size, 0, none⟩), .pointer (some ⟨w.heap.size + 1, 0, none⟩)]) (by simp) (by simp [go_sem]) ?_
      refine (catchW_idle _ _ _).mono ?_
      rintro e u' w'' ⟨rfl, rfl, rfl⟩
      refine ⟨.tuple #[.slice none 0 0, .int .i64 2], ?_, ?_, rfl⟩
      · rw [results_cells2 rfl]
        have y0 := fun a b c d => four_q (p := w.heap.size) (a := a) (b := b) (c := c) (d := d) HCQ.out (by omega)
        go_simp
      · have hbb := HX.out.beh
        repeat' (first | with_reducible exact hbb | with_reducible refine Kv.Beh.set ?_ (by omega) _ _)
    | some l =>
      have hl := HR.out l rfl
      go_wp2_with fail
      refine Calls.mono (yBytes HX.out (by omega)) ?_
      rintro e w2 ⟨bq, aq, cq, rfl, ho, hnew, hbeh⟩
      have HY := Lib.hid (HX.out.on hbeh)
      have HOW := Lib.hid ho
      have hnew0 : w.heap.size + 1 < bq := by
        have := heap_lt (HX.out.get hin2.out)
        omega
      clear ho hbeh hnew
      have hb := HY.out.get hin1.out
      have hc := HY.out.get hin2.out
      have HCQ := Lib.hid hc
      have b0 := Bh.cells1 hb
      have b1 := Bh.frozen_of hb 0
      have c0 := Bh.cells1 hc
      have c1 := Bh.frozen_of hc 0
      clear hb hc HX
      by_cases h16 : 16384 < l.length
      · have d1 : decide ((16384 : Int) < (l.length : Int)) = true := decide_eq_true (by omega)
        go_wp2_with fail
        refine leaves_cons (f := 64) (args := #[.pointer (some ⟨w.heap.size, 0, none⟩), .pointer (some ⟨w.heap.size + 1, 0, none⟩)]) (by simp) (by simp [go_sem]) ?_
        refine (catchW_idle _ _ _).mono ?_
        rintro e u' w'' ⟨rfl, rfl, rfl⟩
        refine ⟨.tuple #[.slice none 0 0, .int .i64 2], ?_, ?_, fun h => by omega, fun _ => rfl⟩
        · rw [results_cells2 rfl]
          have y0 := fun a b c d => four_q (p := w.heap.size) (a := a) (b := b) (c := c) (d := d) HCQ.out (by omega)
          go_simp
        · have hbb := HY.out.beh
          repeat' (first | with_reducible exact hbb | with_reducible refine Kv.Beh.set ?_ (by omega) _ _)
      · have d1 : decide ((16384 : Int) < (l.length : Int)) = false := decide_eq_false (by omega)
        go_wp2_with fail
        refine leaves_cons (f := 64) (args := #[.pointer (some ⟨w.heap.size, 0, none⟩), .pointer (some ⟨w.heap.size + 1, 0, none⟩)]) (by simp) (by simp [go_sem]) ?_
        refine (catchW_idle _ _ _).mono ?_
        rintro e u' w'' ⟨rfl, rfl, rfl⟩
        refine ⟨.tuple #[.slice aq l.length cq, .int .i64 0], ?_, ?_, fun _ => ⟨bq, aq, cq, rfl, ?_, by omega⟩, fun h => by omega⟩
        · rw [results_cells2 rfl]
          have y0 := fun a b c d => four_q (p := w.heap.size) (a := a) (b := b) (c := c) (d := d) HCQ.out (by omega)
          go_simp
        · have hbb := HY.out.beh
          repeat' (first | with_reducible exact hbb | with_reducible refine Kv.Beh.set ?_ (by omega) _ _)
        · have how := HOW.out
          repeat' (first | with_reducible exact how | refine own_set ?_ (by omega) _ _)
end Go.Proofs.Ytjdebdfbjcpjgaa.Wr
end
section
/- The landed Hard: its bytes, or an error. -/
namespace Go.Proofs.Ytjdebdfbjcpjgaa.Wr
open Go Go.RowKit Vl Kv Ss Cn Mem Lg Nm
attribute [local go_sem] Nm.run_bits Nm.run_frombits run_store_float
theorem app_some {o : Option (List Nat)} {m l : List Nat} (h : app o m = some l) : ∃ k, o = some k ∧ l = k ++ m := by
  cases o with
  | none => cases h
  | some k => injection h with h; exact ⟨k, rfl, h.symm⟩
theorem lenO_of {o : Option (List Nat)} {l : List Nat} (h : o = some l) : l.length = lenO o := by subst h; rfl
theorem hR_le {x : H} (h : FitS x) {l : List Nat} (hl : hR (some []) x = some (some l)) : l.length ≤ 900000000 := by
  unfold hR at hl
  by_cases hk : okL x.log = true
  · rw [if_pos hk] at hl
    injection hl with hl
    rw [lenO_of hl]
    have h1 := lenO_app (appT (app (some []) (hHead x)) x.snap) (listB x.log)
    have h2 := lenO_appT (app (some []) (hHead x)) x.snap
    have h3 := lenO_app (some []) (hHead x)
    have h4 : (hHead x).length ≤ 80 := by
      unfold hHead
      have a1 := (Pk.intB_len x.term).2
      have a2 := (Pk.intB_len x.vote).2
      have a3 := (Pk.intB_len x.base).2
      have a4 := (Pk.intB_len x.bterm).2
      have a5 := cConf_le x.conf
      simp only [List.length_append]
      omega
    have h5 := listB_le h.log
    have h6 : x.log.length * 60000 ≤ 9000 * 60000 := Nat.mul_le_mul_right _ h.len
    have h7 : lenO (some ([] : List Nat)) = 0 := rfl
    omega
  · rw [if_neg hk] at hl; cases hl
set_option maxHeartbeats 1600000 in
set_option maxRecDepth 100000 in
theorem Hard1_any {w0 wr : World} {bw n : Nat} {F : List (Nat × Obj)} {h : H} {p : Hp} (hp : HardAt w0 h p) (hf : FitS h) (hn : w0.heap[n]? = some (h.obj p)) (hy : Yw w0 wr bw (some []) F) :
    Calls Try.prog 43 #[.pointer (some ⟨bw, 0, none⟩), .pointer (some ⟨n, 0, none⟩)] wr (Wrote w0 bw F (hR (some []) h)) := by
  have HB := hy.beh.box hn
  have HC : Hid (Calls Try.prog 44 #[.pointer (some ⟨bw, 0, none⟩), h.val p] wr (Wrote w0 bw F (hR (some []) h))) := hard_any hy hp hf (by show (0 : Nat) ≤ _; omega)
  generalize hR (some []) h = r at *
  clear hy hn
  obtain ⟨c0, c1, c2, c3, c4, c5, c6, c7, c8, c9⟩ := Lg.cells10h (h := h) (p := p) HB
  cases r with
  | none =>
    go_enter Try.func43, Try.ntmps43
    go_wp2_with (first | (go_at_call 44; refine Calls.mono HC.out ?_; rintro e w' ⟨rfl, hx⟩))
    exact ⟨rfl, rfl, hx⟩
  | some o =>
    go_enter Try.func43, Try.ntmps43
    go_wp2_with (first | (go_at_call 44; refine Calls.mono HC.out ?_; rintro e w' ⟨rfl, hx⟩; have HX := Lib.hid hx; clear hx))
    go_end0
    exact ⟨rfl, HX.out⟩
set_option maxHeartbeats 1600000 in
set_option maxRecDepth 100000 in
theorem Hard_any {h : H} {p : Hp} {w : World} (hp : HardAt w h p) (hf : FitS h) :
    Calls Try.prog 19 #[h.val p] w (EncTold (hR (some []) h) w) := by
  have hmf : ∀ (fn : Fn) (first cap : Array Value) (w : World), (Instr.makeFunc fn first cap).run Try.prog w = .ok (.func fn first cap) w := fun _ _ _ _ => rfl
  have hb := alloc_here (w := w) (h.obj p) rfl
  have HW : Hid (Calls Try.prog 31 #[.func (Fn.func 43) #[] #[.pointer (some ⟨w.heap.size, 0, none⟩)]] (w.alloc (h.obj p)) (EncTold (hR (some []) h) (w.alloc (h.obj p)))) :=
    written_Hard (fun bw wr F hy => Hard1_any (hp.on (below_alloc _ _)) hf hb hy) (fun l hl => hR_le hf hl)
  generalize hR (some []) h = r at *
  clear hp hf hb
  go_enter Try.func19, Try.ntmps19
  go_wp2_with fail
  refine Calls.mono HW.out ?_
  rintro e w' hx
  have hx := EncTold.from (below_alloc w _) hx
  clear HW
  rcases EncTold.ways hx with ⟨c, rfl⟩ | ⟨l, a, cap, rfl⟩
  · have HX := Lib.hid hx
    clear hx
    go_wp2_with fail
    go_ret2
    exact HX.out
  · have HX := Lib.hid hx
    clear hx
    go_wp2_with fail
    go_ret2
    exact HX.out
end Go.Proofs.Ytjdebdfbjcpjgaa.Wr
end
section
/- The landed written, told to write one msg. -/
namespace Go.Proofs.Ytjdebdfbjcpjgaa.Wr
open Go Go.RowKit Vl Kv Ss Cn Mem Lg Nm
attribute [local go_sem] Nm.run_bits Nm.run_frombits run_store_float
variable {w : World} {r : Option (Option (List Nat))}
set_option maxHeartbeats 3200000 in
set_option maxRecDepth 100000 in
theorem written_Msg {pa : Addr} (HG : ∀ (bw : Nat) (wr : World) (F : List (Nat × Obj)), Yw w wr bw (some []) F → Calls Try.prog 58 #[.pointer (some ⟨bw, 0, none⟩), .pointer (some pa)] wr (Wrote w bw F r)) (hr : ∀ l, r = some (some l) → l.length ≤ 900000000) :
    Calls Try.prog 31 #[.func (Fn.func 58) #[] #[.pointer (some pa)]] w (EncTold r w) := by
  have HGG := Lib.hid HG
  have HR := Lib.hid hr
  have HB := Lib.hid (Bh.Bx.two w (.cells #[.slice none 0 0] 33) (.cells #[.int .i64 0] 36))
  have HX := Lib.hid (Yw.new (T := 111) (F := [(w.heap.size, .cells #[.slice none 0 0] 33), (w.heap.size + 1, .cells #[.int .i64 0] 36)]) HB.out.beh (fun x hx => by
    simp only [List.mem_cons, List.not_mem_nil, or_false] at hx
    rcases hx with rfl | rfl
    · exact HB.out.b0
    · exact HB.out.b1))
  have hsz : ((w.alloc (.cells #[.slice none 0 0] 33)).alloc (.cells #[.int .i64 0] 36)).heap.size = w.heap.size + 1 + 1 := by simp
  rw [hsz] at HX
  clear hsz
  have hmf : ∀ (fn : Fn) (first cap : Array Value) (w : World), (Instr.makeFunc fn first cap).run Try.prog w = .ok (.func fn first cap) w := fun _ _ _ _ => rfl
  clear HG hr
  have hin1 : Hid ((w.heap.size, .cells #[.slice none 0 0] 33) ∈ [(w.heap.size, (.cells #[.slice none 0 0] 33 : Obj)), (w.heap.size + 1, .cells #[.int .i64 0] 36)]) := List.mem_cons_self ..
  have hin2 : Hid ((w.heap.size + 1, .cells #[.int .i64 0] 36) ∈ [(w.heap.size, (.cells #[.slice none 0 0] 33 : Obj)), (w.heap.size + 1, .cells #[.int .i64 0] 36)]) := List.mem_cons_of_mem _ (List.mem_cons_self ..)
  go_enter_defers Try.func31, Try.ntmps31
  go_wp2_with fail
  refine Calls.mono (HGG.out _ _ _ HX.out) ?_
  rintro e w1 HW
  clear HX
  cases r with
  | none =>
    obtain ⟨rfl, o, hx⟩ := HW
    go_wp2_with fail
    exact door_thrown hx hin1.out hin2.out (by omega) (Nat.le_refl _) (Nat.le_succ _) _ rfl rfl
  | some o =>
    obtain ⟨rfl, hx⟩ := HW
    have HX := Lib.hid hx
    clear hx
    cases o with
    | none =>
      go_wp2_with fail
      refine Calls.mono (yBytes_long HX.out) ?_
      rintro e w2 ⟨rfl, rfl⟩
      have hb := HX.out.get hin1.out
      have hc := HX.out.get hin2.out
      have HCQ := Lib.hid hc
      have b0 := Bh.cells1 hb
      have b1 := Bh.frozen_of hb 0
      have c0 := Bh.cells1 hc
      have c1 := Bh.frozen_of hc 0
      clear hb hc
      go_wp2_with fail
      refine leaves_cons (f := 64) (args := #[.pointer (some ⟨w.heap.size, 0, none⟩), .pointer (some ⟨w.heap.size + 1, 0, none⟩)]) (by simp) (by simp [go_sem]) ?_
      refine (catchW_idle _ _ _).mono ?_
      rintro e u' w'' ⟨rfl, rfl, rfl⟩
      refine ⟨.tuple #[.slice none 0 0, .int .i64 2], ?_, ?_, rfl⟩
      · rw [results_cells2 rfl]
        have y0 := fun a b c d => four_q (p := w.heap.size) (a := a) (b := b) (c := c) (d := d) HCQ.out (by omega)
        go_simp
      · have hbb := HX.out.beh
        repeat' (first | with_reducible exact hbb | with_reducible refine Kv.Beh.set ?_ (by omega) _ _)
    | some l =>
      have hl := HR.out l rfl
      go_wp2_with fail
      refine Calls.mono (yBytes HX.out (by omega)) ?_
      rintro e w2 ⟨bq, aq, cq, rfl, ho, hnew, hbeh⟩
      have HY := Lib.hid (HX.out.on hbeh)
      have HOW := Lib.hid ho
      have hnew0 : w.heap.size + 1 < bq := by
        have := heap_lt (HX.out.get hin2.out)
        omega
      clear ho hbeh hnew
      have hb := HY.out.get hin1.out
      have hc := HY.out.get hin2.out
      have HCQ := Lib.hid hc
      have b0 := Bh.cells1 hb
      have b1 := Bh.frozen_of hb 0
      have c0 := Bh.cells1 hc
      have c1 := Bh.frozen_of hc 0
      clear hb hc HX
      by_cases h16 : 16384 < l.length
      · have d1 : decide ((16384 : Int) < (l.length : Int)) = true := decide_eq_true (by omega)
        go_wp2_with fail
        refine leaves_cons (f := 64) (args := #[.pointer (some ⟨w.heap.size, 0, none⟩), .pointer (some ⟨w.heap.size + 1, 0, none⟩)]) (by simp) (by simp [go_sem]) ?_
        refine (catchW_idle _ _ _).mono ?_
        rintro e u' w'' ⟨rfl, rfl, rfl⟩
        refine ⟨.tuple #[.slice none 0 0, .int .i64 2], ?_, ?_, fun h => by omega, fun _ => rfl⟩
        · rw [results_cells2 rfl]
          have y0 := fun a b c d => four_q (p := w.heap.size) (a := a) (b := b) (c := c) (d := d) HCQ.out (by omega)
          go_simp
        · have hbb := HY.out.beh
          repeat' (first | with_reducible exact hbb | with_reducible refine Kv.Beh.set ?_ (by omega) _ _)
      · have d1 : decide ((16384 : Int) < (l.length : Int)) = false := decide_eq_false (by omega)
        go_wp2_with fail
        refine leaves_cons (f := 64) (args := #[.pointer (some ⟨w.heap.size, 0, none⟩), .pointer (some ⟨w.heap.size + 1, 0, none⟩)]) (by simp) (by simp [go_sem]) ?_
        refine (catchW_idle _ _ _).mono ?_
        rintro e u' w'' ⟨rfl, rfl, rfl⟩
        refine ⟨.tuple #[.slice aq l.length cq, .int .i64 0], ?_, ?_, fun _ => ⟨bq, aq, cq, rfl, ?_, by omega⟩, fun h => by omega⟩
        · rw [results_cells2 rfl]
          have y0 := fun a b c d => four_q (p := w.heap.size) (a := a) (b := b) (c := c) (d := d) HCQ.out (by omega)
          go_simp
        · have hbb := HY.out.beh
          repeat' (first | with_reducible exact hbb | with_reducible refine Kv.Beh.set ?_ (by omega) _ _)
        · have how := HOW.out
          repeat' (first | with_reducible exact how | refine own_set ?_ (by omega) _ _)
end Go.Proofs.Ytjdebdfbjcpjgaa.Wr
end
