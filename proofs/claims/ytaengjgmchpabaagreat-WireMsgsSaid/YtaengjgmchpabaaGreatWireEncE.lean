import Derived.Test.YtaengjgmchpabaaGreatMergeWr36
import Derived.Test.YtaengjgmchpabaaGreatMergeWr49
/- The landed Entry: its bytes, or an error. -/
namespace Go.Proofs.YtaengjgmchpabaaGreat.Wr
open Go Go.RowKit Vl Kv Ss Cn Mem Lg Nm
attribute [local go_sem] Nm.run_bits Nm.run_frombits run_store_float
theorem eR_le {x : E} (h : FitE x) {l : List Nat} (hl : eR (some []) x = some (some l)) : l.length ≤ 9000000000 := by
  unfold eR at hl
  by_cases hk : okE x = true
  · rw [if_pos hk] at hl
    injection hl with hl
    injection hl with hl
    rw [← hl, List.nil_append]
    have := cEnt_le h
    omega
  · rw [if_neg hk] at hl; cases hl
set_option maxHeartbeats 1600000 in
set_option maxRecDepth 100000 in
theorem Entry1_any {w0 wr : World} {bw n : Nat} {F : List (Nat × Obj)} {x : E} (hf : FitE x) (hn : w0.heap[n]? = some (x.obj)) (h : Yw w0 wr bw (some []) F) :
    Calls Tryz.prog 64 #[.pointer (some ⟨bw, 0, none⟩), .pointer (some ⟨n, 0, none⟩)] wr (Wrote w0 bw F (eR (some []) x)) := by
  have HB := h.beh.box hn
  have HC : Hid (Calls Tryz.prog 65 #[.pointer (some ⟨bw, 0, none⟩), x.agg] wr (Wrote w0 bw F (eR (some []) x))) := entry_any h hf (by show (0 : Nat) ≤ _; omega)
  generalize eR (some []) x = r at *
  clear h hn
  obtain ⟨c0, c1, c2, c3, c4, c5, c6, c7, c8, c9, c10, c11, c12, c13, c14, c15⟩ := Lg.cells16 HB
  cases r with
  | none =>
    go_enter Tryz.func64, Tryz.ntmps64
    go_wp2_with (first | (go_at_call 65; refine Calls.mono HC.out ?_; rintro e w' ⟨rfl, hx⟩))
    exact ⟨rfl, rfl, hx⟩
  | some o =>
    go_enter Tryz.func64, Tryz.ntmps64
    go_wp2_with (first | (go_at_call 65; refine Calls.mono HC.out ?_; rintro e w' ⟨rfl, hx⟩; have HX := Lib.hid hx; clear hx))
    go_end0
    exact ⟨rfl, HX.out⟩
set_option maxHeartbeats 1600000 in
set_option maxRecDepth 100000 in
theorem Entry_any {x : E} (hf : FitE x) {w : World}  :
    Calls Tryz.prog 31 #[x.agg] w (EncTold (eR (some []) x) w) := by
  have hmf : ∀ (fn : Fn) (first cap : Array Value) (w : World), (Instr.makeFunc fn first cap).run Tryz.prog w = .ok (.func fn first cap) w := fun _ _ _ _ => rfl
  have hb := alloc_here (w := w) (x.obj) rfl
  have HW : Hid (Calls Tryz.prog 15 #[.func (Fn.func 64) #[] #[.pointer (some ⟨w.heap.size, 0, none⟩)]] (w.alloc (x.obj)) (EncTold (eR (some []) x) (w.alloc (x.obj)))) :=
    written_Entry (fun bw wr F hy => Entry1_any hf hb hy) (fun l hl => eR_le hf hl)
  generalize eR (some []) x = r at *
  clear hf hb
  go_enter Tryz.func31, Tryz.ntmps31
  go_wp2_with fail
  refine Calls.mono HW.out ?_
  rintro e w' hx
  have hx := EncTold.from (below_alloc w _) hx
  clear HW
  rcases EncTold.ways hx with ⟨c, rfl⟩ | ⟨l, a, cap, rfl⟩
  · have HX := Lib.hid hx
    clear hx
    go_wp2_with fail
    go_ret2
    exact HX.out
  · have HX := Lib.hid hx
    clear hx
    go_wp2_with fail
    go_ret2
    exact HX.out
end Go.Proofs.YtaengjgmchpabaaGreat.Wr
