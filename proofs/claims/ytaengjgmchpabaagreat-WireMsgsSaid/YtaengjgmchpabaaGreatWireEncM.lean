import Derived.Test.YtaengjgmchpabaaGreatMergeWr36
import Derived.Test.YtaengjgmchpabaaGreatWireWrM
/- The landed Msg: its bytes, or an error. -/
namespace Go.Proofs.YtaengjgmchpabaaGreat.Wr
open Go Go.RowKit Vl Kv Ss Cn Mem Lg Nm
attribute [local go_sem] Nm.run_bits Nm.run_frombits run_store_float
/-- a message and its inner ones in memory -/
structure MsgAt (w : World) (x : Mr) (L : List Mr) : Prop where
  flat : FlAt w x
  len : L.length = x.2.n
  list : MsgsAt w x.2.ia x.2.ic L
  all : ∀ y ∈ L, FlAt w y
theorem MsgAt.on {w w' : World} {x : Mr} {L : List Mr} (h : MsgAt w x L) (hb : Below w.heap.size w w') : MsgAt w' x L := ⟨h.flat.on hb, h.len, h.list.below hb, fun y hy => (h.all y hy).on hb⟩
/-- what a program holds of a message and its inner ones -/
structure FitMs (x : Mr) (L : List Mr) : Prop where
  head : FitR x.1
  len : L.length = x.2.n
  few : L.length ≤ 100000
  all : ∀ y ∈ L, FitR y.1 ∧ y.2.n ≤ 100000
theorem mR_flat (o : Option (List Nat)) (y : Mr) : mR o y [] 0 = if okI y = true then some (mI o y.1) else none := by
  have hk : (okF y.1 = true ∧ (y.2.n : Int) ≤ 0 ∧ ([] : List Mr).all okI = true) ↔ okI y = true := by
    unfold okI
    rw [Bool.and_eq_true, decide_eq_true_eq]
    simp
  unfold mR
  by_cases h : okI y = true
  · rw [if_pos h, if_pos (hk.2 h)]
    have h0 : y.2.n = 0 := by unfold okI at h; rw [Bool.and_eq_true, decide_eq_true_eq] at h; exact h.2
    rw [h0]
    rfl
  · rw [if_neg h, if_neg (fun e => h (hk.1 e))]
theorem msg0 {w0 wr : World} {bw : Nat} {F : List (Nat × Obj)} {o : Option (List Nat)} {y : Mr} (h : Yw w0 wr bw o F) (hp : FlAt w0 y) (hf : FitR y.1) (hn : y.2.n ≤ 100000) (hl : lenO o ≤ 40000000) :
    Calls Tryz.prog 17 #[.pointer (some ⟨bw, 0, none⟩), y.val, .int .i64 0] wr (Wrote w0 bw F (if okI y = true then some (mI o y.1) else none)) := by
  rw [← mR_flat]
  exact message_any (L := []) (most := 0) h hp hf (by decide) hn (fun hle => ⟨by rw [List.length_nil]; omega, fun h => by simp at h, fun y hy => by cases hy⟩) (by omega) (fun h => by simp at h)
theorem msg16 {w0 wr : World} {bw : Nat} {F : List (Nat × Obj)} {o : Option (List Nat)} {x : Mr} {L : List Mr} (h : Yw w0 wr bw o F) (hp : MsgAt w0 x L) (hf : FitMs x L) (hl : lenO o ≤ 20000000) :
    Calls Tryz.prog 17 #[.pointer (some ⟨bw, 0, none⟩), x.val, .int .i64 16] wr (Wrote w0 bw F (mR o x L 16)) :=
  message_any h hp.flat hf.head (by decide) (by rw [← hf.len]; exact hf.few) (fun _ => ⟨hp.len, fun _ => hp.list, fun y hy => ⟨(hf.all y hy).1, fun bw o wr F h hl => msg0 h (hp.all y hy) (hf.all y hy).1 (hf.all y hy).2 hl⟩⟩) (by omega) (fun _ => hl)
theorem lenO_of2 {o : Option (List Nat)} {l : List Nat} (h : o = some l) : l.length = lenO o := by subst h; rfl
theorem mR_le {x : Mr} {L : List Mr} (h : FitMs x L) {l : List Nat} (hl : mR (some []) x L 16 = some (some l)) : l.length ≤ 9000000000 := by
  unfold mR at hl
  by_cases hk : okF x.1 = true ∧ (x.2.n : Int) ≤ 16 ∧ L.all okI = true
  · rw [if_pos hk] at hl
    injection hl with hl
    rw [lenO_of2 hl]
    have h1 := fold_le1 (L := L) (st := app (mS (some []) x.1) (Pk.intB x.2.n)) (fun y hy => (h.all y hy).1) hk.2.2
    have h2 := lenO_int (mS (some []) x.1) x.2.n
    have h3 := mS_le (o := some []) h.head (by have := ((okF_iff x.1).1 hk.1).1; omega)
    have h4 : L.length * 530000 ≤ 16 * 530000 := Nat.mul_le_mul_right _ (by have := h.len; have := hk.2.1; omega)
    have h7 : lenO (some ([] : List Nat)) = 0 := rfl
    omega
  · rw [if_neg hk] at hl; cases hl
set_option maxHeartbeats 1600000 in
set_option maxRecDepth 100000 in
theorem Msg1_any {w0 wr : World} {bw n : Nat} {F : List (Nat × Obj)} {x : Mr} {L : List Mr} (hp : MsgAt w0 x L) (hf : FitMs x L) (hn : w0.heap[n]? = some (x.obj)) (h : Yw w0 wr bw (some []) F) :
    Calls Tryz.prog 16 #[.pointer (some ⟨bw, 0, none⟩), .pointer (some ⟨n, 0, none⟩)] wr (Wrote w0 bw F (mR (some []) x L 16)) := by
  have HB := h.beh.box hn
  have HC : Hid (Calls Tryz.prog 17 #[.pointer (some ⟨bw, 0, none⟩), x.val, .int .i64 16] wr (Wrote w0 bw F (mR (some []) x L 16))) := msg16 h hp hf (by show (0 : Nat) ≤ _; omega)
  generalize mR (some []) x L 16 = r at *
  clear h hn
  obtain ⟨c0, c1, c2, c3, c4, c5, c6, c7, c8, c9, c10, c11, c12, c13, c14, c15⟩ := cells16m (x := x) HB
  cases r with
  | none =>
    go_enter Tryz.func16, Tryz.ntmps16
    go_wp2_with (first | (go_at_call 17; refine Calls.mono HC.out ?_; rintro e w' ⟨rfl, hx⟩))
    exact ⟨rfl, rfl, hx⟩
  | some o =>
    go_enter Tryz.func16, Tryz.ntmps16
    go_wp2_with (first | (go_at_call 17; refine Calls.mono HC.out ?_; rintro e w' ⟨rfl, hx⟩; have HX := Lib.hid hx; clear hx))
    go_end0
    exact ⟨rfl, HX.out⟩
set_option maxHeartbeats 1600000 in
set_option maxRecDepth 100000 in
theorem Msg_any {x : Mr} {L : List Mr} {w : World} (hp : MsgAt w x L) (hf : FitMs x L) :
    Calls Tryz.prog 5 #[x.val] w (EncTold (mR (some []) x L 16) w) := by
  have hmf : ∀ (fn : Fn) (first cap : Array Value) (w : World), (Instr.makeFunc fn first cap).run Tryz.prog w = .ok (.func fn first cap) w := fun _ _ _ _ => rfl
  have hb := alloc_here (w := w) (x.obj) rfl
  have HW : Hid (Calls Tryz.prog 15 #[.func (Fn.func 16) #[] #[.pointer (some ⟨w.heap.size, 0, none⟩)]] (w.alloc (x.obj)) (EncTold (mR (some []) x L 16) (w.alloc (x.obj)))) :=
    written_Msg (fun bw wr F hy => Msg1_any (hp.on (below_alloc _ _)) hf hb hy) (fun l hl => mR_le hf hl)
  generalize mR (some []) x L 16 = r at *
  clear hp hf hb
  go_enter Tryz.func5, Tryz.ntmps5
  go_wp2_with fail
  refine Calls.mono HW.out ?_
  rintro e w' hx
  have hx := EncTold.from (below_alloc w _) hx
  clear HW
  rcases EncTold.ways hx with ⟨c, rfl⟩ | ⟨l, a, cap, rfl⟩
  · have HX := Lib.hid hx
    clear hx
    go_wp2_with fail
    go_ret2
    exact HX.out
  · have HX := Lib.hid hx
    clear hx
    go_wp2_with fail
    go_ret2
    exact HX.out
end Go.Proofs.YtaengjgmchpabaaGreat.Wr
