/- The walk of got. -/
import Derived.Test.YtjlpmmbmjkbdiaaItems2
import Derived.Deep.RegionWith
namespace Go.Proofs.Ytjlpmmbmjkbdiaa.Pk
open Go Go.RowKit Mem
def gotOut (x : It) (r : List Nat) (e : Int) : Bool × List Nat × Int :=
  if kq x.K 0 then ((intOut r e).1 == x.N, (intOut r e).2) else if kq x.K 1 then ((markOut r e).1 == x.I, (markOut r e).2) else if kq x.K 2 then (keepF (fltOut r e).1 x.X, (fltOut r e).2) else (decide ((textOut r e).1 = x.t), (textOut r e).2)
def GotPost (br bs : Nat) (o : Bool × List Nat × Int) (w : World) (x : Ending) (w' : World) : Prop := x = .returned (.bool o.1) ∧ RAt w' br bs o.2.1 o.2.2 ∧ Kept (Only br) w w'
/-- the Readers' answers, as one form -/
def OutPost (br bs : Nat) (v : Value) (r' : List Nat) (e' : Int) (w : World) (x : Ending) (w' : World) : Prop := x = .returned v ∧ RAt w' br bs r' e' ∧ Kept (Only br) w w'
theorem RInt_out (br bs : Nat) (r : List Nat) (e : Int) (w : World) (h : RAt w br bs r e) (hl : r.length ≤ 35184372088832) :
    Calls Try.prog 22 #[.pointer (some ⟨br, 0, Option.none⟩)] w (OutPost br bs (.int .i64 (intOut r e).1) (intOut r e).2.1 (intOut r e).2.2 w) := by
  refine (RInt_any br bs r e w h hl).mono fun x w' hp => ?_
  unfold IntPost at hp
  unfold intOut
  cases hd : rdInt r with
  | none => rw [hd] at hp; exact hp
  | some p => rw [hd] at hp; exact hp
theorem RMark_out (br bs : Nat) (r : List Nat) (e : Int) (w : World) (h : RAt w br bs r e) :
    Calls Try.prog 24 #[.pointer (some ⟨br, 0, Option.none⟩)] w (OutPost br bs (.bool (markOut r e).1) (markOut r e).2.1 (markOut r e).2.2 w) := by
  refine (RMark_any br bs r e w h).mono fun x w' hp => ?_
  unfold MarkPost at hp
  unfold markOut
  cases hd : rdMark r with
  | none => rw [hd] at hp; exact hp
  | some p => rw [hd] at hp; exact hp
theorem RFloat_out (br bs : Nat) (r : List Nat) (e : Int) (w : World) (h : RAt w br bs r e) :
    Calls Try.prog 26 #[.pointer (some ⟨br, 0, Option.none⟩)] w (OutPost br bs (.float .f64 (fltOut r e).1) (fltOut r e).2.1 (fltOut r e).2.2 w) := by
  refine (RFloat_any br bs r e w h).mono fun x w' hp => ?_
  unfold FltPost at hp
  unfold fltOut
  cases hd : rdFlt r with
  | none => rw [hd] at hp; exact hp
  | some p => rw [hd] at hp; exact hp
theorem kept_box {br : Nat} {w w' : World} (h : Kept (Only br) w w') {b : Nat} (hb : b < w.heap.size) (hne : b ≠ br) (i : Nat) {v : Value} (hc : w.cell? ⟨b, i, Option.none⟩ = some v) : w'.cell? ⟨b, i, Option.none⟩ = some v := (h.cell (p := ⟨b, i, Option.none⟩) hb hne).trans hc
theorem RAt.heap {w w' : World} {br bs : Nat} {r : List Nat} {e : Int} (h : RAt w br bs r e) (hw : w'.heap = w.heap) : RAt w' br bs r e := by
  obtain ⟨a, cap, hh, hs, h3⟩ := h
  exact ⟨a, cap, by rw [hw]; exact hh, hs.heap hw, h3⟩
set_option maxHeartbeats 4000000 in
set_option maxRecDepth 100000 in
theorem got_int (br bs : Nat) (r : List Nat) (e : Int) (x : It) (w : World) (h : RAt w br bs r e) (hx : x.ok w) (htb : x.t ≠ [] → x.tb ≠ br) (hl : r.length ≤ 35184372088832) (ht : x.t.length ≤ 35184372088832) (q0 : kq x.K 0 = true) :
    Calls Try.prog 19 #[.pointer (some ⟨br, 0, Option.none⟩), x.agg] w (GotPost br bs ((intOut r e).1 == x.N, (intOut r e).2) w) := by
  obtain ⟨K, N, I, X, tb, ta, tc, t⟩ := x
  unfold It.agg
  simp only at hx htb q0 ⊢
  obtain ⟨hK, hN, hX, hT, h8⟩ := hx
  have hK1 := hK.1
  have hK2 := hK.2
  have hbr : br < w.heap.size := by obtain ⟨_, _, hh, _⟩ := h; exact lt_of_heap hh
  obtain ⟨w1, hw1⟩ : ∃ w1, w1 = w.alloc (.cells #[.int .i64 K, .int .i64 N, .bool I, .float .f64 X, .slice ta t.length tc] 32) := ⟨_, rfl⟩
  have k1 : Kept Mem.None w w1 := by rw [hw1]; exact (Kept.refl _ _).alloc _
  have c1 : w1.cell? ⟨w.heap.size, 1, Option.none⟩ = some (.int .i64 N) := by rw [hw1]; simp
  have s1 : w.heap.size < w1.heap.size := by rw [hw1]; simp
  have HR1 : Hid (RAt w1 br bs r e) := h.kept k1 (fun h => h) (fun _ h => h)
  have HT1 : Hid (Src w1 tb ta tc t) := hT.kept k1 (fun _ h => h)
  have HK1 := Lib.hid k1
  have HW1 := Lib.hid hw1
  have HNE : Hid (w.heap.size ≠ br) := by show _ ≠ _; omega
  have HTB := Lib.hid htb
  clear hK h k1 hw1 hT htb
  unfold kq at q0
  go_enter Try.func19, Try.ntmps19
  go_wp2_with fail
  rw [← HW1.out]
  go_region_with ((go_at_call 22; refine Calls.mono (RInt_out br bs r e _ (by exact HR1.out.heap rfl) hl) ?_; rintro x w2 ⟨rfl, h2, k2⟩; have c2 := kept_box (k2.heap2 (v := w1) rfl rfl rfl rfl) s1 HNE.out 1 c1; have HR2 := Lib.hid h2; have HK2 := Lib.hid (k2.heap2 (v := w1) rfl rfl rfl rfl); clear h2 k2))
  all_goals
    go_wp2
    go_ret
    exact ⟨rfl, HR2.out, (HK1.out.ofNone).trans HK2.out⟩
set_option maxHeartbeats 4000000 in
set_option maxRecDepth 100000 in
theorem got_mark (br bs : Nat) (r : List Nat) (e : Int) (x : It) (w : World) (h : RAt w br bs r e) (hx : x.ok w) (htb : x.t ≠ [] → x.tb ≠ br) (_hl : r.length ≤ 35184372088832) (ht : x.t.length ≤ 35184372088832) (q0 : kq x.K 0 = false) (q1 : kq x.K 1 = true) :
    Calls Try.prog 19 #[.pointer (some ⟨br, 0, Option.none⟩), x.agg] w (GotPost br bs ((markOut r e).1 == x.I, (markOut r e).2) w) := by
  obtain ⟨K, N, I, X, tb, ta, tc, t⟩ := x
  unfold It.agg
  simp only at hx htb q0 q1 ⊢
  obtain ⟨hK, hN, hX, hT, h8⟩ := hx
  have hK1 := hK.1
  have hK2 := hK.2
  have hbr : br < w.heap.size := by obtain ⟨_, _, hh, _⟩ := h; exact lt_of_heap hh
  obtain ⟨w1, hw1⟩ : ∃ w1, w1 = w.alloc (.cells #[.int .i64 K, .int .i64 N, .bool I, .float .f64 X, .slice ta t.length tc] 32) := ⟨_, rfl⟩
  have k1 : Kept Mem.None w w1 := by rw [hw1]; exact (Kept.refl _ _).alloc _
  have c1 : w1.cell? ⟨w.heap.size, 2, Option.none⟩ = some (.bool I) := by rw [hw1]; simp
  have s1 : w.heap.size < w1.heap.size := by rw [hw1]; simp
  have HR1 : Hid (RAt w1 br bs r e) := h.kept k1 (fun h => h) (fun _ h => h)
  have HT1 : Hid (Src w1 tb ta tc t) := hT.kept k1 (fun _ h => h)
  have HK1 := Lib.hid k1
  have HW1 := Lib.hid hw1
  have HNE : Hid (w.heap.size ≠ br) := by show _ ≠ _; omega
  have HTB := Lib.hid htb
  clear hK h k1 hw1 hT htb
  unfold kq at q0 q1
  go_enter Try.func19, Try.ntmps19
  go_wp2_with fail
  rw [← HW1.out]
  go_region_with ((go_at_call 24; refine Calls.mono (RMark_out br bs r e _ (by exact HR1.out.heap rfl)) ?_; rintro x w2 ⟨rfl, h2, k2⟩; have c2 := kept_box (k2.heap2 (v := w1) rfl rfl rfl rfl) s1 HNE.out 2 c1; have HR2 := Lib.hid h2; have HK2 := Lib.hid (k2.heap2 (v := w1) rfl rfl rfl rfl); clear h2 k2))
  all_goals
    go_wp2
    go_ret
    exact ⟨rfl, HR2.out, (HK1.out.ofNone).trans HK2.out⟩
set_option maxHeartbeats 4000000 in
set_option maxRecDepth 100000 in
theorem got_flt (br bs : Nat) (r : List Nat) (e : Int) (x : It) (w : World) (h : RAt w br bs r e) (hx : x.ok w) (htb : x.t ≠ [] → x.tb ≠ br) (_hl : r.length ≤ 35184372088832) (ht : x.t.length ≤ 35184372088832) (q0 : kq x.K 0 = false) (q1 : kq x.K 1 = false) (q2 : kq x.K 2 = true) :
    Calls Try.prog 19 #[.pointer (some ⟨br, 0, Option.none⟩), x.agg] w (GotPost br bs (keepF (fltOut r e).1 x.X, (fltOut r e).2) w) := by
  obtain ⟨K, N, I, X, tb, ta, tc, t⟩ := x
  unfold It.agg
  simp only at hx htb q0 q1 q2 ⊢
  obtain ⟨hK, hN, hX, hT, h8⟩ := hx
  have hK1 := hK.1
  have hK2 := hK.2
  have hbr : br < w.heap.size := by obtain ⟨_, _, hh, _⟩ := h; exact lt_of_heap hh
  obtain ⟨w1, hw1⟩ : ∃ w1, w1 = w.alloc (.cells #[.int .i64 K, .int .i64 N, .bool I, .float .f64 X, .slice ta t.length tc] 32) := ⟨_, rfl⟩
  have k1 : Kept Mem.None w w1 := by rw [hw1]; exact (Kept.refl _ _).alloc _
  have c1 : w1.cell? ⟨w.heap.size, 3, Option.none⟩ = some (.float .f64 X) := by rw [hw1]; simp
  have s1 : w.heap.size < w1.heap.size := by rw [hw1]; simp
  have HR1 : Hid (RAt w1 br bs r e) := h.kept k1 (fun h => h) (fun _ h => h)
  have HT1 : Hid (Src w1 tb ta tc t) := hT.kept k1 (fun _ h => h)
  have HK1 := Lib.hid k1
  have HW1 := Lib.hid hw1
  have HNE : Hid (w.heap.size ≠ br) := by show _ ≠ _; omega
  have HTB := Lib.hid htb
  clear hK h k1 hw1 hT htb
  unfold kq at q0 q1 q2
  go_enter Try.func19, Try.ntmps19
  go_wp2_with fail
  rw [← HW1.out]
  go_region_with ((first | (go_at_call 26; refine Calls.mono (RFloat_out br bs r e _ (by exact HR1.out.heap rfl)) ?_; rintro x w2 ⟨rfl, h2, k2⟩; have c2 := kept_box (k2.heap2 (v := w1) rfl rfl rfl rfl) s1 HNE.out 3 c1; have HR2 := Lib.hid h2; have HK2 := Lib.hid (k2.heap2 (v := w1) rfl rfl rfl rfl); clear h2 k2) | (go_at_call 30; refine (KFloat_any _ _ _).mono ?_; rintro x w3 ⟨rfl, rfl⟩)))
  all_goals
    go_wp2
    go_ret
    exact ⟨rfl, HR2.out, (HK1.out.ofNone).trans HK2.out⟩
set_option maxHeartbeats 4000000 in
set_option maxRecDepth 100000 in
theorem got_text (br bs : Nat) (r : List Nat) (e : Int) (x : It) (w : World) (h : RAt w br bs r e) (hx : x.ok w) (htb : x.t ≠ [] → x.tb ≠ br) (hl : r.length ≤ 35184372088832) (ht : x.t.length ≤ 35184372088832) (q0 : kq x.K 0 = false) (q1 : kq x.K 1 = false) (q2 : kq x.K 2 = false) :
    Calls Try.prog 19 #[.pointer (some ⟨br, 0, Option.none⟩), x.agg] w (GotPost br bs (decide ((textOut r e).1 = x.t), (textOut r e).2) w) := by
  obtain ⟨K, N, I, X, tb, ta, tc, t⟩ := x
  unfold It.agg
  simp only at hx htb q0 q1 q2 ⊢
  obtain ⟨hK, hN, hX, hT, h8⟩ := hx
  have hK1 := hK.1
  have hK2 := hK.2
  have hbr : br < w.heap.size := by obtain ⟨_, _, hh, _⟩ := h; exact lt_of_heap hh
  obtain ⟨w1, hw1⟩ : ∃ w1, w1 = w.alloc (.cells #[.int .i64 K, .int .i64 N, .bool I, .float .f64 X, .slice ta t.length tc] 32) := ⟨_, rfl⟩
  have k1 : Kept Mem.None w w1 := by rw [hw1]; exact (Kept.refl _ _).alloc _
  have c1 : w1.cell? ⟨w.heap.size, 4, Option.none⟩ = some (.slice ta t.length tc) := by rw [hw1]; simp
  have s1 : w.heap.size < w1.heap.size := by rw [hw1]; simp
  have HR1 : Hid (RAt w1 br bs r e) := h.kept k1 (fun h => h) (fun _ h => h)
  have HT1 : Hid (Src w1 tb ta tc t) := hT.kept k1 (fun _ h => h)
  have HK1 := Lib.hid k1
  have HW1 := Lib.hid hw1
  have HNE : Hid (w.heap.size ≠ br) := by show _ ≠ _; omega
  have HTB := Lib.hid htb
  clear hK h k1 hw1 hT htb
  unfold kq at q0 q1 q2
  go_enter Try.func19, Try.ntmps19
  go_wp2_with fail
  rw [← HW1.out]
  have ht16 : (textOut r e).1.length ≤ 35184372088832 := by
    have := (textOut_step (r := r) (e := e) HR1.out.len.1).2.2
    omega
  go_region_with ((first | (go_at_call 28; refine Calls.mono (RText_any br bs r e _ (by exact HR1.out.heap rfl) hl) ?_; rintro x w2 ⟨b5, a5, cap5, rfl, ho, _, _, h2, k2⟩; have c2 := kept_box (k2.heap2 (v := w1) rfl rfl rfl rfl) s1 HNE.out 4 c1; have HR2 := Lib.hid h2; have HK2 := Lib.hid (k2.heap2 (v := w1) rfl rfl rfl rfl); clear h2 k2; have HO5 := Lib.hid ho; clear ho) | (go_at_call 12; refine Calls.mono (KBytes_any b5 a5 cap5 (textOut r e).1 tb ta tc t _ (by exact HO5.out.src.heap rfl) (by exact (HT1.out.kept HK2.out (fun h => HTB.out h)).heap rfl) ht16 ht) ?_; rintro x w3 ⟨rfl, n5, rfl⟩)))
  all_goals
    go_wp2
    go_ret
    exact ⟨rfl, HR2.out.heap rfl, ((HK1.out.ofNone).trans HK2.out).heap_end rfl rfl rfl rfl⟩
end Go.Proofs.Ytjlpmmbmjkbdiaa.Pk
