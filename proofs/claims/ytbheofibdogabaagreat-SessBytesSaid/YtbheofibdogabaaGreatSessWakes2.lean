import Derived.Test.YtbheofibdogabaaGreatMergeSb41
import Derived.Test.YtbheofibdogabaaGreatSessCopy
/- The law's wakes: Do at the same call again; wakes. -/
namespace Go.Proofs.YtbheofibdogabaaGreat.Ss
open Go Go.RowKit Vl Kv Mem Nm
attribute [local go_sem] run_bits run_frombits run_store_float

theorem last_m1A : lastOf m1A.sess 1 = ⟨1, 1, 0, vA⟩ := by kernel_rfl
set_option maxHeartbeats 6400000 in
set_option maxRecDepth 100000 in
theorem Do_again (a : Option Addr) (cap : Nat) (a2 : Option Addr) (cap2 : Nat) (w : World) (h : MaAt w ⟨a, cap, a2, cap2⟩ m1A) : Calls Tryz.prog 39 #[.agg #[.slice a 1 cap, .slice a2 1 cap2], .agg #[.int .i64 1, .int .i64 1, .int .i64 5, .string ⟨#[97]⟩, .int .i64 0, .float .f64 0, .string ⟨#[]⟩, .int .i64 1, .float .f64 4611686018427387904, .string ⟨#[]⟩]] w (DoneM w m1A vA) := by
  have HD := Lib.hid (Dbox.start w ⟨a, cap, a2, cap2⟩ m1A c1A)
  have HX0 : Hid (∀ {wr : World}, Dbox w wr ⟨a, cap, a2, cap2⟩ m1A c1A → wr.heap[w.heap.size]? = some (.cells #[.slice a 1 cap, .slice a2 1 cap2] 25)) := fun h => h.b0
  have HX1 : Hid (∀ {wr : World}, Dbox w wr ⟨a, cap, a2, cap2⟩ m1A c1A → wr.heap[w.heap.size + 1]? = some (.cells #[.int .i64 1, .int .i64 1, .int .i64 5, .string ⟨#[97]⟩, .int .i64 0, .float .f64 0, .string ⟨#[]⟩, .int .i64 1, .float .f64 4611686018427387904, .string ⟨#[]⟩] 84)) := fun h => h.b1
  have HX2 : Hid (∀ {wr : World}, Dbox w wr ⟨a, cap, a2, cap2⟩ m1A c1A → wr.heap[w.heap.size + 1 + 1]? = some (.cells #[.slice none 0 0, .slice none 0 0] 25)) := fun h => h.b2
  have HX3 : Hid (∀ {wr : World}, Dbox w wr ⟨a, cap, a2, cap2⟩ m1A c1A → wr.heap[w.heap.size + 1 + 1 + 1]? = some (.cells #[.int .i64 0, .int .i64 0, .float .f64 0, .string ⟨#[]⟩] 52)) := fun h => h.b3
  have HRI : ∀ w, Hid (Calls Tryz.prog 59 #[.agg #[.int .i64 1, .int .i64 1, .int .i64 5, .string ⟨#[97]⟩, .int .i64 0, .float .f64 0, .string ⟨#[]⟩, .int .i64 1, .float .f64 4611686018427387904, .string ⟨#[]⟩]] w fun e w' => e = .returned (.int .i64 0) ∧ Beh w w') := fun w => by
    have := SRight_any c1A w
    rw [right_c1A] at this
    exact this
  have HCK : Hid (∀ W, Beh w W → Calls Tryz.prog 19 #[.agg #[.slice a 1 cap, .slice a2 1 cap2]] W fun e w' => e = .returned (.int .i64 0) ∧ Beh W w') := fun W hb => by
    have := SCheck_any ⟨a, cap, a2, cap2⟩ m1A W (h.on hb)
    rw [right_m1A] at this
    exact this
  have HLA : Hid (∀ W, Beh w W → Calls Tryz.prog 60 #[.agg #[.slice a 1 cap, .slice a2 1 cap2], .int .i64 1] W fun e w' => e = .returned (.tuple #[.int .i64 1, .agg #[.int .i64 0, .int .i64 1, .float .f64 4611686018427387904, .string ⟨#[]⟩]]) ∧ Beh W w') := fun W hb => by
    have := SLast_any ⟨a, cap, a2, cap2⟩ m1A 1 W (h.on hb)
    unfold LastTold at this
    rw [last_m1A] at this
    exact this
  have HCO : Hid (∀ W, Beh w W → Calls Tryz.prog 61 #[.agg #[.slice a 1 cap, .slice a2 1 cap2]] W fun e w' => ∃ (t : Ms) (bp bq : Nat), e = .returned (.agg #[.slice t.a 1 t.cap, .slice t.a2 1 t.cap2]) ∧ MadeM W w' t m1A bp bq ∧ Beh W w') := fun W hb => copied_any ⟨a, cap, a2, cap2⟩ m1A W (h.on hb) (by decide) (by decide)
  clear h
  go_enter Tryz.func39, Tryz.ntmps39
  go_wp2_with fail
  refine Calls.mono ((HRI _).out) ?_
  rintro e w1 ⟨rfl, hb⟩
  have HD := Lib.hid (HD.out.on hb)
  clear hb
  obtain ⟨x0, x1⟩ := cells2 (HX0.out HD.out)
  obtain ⟨y0, y1, y2, y3, y4, y5, y6, y7, y8, y9⟩ := cells10 (HX1.out HD.out)
  go_wp2_with fail
  refine Calls.mono (HCK.out _ HD.out.beh) ?_
  rintro e w2 ⟨rfl, hb⟩
  have HD := Lib.hid (HD.out.on hb)
  clear hb
  clear x0 x1 y0 y1 y2 y3 y4 y5 y6 y7 y8 y9
  obtain ⟨x0, x1⟩ := cells2 (HX0.out HD.out)
  obtain ⟨y0, y1, y2, y3, y4, y5, y6, y7, y8, y9⟩ := cells10 (HX1.out HD.out)
  go_wp2_with fail
  refine Calls.mono (HLA.out _ HD.out.beh) ?_
  rintro e w3 ⟨rfl, hb⟩
  have HD := Lib.hid (HD.out.on hb)
  clear hb
  clear x0 x1 y0 y1 y2 y3 y4 y5 y6 y7 y8 y9
  obtain ⟨x0, x1⟩ := cells2 (HX0.out HD.out)
  obtain ⟨y0, y1, y2, y3, y4, y5, y6, y7, y8, y9⟩ := cells10 (HX1.out HD.out)
  have x0a := fun o => cellOn ((Beh.start _).alloc o) x0
  have x1a := fun o => cellOn ((Beh.start _).alloc o) x1
  have y1a := fun o => cellOn ((Beh.start _).alloc o) y1
  have HS3 := Lib.hid (heap_lt (HX3.out HD.out))
  go_wp2_with fail
  obtain ⟨w5, hw5⟩ : ∃ w5, w5 = (w3.alloc (.cells #[.int .i64 0, .int .i64 1, .float .f64 4611686018427387904, .string ⟨#[]⟩] 52)) := ⟨_, rfl⟩
  rw [← hw5]
  have hb5 : Beh w3 w5 := by rw [hw5]; exact (Beh.start w3).alloc _
  have HR5 : Hid (w5.heap[w3.heap.size]? = some (.cells #[.int .i64 0, .int .i64 1, .float .f64 4611686018427387904, .string ⟨#[]⟩] 52)) := by show w5.heap[w3.heap.size]? = _; rw [hw5]; exact alloc_here _ rfl
  have HD5 := Lib.hid (HD.out.on hb5)
  clear hw5 hb5 x0a x1a y1a
  clear x0 x1 y0 y1 y2 y3 y4 y5 y6 y7 y8 y9
  have hs3 := HS3.out
  obtain ⟨x0, x1⟩ := cells2 (HX0.out HD5.out)
  obtain ⟨r0, r1, r2, r3⟩ := cells4 HR5.out
  obtain ⟨u0, u1⟩ := cells2 (HX2.out HD5.out)
  obtain ⟨v0, v1, v2, v3⟩ := cells4 (HX3.out HD5.out)
  have e0 := frozen_of (HX3.out HD5.out) 0
  have e1 := frozen_of (HX3.out HD5.out) 1
  have e2 := frozen_of (HX3.out HD5.out) 2
  have e3 := frozen_of (HX3.out HD5.out) 3
  go_region_with ((go_at_call 61; refine Calls.mono (HCO.out _ HD5.out.beh.drew) ?_; rintro e w6 ⟨t, b2, b3, rfl, hm, hb⟩; (have HM := Lib.hid hm); (have HB6 := Lib.hid (show Beh w5 w6 from (Beh.start w5).drew.trans hb)); clear hm hb; (have HD6 := Lib.hid (HD5.out.on HB6.out)); (obtain ⟨p0, p1⟩ := cells2 (HX2.out HD6.out)); (obtain ⟨q0, q1, q2, q3⟩ := cells4 (HX3.out HD6.out)); (obtain ⟨k0, k1, k2, k3⟩ := cells4 (HB6.out.box HR5.out)); (have f0 := frozen_of (HX2.out HD6.out) 0); (have f1 := frozen_of (HX2.out HD6.out) 1); (have g0 := frozen_of (HX3.out HD6.out) 0); (have g1 := frozen_of (HX3.out HD6.out) 1); (have g2 := frozen_of (HX3.out HD6.out) 2); (have g3 := frozen_of (HX3.out HD6.out) 3)))
  all_goals
    have hd : w5.drew.heap.size = w5.heap.size := rfl
    have hlo1 := HM.out.lo1
    have hlo2 := HM.out.lo2
    have hb5 := HD5.out.beh.size
    have hs35 := heap_lt HR5.out
    go_wp2_with fail
    (try simp only [Exit.inBlock, Exit.then])
    refine bodyPost_ret (v := .tuple #[.agg #[.slice t.a 1 t.cap, .slice t.a2 1 t.cap2], .agg #[.int .i64 0, .int .i64 1, .float .f64 4611686018427387904, .string ⟨#[]⟩]]) ?_ rfl ⟨t, b2, b3, rfl, MadeM.twice (a := w.heap.size + 1 + 1) (b := w.heap.size + 1 + 1 + 1) (HM.out.from (w0 := w) (by omega)) ?_ (fun ha => by have := hlo1 ha; omega) (fun ha => by have := hlo2 ha; omega), ?_⟩
    · rw [results_cells rfl]
      go_simp
    · repeat' (first | with_reducible exact Kept.refl _ _ | with_reducible refine Kept.setAt ?_ (.inl (by simp)) _ _ | with_reducible refine Kept.drew ?_)
    · show Beh w _
      repeat' (first | with_reducible exact HD6.out.beh | with_reducible refine Beh.set ?_ (by omega) _ _ | with_reducible refine Beh.drew ?_)
set_option maxHeartbeats 3200000 in
set_option maxRecDepth 100000 in
theorem Swakes_any (w : World) : Calls Tryz.prog 16 #[] w fun e w' => e = .returned (.bool true) ∧ Beh w w' := by
  have HF : ∀ W, Hid (Calls Tryz.prog 39 #[.agg #[.slice none 0 0, .slice none 0 0], .agg #[.int .i64 1, .int .i64 1, .int .i64 5, .string ⟨#[97]⟩, .int .i64 0, .float .f64 0, .string ⟨#[]⟩, .int .i64 1, .float .f64 4611686018427387904, .string ⟨#[]⟩]] W fun e w' => ∃ (t : Ms) (bp bq : Nat), e = .returned (.tuple #[.agg #[.slice t.a 1 t.cap, .slice t.a2 1 t.cap2], .agg #[.int .i64 0, .int .i64 1, .float .f64 4611686018427387904, .string ⟨#[]⟩]]) ∧ MadeM W w' t m1A bp bq ∧ Beh W w') := fun W => Do_first W
  have HA0 := Lib.hid (alloc_here (w := w) c1A.obj rfl)
  have HB0 := Lib.hid ((Beh.start w).alloc c1A.obj)
  have HX : Hid (∀ {W : World}, Beh (w.alloc c1A.obj) W → W.heap[w.heap.size]? = some (.cells #[.int .i64 1, .int .i64 1, .int .i64 5, .string ⟨#[97]⟩, .int .i64 0, .float .f64 0, .string ⟨#[]⟩, .int .i64 1, .float .f64 4611686018427387904, .string ⟨#[]⟩] 84)) := fun hb => hb.box HA0.out
  have fe : (FloatKind.f64.format.order 4611686018427387904 4611686018427387904 == some .eq) = true := by kernel_rfl
  go_enter Tryz.func16, Tryz.ntmps16
  go_wp2_with fail
  refine Calls.mono ((HF _).out) ?_
  rintro e w1 ⟨s, bp, bq, rfl, hm, hb⟩
  obtain ⟨a, cap, a2, cap2⟩ := s
  have HM := Lib.hid hm.at_
  have HB1 := Lib.hid hb
  clear hm hb
  have HA2 : Hid (∀ W, Beh w1 W → Calls Tryz.prog 39 #[.agg #[.slice a 1 cap, .slice a2 1 cap2], .agg #[.int .i64 1, .int .i64 1, .int .i64 5, .string ⟨#[97]⟩, .int .i64 0, .float .f64 0, .string ⟨#[]⟩, .int .i64 1, .float .f64 4611686018427387904, .string ⟨#[]⟩]] W fun e w' => ∃ (t : Ms) (bp bq : Nat), e = .returned (.tuple #[.agg #[.slice t.a 1 t.cap, .slice t.a2 1 t.cap2], .agg #[.int .i64 0, .int .i64 1, .float .f64 4611686018427387904, .string ⟨#[]⟩]]) ∧ MadeM W w' t m1A bp bq ∧ Beh W w') := fun W hb => Do_again a cap a2 cap2 W (HM.out.on hb)
  obtain ⟨y0, y1, y2, y3, y4, y5, y6, y7, y8, y9⟩ := cells10 (HX.out HB1.out)
  have y0a := fun o => cellOn ((Beh.start _).alloc o) y0
  have y1a := fun o => cellOn ((Beh.start _).alloc o) y1
  have y2a := fun o => cellOn ((Beh.start _).alloc o) y2
  have y3a := fun o => cellOn ((Beh.start _).alloc o) y3
  have y4a := fun o => cellOn ((Beh.start _).alloc o) y4
  have y5a := fun o => cellOn ((Beh.start _).alloc o) y5
  have y6a := fun o => cellOn ((Beh.start _).alloc o) y6
  have y7a := fun o => cellOn ((Beh.start _).alloc o) y7
  have y8a := fun o => cellOn ((Beh.start _).alloc o) y8
  have y9a := fun o => cellOn ((Beh.start _).alloc o) y9
  have hlt1 := heap_lt (HX.out HB1.out)
  have h1 : w1.heap.size ≠ w.heap.size := by omega
  have h2 : w1.heap.size + 1 ≠ w.heap.size := by omega
  have h3 : w.heap.size ≠ w1.heap.size := by omega
  have h4 : w.heap.size ≠ w1.heap.size + 1 := by omega
  have HW2 := Lib.hid (((Beh.start w1).alloc (.cells #[.slice a 1 cap, .slice a2 1 cap2] 25)).alloc (.cells #[.int .i64 0, .int .i64 1, .float .f64 4611686018427387904, .string ⟨#[]⟩] 52))
  have HN2 := Lib.hid (old_alloc (.cells #[.int .i64 0, .int .i64 1, .float .f64 4611686018427387904, .string ⟨#[]⟩] 52) (alloc_here (w := w1) (.cells #[.slice a 1 cap, .slice a2 1 cap2] 25) rfl))
  go_wp2_with fail
  refine Calls.mono (HA2.out _ HW2.out) ?_
  rintro e w3 ⟨t, b2, b3, rfl, hm, hb⟩
  obtain ⟨ha, hc0, _⟩ := hm.op.cell (j := 2) (by decide)
  have hlo := hm.lo1 (by rw [ha]; exact fun h => by cases h)
  have hc : w3.cell? ⟨b2, 2, none⟩ = some (.float .f64 4611686018427387904) := hc0
  clear hc0
  obtain ⟨ta, tcap, ta2, tcap2⟩ := t
  obtain rfl : ta = some ⟨b2, 0, none⟩ := ha
  have HB3 := Lib.hid ((HB0.out.trans HB1.out).trans (HW2.out.trans hb))
  obtain ⟨n0, n1⟩ := cells2 (hb.box HN2.out)
  have f0 := frozen_of (hb.box HN2.out) 0
  have f1 := frozen_of (hb.box HN2.out) 1
  have hlo2 : w1.heap.size + 2 ≤ b2 := by simpa using hlo
  have k1 : b2 ≠ w1.heap.size := by omega
  have k2 : w1.heap.size ≠ b2 := by omega
  have hlt3 := heap_lt (hb.box HN2.out)
  have k3 : w1.heap.size ≠ w3.heap.size := by omega
  have k4 : w3.heap.size ≠ w1.heap.size := by omega
  have hb2 := World.block_lt_of_cell? w3 _ hc
  have k5 : b2 ≠ w3.heap.size := by have : b2 < w3.heap.size := hb2; omega
  have k6 : w3.heap.size ≠ b2 := fun e => k5 e.symm
  have hfin : ∀ (x y : Value) (o : Obj), (((w3.setCell ⟨w1.heap.size, 0, none⟩ x).setCell ⟨w1.heap.size, 1, none⟩ y).alloc o).cell? ⟨b2, 2, none⟩ = some (.float .f64 4611686018427387904) := fun x y o => cellOn ((Beh.start _).alloc o) ((World.cell?_of_block (w := w3) (by show ((w3.setCell _ x).setCell _ y).heap[b2]? = _; rw [Below.heap_setCell _ _ _ _ k1, Below.heap_setCell _ _ _ _ k1])).trans hc)
  clear hm hb hlo hlo2 hb2 y0 y1 y2 y3 y4 y5 y6 y7 y8 y9 y0a y1a y2a y3a y4a y5a y6a y7a y8a y9a
  go_wp2_with fail
  go_ret
  exact ⟨rfl, by
    have hsz := HB1.out.size
    rw [size_alloc] at hsz
    show Beh w _
    repeat' (first | with_reducible exact HB3.out | with_reducible refine Beh.set ?_ (by omega) _ _ | with_reducible refine Beh.drew ?_ | with_reducible refine Beh.alloc ?_ _)⟩
end Go.Proofs.YtbheofibdogabaaGreat.Ss
