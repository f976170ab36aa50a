/- The landed Do, where it is done. -/
import Derived.Test.YtbheofibdogabaaGreatDoA6
namespace Go.Proofs.YtbheofibdogabaaGreat.Kv
open Go Go.RowKit Vl Nm Mem
attribute [local go_sem] run_bits run_frombits run_store_float

set_option maxHeartbeats 6400000 in
set_option maxRecDepth 100000 in
theorem do_ok (a : Option Addr) (cap : Nat) (L : List Pr) (c : Cm) (w : World) (h : PairsAt w a cap L) (hr : c.right = 0) (hp : rightP L = true) (hv : (get L c.key).num < 18446744073709551616) (hc : c.val.num < 18446744073709551616) (ha : (act (get L c.key) c).code = 0) (hf : (set L c.key (act (get L c.key) c).next).length ≤ 32) :
    Calls Tryz.prog 62 #[.slice a L.length cap, c.agg] w (DoTold w ⟨set L c.key (act (get L c.key) c).next, 0, (act (get L c.key) c).told⟩) := by
  have hl : L.length ≤ 32 := ((rightP_iff L).1 hp).1
  have hpw := ((rightP_iff L).1 hp).2.2
  have HI := Lib.hid h
  have HD := Lib.hid (Dk.start w a L.length cap c)
  have HR := fun w => Lib.hid (Right_any c w)
  have HC : ∀ w', Hid (Beh w w' → Calls Tryz.prog 42 #[.slice a L.length cap] w' fun e w'' => e = .returned (.int .i64 0) ∧ Below w'.heap.size w' w'') := fun w' hb => by
    have := Check_any a cap L w' (h.below hb)
    rw [hp] at this
    exact this
  have HG : ∀ w', Hid (Beh w w' → Calls Tryz.prog 87 #[.slice a L.length cap, .string c.key] w' fun e w'' => e = .returned (get L c.key).val ∧ Below w'.heap.size w' w'') := fun w' hb => Get_any a cap L c.key w' (h.below hb) (by omega)
  have HW : ∀ w', Hid (Calls Tryz.prog 86 #[(get L c.key).val, c.agg] w' fun e w'' => e = .returned (.tuple #[(act (get L c.key) c).next.val, (act (get L c.key) c).told.val]) ∧ Below w'.heap.size w' w'') := fun w' => by
    have := work_told (get L c.key) c hv hc w'
    rw [if_pos ha] at this
    exact this
  have HWI : ∀ w', Hid (Beh w w' → Calls Tryz.prog 88 #[.slice a L.length cap, .string c.key, (act (get L c.key) c).next.val] w' fun e w'' => ∃ b' a' cap', e = .returned (.slice a' (set L c.key (act (get L c.key) c).next).length cap') ∧ Made w' w'' b' a' cap' (set L c.key (act (get L c.key) c).next)) := fun w' hb => with_ok a cap L c.key _ w' (h.below hb) hpw hl hf
  rw [hr] at HR
  have hmf : ∀ (fn : Fn) (first cap : Array Value) (w : World), (Instr.makeFunc fn first cap).run Tryz.prog w = .ok (.func fn first cap) w := fun _ _ _ _ => rfl
  clear h hr hp ha hv hc hf hpw
  generalize (set L c.key (act (get L c.key) c).next) = M at *
  generalize (act (get L c.key) c).next = nx at *
  generalize (act (get L c.key) c).told = td at *
  generalize get L c.key = g at *
  obtain ⟨gk, gn, gs⟩ := g
  obtain ⟨xk, xn, xs⟩ := nx
  obtain ⟨tk, tn, ts⟩ := td
  obtain ⟨k, key, ⟨ok, on, os⟩, ⟨vk, vn, vs⟩⟩ := c
  dsimp only at HG HW HWI
  go_enter_defers Tryz.func62, Tryz.ntmps62
  go_wp2_with (first | (go_at_call 81; refine ((HR _).out).mono ?_; rintro e w' ⟨rfl, hb⟩; (have HD := Lib.hid (HD.out.on hb)); clear hb; have l0 := cells1 HD.out.b0) | (go_at_call 85; refine (must_ok _).mono ?_; rintro e w' ⟨rfl, rfl⟩) | (go_at_call 42; refine Calls.mono ((HC _).out (by exact HD.out.beh)) ?_; rintro e w' ⟨rfl, hb⟩; (have HD := Lib.hid (HD.out.on hb)); clear hb; (have l0 := cells1 HD.out.b0); obtain ⟨c0, c1, c2, c3, c4, c5, c6, c7⟩ := cells8 HD.out.b1; dsimp only at c0 c1 c2 c3 c4 c5 c6 c7))
  have LQ : ∀ wq, Dk w wq a L.length cap ⟨k, key, ⟨ok, on, os⟩, ⟨vk, vn, vs⟩⟩ (.slice none 0 0) (repObj 0 V.zero) → (wq.cell? ⟨w.heap.size, 0, none⟩ = some (.slice a L.length cap) ∧ wq.cell? ⟨w.heap.size + 1, 0, none⟩ = some (.int .i64 k) ∧ wq.cell? ⟨w.heap.size + 1, 1, none⟩ = some (.string key) ∧ wq.cell? ⟨w.heap.size + 1, 2, none⟩ = some (.int .i64 ok) ∧ wq.cell? ⟨w.heap.size + 1, 3, none⟩ = some (.float .f64 on) ∧ wq.cell? ⟨w.heap.size + 1, 4, none⟩ = some (.string os) ∧ wq.cell? ⟨w.heap.size + 1, 5, none⟩ = some (.int .i64 vk) ∧ wq.cell? ⟨w.heap.size + 1, 6, none⟩ = some (.float .f64 vn) ∧ wq.cell? ⟨w.heap.size + 1, 7, none⟩ = some (.string vs)) ∧ True := fun wq hq => ⟨⟨cells1 hq.b0, cells8 hq.b1⟩, trivial⟩
  have LQ := Lib.hid LQ
  refine wp_region_door (p4 := .pointer (some ⟨w.heap.size + 1 + 1, 0, none⟩)) (p5 := .pointer (some ⟨w.heap.size + 1 + 1 + 1, 0, none⟩)) (S := fun wq => Dk w wq a L.length cap ⟨k, key, ⟨ok, on, os⟩, ⟨vk, vn, vs⟩⟩ (.slice none 0 0) (repObj 0 V.zero)) (fun a_ wk => ∃ (b6 b7 : Nat) (s8 s9 s10 s11 s12 s13 s14 s15 s16 s17 s18 s19 s20 s21 s22 s23 : Value), a_ = { tmps := #[.slice a L.length cap, (Cm.mk k key ⟨ok, on, os⟩ ⟨vk, vn, vs⟩).agg, .pointer (some ⟨w.heap.size, 0, none⟩), .pointer (some ⟨w.heap.size + 1, 0, none⟩), .pointer (some ⟨w.heap.size + 1 + 1, 0, none⟩), .pointer (some ⟨w.heap.size + 1 + 1 + 1, 0, none⟩), .pointer (some ⟨b6, 0, none⟩), .pointer (some ⟨b7, 0, none⟩), s8, s9, s10, s11, s12, s13, s14, s15, s16, s17, s18, s19, s20, s21, s22, s23, undef, undef, undef, undef, undef, undef, undef], defers := [{ target := .fn (.func 84) #[.pointer (some ⟨w.heap.size, 0, none⟩), .pointer (some ⟨w.heap.size + 1 + 1, 0, none⟩), .pointer (some ⟨w.heap.size + 1 + 1 + 1, 0, none⟩)], args := #[] }] } ∧ Dk w wk a L.length cap ⟨k, key, ⟨ok, on, os⟩, ⟨vk, vn, vs⟩⟩ (.slice none 0 0) (repObj 0 V.zero) ∧ w.heap.size + 3 < b6 ∧ w.heap.size + 3 < b7 ∧ b6 ≠ b7 ∧ wk.heap[b6]? = some (.cells #[.int .i64 xk, .float .f64 xn, .string xs] 50) ∧ wk.heap[b7]? = some (.cells #[.int .i64 tk, .float .f64 tn, .string ts] 50)) (by kernel_rfl) (by kernel_rfl) (fun _ _ _ h => h) (by rfl) (by rfl) ?_ ?_
  · intro a_ wk
    rintro ⟨b6, b7, s8, s9, s10, s11, s12, s13, s14, s15, s16, s17, s18, s19, s20, s21, s22, s23, rfl, hd, h6, h7, hne, hb6, hb7⟩
    have HDK := Lib.hid hd
    have HB6 := Lib.hid hb6
    have HB7 := Lib.hid hb7
    clear hd hb6 hb7
    go_wp2_with fail
    refine wp_region_door (p4 := .pointer (some ⟨w.heap.size + 1 + 1, 0, none⟩)) (p5 := .pointer (some ⟨w.heap.size + 1 + 1 + 1, 0, none⟩)) (S := fun wq => (wq.heap[w.heap.size]? = some (.cells #[.slice a L.length cap] 22) ∧ wq.heap[w.heap.size + 1]? = some (Cm.mk k key ⟨ok, on, os⟩ ⟨vk, vn, vs⟩).obj) ∧ wq.heap[b6]? = some (.cells #[.int .i64 xk, .float .f64 xn, .string xs] 50) ∧ wq.heap[b7]? = some (.cells #[.int .i64 tk, .float .f64 tn, .string ts] 50)) (fun a_ wf => a_.tmps.getD 4 undef = .pointer (some ⟨w.heap.size + 1 + 1, 0, none⟩) ∧ a_.tmps.getD 5 undef = .pointer (some ⟨w.heap.size + 1 + 1 + 1, 0, none⟩) ∧ a_.defers = [{ target := .fn (.func 84) #[.pointer (some ⟨w.heap.size, 0, none⟩), .pointer (some ⟨w.heap.size + 1 + 1, 0, none⟩), .pointer (some ⟨w.heap.size + 1 + 1 + 1, 0, none⟩)], args := #[] }] ∧ ∃ b' a' cap', Made w wf b' a' cap' M ∧ wf.heap[w.heap.size + 1 + 1]? = some (.cells #[.slice a' M.length cap'] 22) ∧ wf.heap[w.heap.size + 1 + 1 + 1]? = some (repObj 0 ⟨tk, tn, ts⟩)) (by kernel_rfl) (by kernel_rfl) (fun _ _ _ h => h) (by rfl) (by rfl) ?tail5 ?region5
    case tail5 =>
      intro a_ wf
      rintro ⟨t4, t5, hdef, b', a', cap', hm, hs, hh⟩
      go_wp2_with fail
      show Leaves _ _ _ _ _ _ _
      rw [hdef]
      refine leaves_cons (f := 84) (args := #[.pointer (some ⟨w.heap.size, 0, none⟩), .pointer (some ⟨w.heap.size + 1 + 1, 0, none⟩), .pointer (some ⟨w.heap.size + 1 + 1 + 1, 0, none⟩)]) (by simp) (by simp [go_sem]) ?_
      refine (catch_idle _ _ _ _).mono ?_
      rintro e u' w'' ⟨rfl, rfl, rfl⟩
      have l2 := cells1 hs
      obtain ⟨y0, y1, y2, y3⟩ := cells4 hh
      dsimp only at y0 y1 y2 y3
      refine ⟨.tuple #[.slice a' M.length cap', rep 0 ⟨tk, tn, ts⟩], ?_, b', a', cap', rfl, hm⟩
      rw [results_cells rfl, t4, t5]
      go_simp
    obtain ⟨w5, hw5⟩ : ∃ v, v = wk.drew := ⟨_, rfl⟩
    rw [← hw5]
    have HDK5 : Hid (Dk w w5 a L.length cap ⟨k, key, ⟨ok, on, os⟩, ⟨vk, vn, vs⟩⟩ (.slice none 0 0) (repObj 0 V.zero)) := by rw [hw5]; exact HDK.out.on ((Beh.start _).drew)
    have HS5 : Hid ((w5.heap[w.heap.size]? = some (.cells #[.slice a L.length cap] 22) ∧ w5.heap[w.heap.size + 1]? = some (Cm.mk k key ⟨ok, on, os⟩ ⟨vk, vn, vs⟩).obj) ∧ w5.heap[b6]? = some (.cells #[.int .i64 xk, .float .f64 xn, .string xs] 50) ∧ w5.heap[b7]? = some (.cells #[.int .i64 tk, .float .f64 tn, .string ts] 50)) := ⟨⟨HDK5.out.b0, HDK5.out.b1⟩, by rw [hw5]; exact HB6.out, by rw [hw5]; exact HB7.out⟩
    clear hw5 HDK HB6 HB7
    refine wpAnyH_take (i := 0) (v := ?_) rfl (by kernel_rfl) (by kernel_rfl) (by kernel_rfl) (fun _ _ _ h => h) (Or.inl ⟨by exact Eq.refl true, ?_⟩) HS5.out ?_
    rotate_left
    · intro wq hq
      have l0 := cells1 hq.1.1
      obtain ⟨c0, c1, c2, c3, c4, c5, c6, c7⟩ := cells8 hq.1.2
      dsimp only at c0 c1 c2 c3 c4 c5 c6 c7
      obtain ⟨x0, x1, x2, _⟩ := cells3 hq.2.1
      obtain ⟨y0, y1, y2, _⟩ := cells3 hq.2.2
      clear hq
      go_simp
      rfl
    ((try simp only [Act.put]); (try simp only [List.setIfInBounds_toArray]); (try simp only [List.set_cons_zero, List.set_cons_succ]))
    refine wpAnyH_take (i := 1) (v := ?_) rfl (by kernel_rfl) (by kernel_rfl) (by kernel_rfl) (fun _ _ _ h => h) (Or.inl ⟨by exact Eq.refl true, ?_⟩) HS5.out ?_
    rotate_left
    · intro wq hq
      have l0 := cells1 hq.1.1
      obtain ⟨c0, c1, c2, c3, c4, c5, c6, c7⟩ := cells8 hq.1.2
      dsimp only at c0 c1 c2 c3 c4 c5 c6 c7
      obtain ⟨x0, x1, x2, _⟩ := cells3 hq.2.1
      obtain ⟨y0, y1, y2, _⟩ := cells3 hq.2.2
      clear hq
      go_simp
      rfl
    ((try simp only [Act.put]); (try simp only [List.setIfInBounds_toArray]); (try simp only [List.set_cons_zero, List.set_cons_succ]))
    refine wpAnyH_take (i := 2) (v := ?_) rfl (by kernel_rfl) (by kernel_rfl) (by kernel_rfl) (fun _ _ _ h => h) (Or.inl ⟨by exact Eq.refl true, ?_⟩) HS5.out ?_
    rotate_left
    · intro wq hq
      have l0 := cells1 hq.1.1
      obtain ⟨c0, c1, c2, c3, c4, c5, c6, c7⟩ := cells8 hq.1.2
      dsimp only at c0 c1 c2 c3 c4 c5 c6 c7
      obtain ⟨x0, x1, x2, _⟩ := cells3 hq.2.1
      obtain ⟨y0, y1, y2, _⟩ := cells3 hq.2.2
      clear hq
      go_simp
      rfl
    ((try simp only [Act.put]); (try simp only [List.setIfInBounds_toArray]); (try simp only [List.set_cons_zero, List.set_cons_succ]))
    refine wpAnyH_take (i := 3) (v := ?_) rfl (by kernel_rfl) (by kernel_rfl) (by kernel_rfl) (fun _ _ _ h => h) (Or.inl ⟨by exact Eq.refl true, ?_⟩) HS5.out ?_
    rotate_left
    · intro wq hq
      have l0 := cells1 hq.1.1
      obtain ⟨c0, c1, c2, c3, c4, c5, c6, c7⟩ := cells8 hq.1.2
      dsimp only at c0 c1 c2 c3 c4 c5 c6 c7
      obtain ⟨x0, x1, x2, _⟩ := cells3 hq.2.1
      obtain ⟨y0, y1, y2, _⟩ := cells3 hq.2.2
      clear hq
      go_simp
      rfl
    ((try simp only [Act.put]); (try simp only [List.setIfInBounds_toArray]); (try simp only [List.set_cons_zero, List.set_cons_succ]))
    refine wpAnyH_take (i := 5) (v := ?_) rfl (by kernel_rfl) (by kernel_rfl) (by kernel_rfl) (fun _ _ _ h => h) (Or.inl ⟨by exact Eq.refl true, ?_⟩) HS5.out ?_
    rotate_left
    · intro wq hq
      have l0 := cells1 hq.1.1
      obtain ⟨c0, c1, c2, c3, c4, c5, c6, c7⟩ := cells8 hq.1.2
      dsimp only at c0 c1 c2 c3 c4 c5 c6 c7
      obtain ⟨x0, x1, x2, _⟩ := cells3 hq.2.1
      obtain ⟨y0, y1, y2, _⟩ := cells3 hq.2.2
      clear hq
      go_simp
      rfl
    ((try simp only [Act.put]); (try simp only [List.setIfInBounds_toArray]); (try simp only [List.set_cons_zero, List.set_cons_succ]))
    refine wpAnyH_take (i := 6) (v := ?_) rfl (by kernel_rfl) (by kernel_rfl) (by kernel_rfl) (fun _ _ _ h => h) (Or.inl ⟨by exact Eq.refl true, ?_⟩) HS5.out ?_
    rotate_left
    · intro wq hq
      have l0 := cells1 hq.1.1
      obtain ⟨c0, c1, c2, c3, c4, c5, c6, c7⟩ := cells8 hq.1.2
      dsimp only at c0 c1 c2 c3 c4 c5 c6 c7
      obtain ⟨x0, x1, x2, _⟩ := cells3 hq.2.1
      obtain ⟨y0, y1, y2, _⟩ := cells3 hq.2.2
      clear hq
      go_simp
      rfl
    ((try simp only [Act.put]); (try simp only [List.setIfInBounds_toArray]); (try simp only [List.set_cons_zero, List.set_cons_succ]))
    refine wpAnyH_ready (rs := [4]) (by kernel_rfl) (by simp) ?_
    refine AllReadyH.cons rfl (fun K hK => ?_) AllReadyH.nil
    go_simp
    go_at_call 88
    refine Calls.mono ((HWI _).out (by exact HDK5.out.beh)) ?_
    rintro e w6 ⟨b', a', cap', rfl, hm⟩
    have HM := Lib.hid (hm.from HDK5.out.beh)
    have hgt : w.heap.size + 3 < b' := by have := hm.new; have := heap_lt HDK5.out.b3; omega
    have HDK6 : Hid (Dk w w6 a L.length cap ⟨k, key, ⟨ok, on, os⟩, ⟨vk, vn, vs⟩⟩ (.slice none 0 0) (repObj 0 V.zero)) := HDK5.out.on hm.beh
    have HS6 : Hid ((w6.heap[w.heap.size]? = some (.cells #[.slice a L.length cap] 22) ∧ w6.heap[w.heap.size + 1]? = some (Cm.mk k key ⟨ok, on, os⟩ ⟨vk, vn, vs⟩).obj) ∧ w6.heap[b6]? = some (.cells #[.int .i64 xk, .float .f64 xn, .string xs] 50) ∧ w6.heap[b7]? = some (.cells #[.int .i64 tk, .float .f64 tn, .string ts] 50)) := ⟨⟨HDK6.out.b0, HDK6.out.b1⟩, box_on HS5.out.2.1 hm.beh, box_on HS5.out.2.2 hm.beh⟩
    clear hm
    refine hK.out _ _ HS6.out (fun _ => ?_)
    clear hK K
    try ((try simp only [Act.put]); (try simp only [List.setIfInBounds_toArray]); (try simp only [List.set_cons_zero, List.set_cons_succ]))
    refine wpAnyH_ready (rs := [7]) (by kernel_rfl) (by simp) ?_
    refine AllReadyH.cons rfl (fun K hK => ?_) AllReadyH.nil
    have e0 := cells1 HDK6.out.b2
    have f0 := frozen_of HDK6.out.b2 0
    go_simp
    obtain ⟨w7, hw⟩ : ∃ v, v = w6.setCell ⟨w.heap.size + 1 + 1, 0, none⟩ (.slice a' M.length cap') := ⟨_, rfl⟩
    have HM7 : Hid (Made w w7 b' a' cap' M) := by rw [hw]; exact HM.out.set (by omega) (by omega) _ _
    have H2 : Hid (w7.heap[w.heap.size + 1 + 1]? = some (.cells #[.slice a' M.length cap'] 22)) := by rw [hw]; exact heap_setc HDK6.out.b2
    have H3 : Hid (w7.heap[w.heap.size + 1 + 1 + 1]? = some (repObj 0 V.zero)) := by rw [hw]; exact heap_seto HDK6.out.b3 _ (by omega) _
    have HS7 : Hid ((w7.heap[w.heap.size]? = some (.cells #[.slice a L.length cap] 22) ∧ w7.heap[w.heap.size + 1]? = some (Cm.mk k key ⟨ok, on, os⟩ ⟨vk, vn, vs⟩).obj) ∧ w7.heap[b6]? = some (.cells #[.int .i64 xk, .float .f64 xn, .string xs] 50) ∧ w7.heap[b7]? = some (.cells #[.int .i64 tk, .float .f64 tn, .string ts] 50)) := by rw [hw]; exact ⟨⟨heap_seto HS6.out.1.1 _ (by omega) _, heap_seto HS6.out.1.2 _ (by omega) _⟩, heap_seto HS6.out.2.1 _ (by omega) _, heap_seto HS6.out.2.2 _ (by omega) _⟩
    rw [← hw]
    refine hK.out _ _ HS7.out (fun _ => ?_)
    clear hK K hw e0 f0
    refine wpAnyH_ready (rs := [8]) (by kernel_rfl) (by simp) ?_
    refine AllReadyH.cons rfl (fun K hK => ?_) AllReadyH.nil
    obtain ⟨e0, e1, e2, e3⟩ := cells4 H3.out
    have f0 := frozen_of H3.out 0
    have f1 := frozen_of H3.out 1
    have f2 := frozen_of H3.out 2
    have f3 := frozen_of H3.out 3
    go_simp
    obtain ⟨w8, hw⟩ : ∃ v, v = (((w7.setCell ⟨w.heap.size + 1 + 1 + 1, 0, none⟩ (.int .i64 0)).setCell ⟨w.heap.size + 1 + 1 + 1, 1, none⟩ (.int .i64 tk)).setCell ⟨w.heap.size + 1 + 1 + 1, 2, none⟩ (.float .f64 tn)).setCell ⟨w.heap.size + 1 + 1 + 1, 3, none⟩ (.string ts) := ⟨_, rfl⟩
    have HM8 : Hid (Made w w8 b' a' cap' M) := by rw [hw]; exact (((HM7.out.set (by omega) (by omega) _ _).set (by omega) (by omega) _ _).set (by omega) (by omega) _ _).set (by omega) (by omega) _ _
    have H28 : Hid (w8.heap[w.heap.size + 1 + 1]? = some (.cells #[.slice a' M.length cap'] 22)) := by rw [hw]; exact heap_seto (heap_seto (heap_seto (heap_seto H2.out _ (by omega) _) _ (by omega) _) _ (by omega) _) _ (by omega) _
    have H38 : Hid (w8.heap[w.heap.size + 1 + 1 + 1]? = some (repObj 0 ⟨tk, tn, ts⟩)) := by rw [hw]; exact heap_setc (heap_setc (heap_setc (heap_setc H3.out)))
    have HS8 : Hid ((w8.heap[w.heap.size]? = some (.cells #[.slice a L.length cap] 22) ∧ w8.heap[w.heap.size + 1]? = some (Cm.mk k key ⟨ok, on, os⟩ ⟨vk, vn, vs⟩).obj) ∧ w8.heap[b6]? = some (.cells #[.int .i64 xk, .float .f64 xn, .string xs] 50) ∧ w8.heap[b7]? = some (.cells #[.int .i64 tk, .float .f64 tn, .string ts] 50)) := by rw [hw]; exact ⟨⟨heap_seto (heap_seto (heap_seto (heap_seto HS7.out.1.1 _ (by omega) _) _ (by omega) _) _ (by omega) _) _ (by omega) _, heap_seto (heap_seto (heap_seto (heap_seto HS7.out.1.2 _ (by omega) _) _ (by omega) _) _ (by omega) _) _ (by omega) _⟩, heap_seto (heap_seto (heap_seto (heap_seto HS7.out.2.1 _ (by omega) _) _ (by omega) _) _ (by omega) _) _ (by omega) _, heap_seto (heap_seto (heap_seto (heap_seto HS7.out.2.2 _ (by omega) _) _ (by omega) _) _ (by omega) _) _ (by omega) _⟩
    rw [← hw]
    refine hK.out _ _ HS8.out (fun _ => ?_)
    clear hK K hw
    refine wpAnyH_done (by kernel_rfl) ?_ _
    exact ⟨rfl, rfl, rfl, b', a', cap', HM8.out, H28.out, H38.out⟩
  obtain ⟨w1, hw1⟩ : ∃ v, v = w'.drew := ⟨_, rfl⟩
  rw [← hw1]
  have HS1 : Hid (Dk w w1 a L.length cap ⟨k, key, ⟨ok, on, os⟩, ⟨vk, vn, vs⟩⟩ (.slice none 0 0) (repObj 0 V.zero)) := by rw [hw1]; exact HD.out.on ((Beh.start _).drew)
  clear hw1
  refine wpAnyH_take (i := 0) (v := ?_) rfl (by kernel_rfl) (by kernel_rfl) (by kernel_rfl) (fun _ _ _ h => h) (Or.inl ⟨by exact Eq.refl true, ?_⟩) HS1.out ?_
  rotate_left
  · intro wq hq
    obtain ⟨⟨l0, c0, c1, c2, c3, c4, c5, c6, c7⟩, hqr⟩ := LQ.out wq hq
    clear hq hqr
    go_simp
    rfl
  ((try simp only [Act.put]); (try simp only [List.setIfInBounds_toArray]); (try simp only [List.set_cons_zero, List.set_cons_succ]))
  refine wpAnyH_take (i := 1) (v := ?_) rfl (by kernel_rfl) (by kernel_rfl) (by kernel_rfl) (fun _ _ _ h => h) (Or.inl ⟨by exact Eq.refl true, ?_⟩) HS1.out ?_
  rotate_left
  · intro wq hq
    obtain ⟨⟨l0, c0, c1, c2, c3, c4, c5, c6, c7⟩, hqr⟩ := LQ.out wq hq
    clear hq hqr
    go_simp
    rfl
  ((try simp only [Act.put]); (try simp only [List.setIfInBounds_toArray]); (try simp only [List.set_cons_zero, List.set_cons_succ]))
  refine wpAnyH_take (i := 2) (v := ?_) rfl (by kernel_rfl) (by kernel_rfl) (by kernel_rfl) (fun _ _ _ h => h) (Or.inl ⟨by exact Eq.refl true, ?_⟩) HS1.out ?_
  rotate_left
  · intro wq hq
    obtain ⟨⟨l0, c0, c1, c2, c3, c4, c5, c6, c7⟩, hqr⟩ := LQ.out wq hq
    clear hq hqr
    go_simp
    rfl
  ((try simp only [Act.put]); (try simp only [List.setIfInBounds_toArray]); (try simp only [List.set_cons_zero, List.set_cons_succ]))
  refine wpAnyH_take (i := 4) (v := ?_) rfl (by kernel_rfl) (by kernel_rfl) (by kernel_rfl) (fun _ _ _ h => h) (Or.inl ⟨by exact Eq.refl true, ?_⟩) HS1.out ?_
  rotate_left
  · intro wq hq
    obtain ⟨⟨l0, c0, c1, c2, c3, c4, c5, c6, c7⟩, hqr⟩ := LQ.out wq hq
    clear hq hqr
    go_simp
    rfl
  ((try simp only [Act.put]); (try simp only [List.setIfInBounds_toArray]); (try simp only [List.set_cons_zero, List.set_cons_succ]))
  refine wpAnyH_ready (rs := [3, 9, 10]) (by kernel_rfl) (by simp) ?_
  refine AllReadyH.cons rfl (fun K hK => ?_) ?_
  · go_simp
    go_at_call 87
    refine Calls.mono ((HG _).out (by exact HS1.out.beh)) ?_
    rintro e w2 ⟨rfl, hb⟩
    have HS2 := Lib.hid (HS1.out.on hb)
    refine hK.out _ _ HS2.out (fun _ => ?_)
    clear hK K hb
    try ((try simp only [Act.put]); (try simp only [List.setIfInBounds_toArray]); (try simp only [List.set_cons_zero, List.set_cons_succ]))
    refine wpAnyH_ready (rs := [5, 9, 10]) (by kernel_rfl) (by simp) ?_
    refine AllReadyH.cons rfl (fun K hK => ?_) ?_
    · go_simp
      go_at_call 86
      refine Calls.mono ((HW _).out) ?_
      rintro e w3 ⟨rfl, hb⟩
      have HS3 := Lib.hid (HS2.out.on hb)
      refine hK.out _ _ HS3.out (fun _ => ?_)
      clear hK K hb
      try ((try simp only [Act.put]); (try simp only [List.setIfInBounds_toArray]); (try simp only [List.set_cons_zero, List.set_cons_succ]))
      refine wpAnyH_take (i := 6) (v := ?_) rfl (by kernel_rfl) (by kernel_rfl) (by kernel_rfl) (fun _ _ _ h => h) (Or.inl ⟨by exact Eq.refl true, ?_⟩) HS3.out ?_
      rotate_left
      · intro wq hq
        obtain ⟨⟨l0, c0, c1, c2, c3, c4, c5, c6, c7⟩, hqr⟩ := LQ.out wq hq
        clear hq hqr
        go_simp
        rfl
      ((try simp only [Act.put]); (try simp only [List.setIfInBounds_toArray]); (try simp only [List.set_cons_zero, List.set_cons_succ]))
      refine wpAnyH_take (i := 7) (v := ?_) rfl (by kernel_rfl) (by kernel_rfl) (by kernel_rfl) (fun _ _ _ h => h) (Or.inl ⟨by exact Eq.refl true, ?_⟩) HS3.out ?_
      rotate_left
      · intro wq hq
        obtain ⟨⟨l0, c0, c1, c2, c3, c4, c5, c6, c7⟩, hqr⟩ := LQ.out wq hq
        clear hq hqr
        go_simp
        rfl
      ((try simp only [Act.put]); (try simp only [List.setIfInBounds_toArray]); (try simp only [List.set_cons_zero, List.set_cons_succ]))
      refine wpAnyH_take (i := 8) (v := ?_) rfl (by kernel_rfl) (by kernel_rfl) (by kernel_rfl) (fun _ _ _ h => h) (Or.inl ⟨by exact Eq.refl true, ?_⟩) HS3.out ?_
      rotate_left
      · intro wq hq
        obtain ⟨⟨l0, c0, c1, c2, c3, c4, c5, c6, c7⟩, hqr⟩ := LQ.out wq hq
        clear hq hqr
        go_simp
        rfl
      ((try simp only [Act.put]); (try simp only [List.setIfInBounds_toArray]); (try simp only [List.set_cons_zero, List.set_cons_succ]))
      refine wpAnyH_ready (rs := [9, 10]) (by kernel_rfl) (by simp) ?_
      refine AllReadyH.cons rfl (fun K hK => ?_) ?_
      · go_simp
        obtain ⟨w4, hw⟩ : ∃ v, v = w3.alloc (.cells #[.int .i64 0, .float .f64 0, .string ⟨#[]⟩] 50) := ⟨_, rfl⟩
        obtain ⟨b6, hb6⟩ : ∃ v, v = w3.heap.size := ⟨_, rfl⟩
        have HS4 : Hid (Dk w w4 a L.length cap ⟨k, key, ⟨ok, on, os⟩, ⟨vk, vn, vs⟩⟩ (.slice none 0 0) (repObj 0 V.zero)) := by rw [hw]; exact HS3.out.on (below_alloc _ _)
        have HB6 : Hid (w4.heap[b6]? = some (.cells #[.int .i64 0, .float .f64 0, .string ⟨#[]⟩] 50)) := by rw [hw]; exact alloc_here _ hb6
        have hgt6 : w.heap.size + 3 < b6 := by have := heap_lt HS3.out.b3; omega
        rw [← hw, ← hb6]
        refine hK.out _ _ HS4.out (fun _ => ?_)
        clear hK K hw hb6
        refine wpAnyH_ready (rs := [10]) (by kernel_rfl) (by simp) ?_
        refine AllReadyH.cons rfl (fun K hK => ?_) ?_
        · go_simp
          obtain ⟨w5, hw⟩ : ∃ v, v = w4.alloc (.cells #[.int .i64 0, .float .f64 0, .string ⟨#[]⟩] 50) := ⟨_, rfl⟩
          obtain ⟨b7, hb7⟩ : ∃ v, v = w4.heap.size := ⟨_, rfl⟩
          have HS5 : Hid (Dk w w5 a L.length cap ⟨k, key, ⟨ok, on, os⟩, ⟨vk, vn, vs⟩⟩ (.slice none 0 0) (repObj 0 V.zero)) := by rw [hw]; exact HS4.out.on (below_alloc _ _)
          have HB7 : Hid (w5.heap[b7]? = some (.cells #[.int .i64 0, .float .f64 0, .string ⟨#[]⟩] 50)) := by rw [hw]; exact alloc_here _ hb7
          have hne : b6 ≠ b7 := by have := heap_lt HB6.out; omega
          have HB6 : Hid (w5.heap[b6]? = some (.cells #[.int .i64 0, .float .f64 0, .string ⟨#[]⟩] 50)) := by rw [hw]; exact old_alloc _ HB6.out
          have hgt7 : w.heap.size + 3 < b7 := by have := heap_lt HS4.out.b3; omega
          rw [← hw, ← hb7]
          refine hK.out _ _ HS5.out (fun _ => ?_)
          clear hK K hw hb7
          refine wpAnyH_ready (rs := [11]) (by kernel_rfl) (by simp) ?_
          refine AllReadyH.cons rfl (fun K hK => ?_) AllReadyH.nil
          obtain ⟨e0, e1, e2, f0, f1, f2⟩ := cells3 HB6.out
          go_simp
          obtain ⟨w6, hw⟩ : ∃ v, v = (((w5.setCell ⟨b6, 0, none⟩ (.int .i64 xk)).setCell ⟨b6, 1, none⟩ (.float .f64 xn)).setCell ⟨b6, 2, none⟩ (.string xs)) := ⟨_, rfl⟩
          have HS6 : Hid (Dk w w6 a L.length cap ⟨k, key, ⟨ok, on, os⟩, ⟨vk, vn, vs⟩⟩ (.slice none 0 0) (repObj 0 V.zero)) := by rw [hw]; exact ((HS5.out.set hgt6 _ _).set hgt6 _ _).set hgt6 _ _
          have HB7 : Hid (w6.heap[b7]? = some (.cells #[.int .i64 0, .float .f64 0, .string ⟨#[]⟩] 50)) := by rw [hw]; exact heap_seto (heap_seto (heap_seto HB7.out _ (by omega) _) _ (by omega) _) _ (by omega) _
          have HB6 : Hid (w6.heap[b6]? = some (.cells #[.int .i64 xk, .float .f64 xn, .string xs] 50)) := by rw [hw]; exact heap_setc (heap_setc (heap_setc HB6.out))
          rw [← hw]
          refine hK.out _ _ HS6.out (fun _ => ?_)
          clear hK K hw e0 e1 e2 f0 f1 f2
          refine wpAnyH_ready (rs := [12]) (by kernel_rfl) (by simp) ?_
          refine AllReadyH.cons rfl (fun K hK => ?_) AllReadyH.nil
          obtain ⟨e0, e1, e2, f0, f1, f2⟩ := cells3 HB7.out
          go_simp
          obtain ⟨w7, hw⟩ : ∃ v, v = (((w6.setCell ⟨b7, 0, none⟩ (.int .i64 tk)).setCell ⟨b7, 1, none⟩ (.float .f64 tn)).setCell ⟨b7, 2, none⟩ (.string ts)) := ⟨_, rfl⟩
          have HS7 : Hid (Dk w w7 a L.length cap ⟨k, key, ⟨ok, on, os⟩, ⟨vk, vn, vs⟩⟩ (.slice none 0 0) (repObj 0 V.zero)) := by rw [hw]; exact ((HS6.out.set hgt7 _ _).set hgt7 _ _).set hgt7 _ _
          have HB6 : Hid (w7.heap[b6]? = some (.cells #[.int .i64 xk, .float .f64 xn, .string xs] 50)) := by rw [hw]; exact heap_seto (heap_seto (heap_seto HB6.out _ (by omega) _) _ (by omega) _) _ (by omega) _
          have HB7 : Hid (w7.heap[b7]? = some (.cells #[.int .i64 tk, .float .f64 tn, .string ts] 50)) := by rw [hw]; exact heap_setc (heap_setc (heap_setc HB7.out))
          rw [← hw]
          refine hK.out _ _ HS7.out (fun _ => ?_)
          clear hK K hw e0 e1 e2 f0 f1 f2
          refine wpAnyH_done (by kernel_rfl) ?_ _
          exact ⟨b6, b7, _, _, _, _, _, _, _, _, _, _, _, _, _, _, _, _, rfl, HS7.out, hgt6, hgt7, by omega, HB6.out, HB7.out⟩
        exact AllReadyH.nil
      refine AllReadyH.cons rfl (fun K hK => ?_) ?_
      · go_simp
        obtain ⟨w4, hw⟩ : ∃ v, v = w3.alloc (.cells #[.int .i64 0, .float .f64 0, .string ⟨#[]⟩] 50) := ⟨_, rfl⟩
        obtain ⟨b7, hb7⟩ : ∃ v, v = w3.heap.size := ⟨_, rfl⟩
        have HS4 : Hid (Dk w w4 a L.length cap ⟨k, key, ⟨ok, on, os⟩, ⟨vk, vn, vs⟩⟩ (.slice none 0 0) (repObj 0 V.zero)) := by rw [hw]; exact HS3.out.on (below_alloc _ _)
        have HB7 : Hid (w4.heap[b7]? = some (.cells #[.int .i64 0, .float .f64 0, .string ⟨#[]⟩] 50)) := by rw [hw]; exact alloc_here _ hb7
        have hgt7 : w.heap.size + 3 < b7 := by have := heap_lt HS3.out.b3; omega
        rw [← hw, ← hb7]
        refine hK.out _ _ HS4.out (fun _ => ?_)
        clear hK K hw hb7
        refine wpAnyH_ready (rs := [9]) (by kernel_rfl) (by simp) ?_
        refine AllReadyH.cons rfl (fun K hK => ?_) ?_
        · go_simp
          obtain ⟨w5, hw⟩ : ∃ v, v = w4.alloc (.cells #[.int .i64 0, .float .f64 0, .string ⟨#[]⟩] 50) := ⟨_, rfl⟩
          obtain ⟨b6, hb6⟩ : ∃ v, v = w4.heap.size := ⟨_, rfl⟩
          have HS5 : Hid (Dk w w5 a L.length cap ⟨k, key, ⟨ok, on, os⟩, ⟨vk, vn, vs⟩⟩ (.slice none 0 0) (repObj 0 V.zero)) := by rw [hw]; exact HS4.out.on (below_alloc _ _)
          have HB6 : Hid (w5.heap[b6]? = some (.cells #[.int .i64 0, .float .f64 0, .string ⟨#[]⟩] 50)) := by rw [hw]; exact alloc_here _ hb6
          have hne : b7 ≠ b6 := by have := heap_lt HB7.out; omega
          have HB7 : Hid (w5.heap[b7]? = some (.cells #[.int .i64 0, .float .f64 0, .string ⟨#[]⟩] 50)) := by rw [hw]; exact old_alloc _ HB7.out
          have hgt6 : w.heap.size + 3 < b6 := by have := heap_lt HS4.out.b3; omega
          rw [← hw, ← hb6]
          refine hK.out _ _ HS5.out (fun _ => ?_)
          clear hK K hw hb6
          refine wpAnyH_ready (rs := [11]) (by kernel_rfl) (by simp) ?_
          refine AllReadyH.cons rfl (fun K hK => ?_) AllReadyH.nil
          obtain ⟨e0, e1, e2, f0, f1, f2⟩ := cells3 HB6.out
          go_simp
          obtain ⟨w6, hw⟩ : ∃ v, v = (((w5.setCell ⟨b6, 0, none⟩ (.int .i64 xk)).setCell ⟨b6, 1, none⟩ (.float .f64 xn)).setCell ⟨b6, 2, none⟩ (.string xs)) := ⟨_, rfl⟩
          have HS6 : Hid (Dk w w6 a L.length cap ⟨k, key, ⟨ok, on, os⟩, ⟨vk, vn, vs⟩⟩ (.slice none 0 0) (repObj 0 V.zero)) := by rw [hw]; exact ((HS5.out.set hgt6 _ _).set hgt6 _ _).set hgt6 _ _
          have HB7 : Hid (w6.heap[b7]? = some (.cells #[.int .i64 0, .float .f64 0, .string ⟨#[]⟩] 50)) := by rw [hw]; exact heap_seto (heap_seto (heap_seto HB7.out _ (by omega) _) _ (by omega) _) _ (by omega) _
          have HB6 : Hid (w6.heap[b6]? = some (.cells #[.int .i64 xk, .float .f64 xn, .string xs] 50)) := by rw [hw]; exact heap_setc (heap_setc (heap_setc HB6.out))
          rw [← hw]
          refine hK.out _ _ HS6.out (fun _ => ?_)
          clear hK K hw e0 e1 e2 f0 f1 f2
          refine wpAnyH_ready (rs := [12]) (by kernel_rfl) (by simp) ?_
          refine AllReadyH.cons rfl (fun K hK => ?_) AllReadyH.nil
          obtain ⟨e0, e1, e2, f0, f1, f2⟩ := cells3 HB7.out
          go_simp
          obtain ⟨w7, hw⟩ : ∃ v, v = (((w6.setCell ⟨b7, 0, none⟩ (.int .i64 tk)).setCell ⟨b7, 1, none⟩ (.float .f64 tn)).setCell ⟨b7, 2, none⟩ (.string ts)) := ⟨_, rfl⟩
          have HS7 : Hid (Dk w w7 a L.length cap ⟨k, key, ⟨ok, on, os⟩, ⟨vk, vn, vs⟩⟩ (.slice none 0 0) (repObj 0 V.zero)) := by rw [hw]; exact ((HS6.out.set hgt7 _ _).set hgt7 _ _).set hgt7 _ _
          have HB6 : Hid (w7.heap[b6]? = some (.cells #[.int .i64 xk, .float .f64 xn, .string xs] 50)) := by rw [hw]; exact heap_seto (heap_seto (heap_seto HB6.out _ (by omega) _) _ (by omega) _) _ (by omega) _
          have HB7 : Hid (w7.heap[b7]? = some (.cells #[.int .i64 tk, .float .f64 tn, .string ts] 50)) := by rw [hw]; exact heap_setc (heap_setc (heap_setc HB7.out))
          rw [← hw]
          refine hK.out _ _ HS7.out (fun _ => ?_)
          clear hK K hw e0 e1 e2 f0 f1 f2
          refine wpAnyH_done (by kernel_rfl) ?_ _
          exact ⟨b6, b7, _, _, _, _, _, _, _, _, _, _, _, _, _, _, _, _, rfl, HS7.out, hgt6, hgt7, by omega, HB6.out, HB7.out⟩
        exact AllReadyH.nil
      exact AllReadyH.nil
    refine AllReadyH.cons rfl (fun K hK => ?_) ?_
    · go_simp
      obtain ⟨w3, hw⟩ : ∃ v, v = w2.alloc (.cells #[.int .i64 0, .float .f64 0, .string ⟨#[]⟩] 50) := ⟨_, rfl⟩
      obtain ⟨b6, hb6⟩ : ∃ v, v = w2.heap.size := ⟨_, rfl⟩
      have HS3 : Hid (Dk w w3 a L.length cap ⟨k, key, ⟨ok, on, os⟩, ⟨vk, vn, vs⟩⟩ (.slice none 0 0) (repObj 0 V.zero)) := by rw [hw]; exact HS2.out.on (below_alloc _ _)
      have HB6 : Hid (w3.heap[b6]? = some (.cells #[.int .i64 0, .float .f64 0, .string ⟨#[]⟩] 50)) := by rw [hw]; exact alloc_here _ hb6
      have hgt6 : w.heap.size + 3 < b6 := by have := heap_lt HS2.out.b3; omega
      rw [← hw, ← hb6]
      refine hK.out _ _ HS3.out (fun _ => ?_)
      clear hK K hw hb6
      refine wpAnyH_ready (rs := [5, 10]) (by kernel_rfl) (by simp) ?_
      refine AllReadyH.cons rfl (fun K hK => ?_) ?_
      · go_simp
        go_at_call 86
        refine Calls.mono ((HW _).out) ?_
        rintro e w4 ⟨rfl, hb⟩
        have HS4 := Lib.hid (HS3.out.on hb)
        have HB6 := Lib.hid (box_on HB6.out hb)
        refine hK.out _ _ HS4.out (fun _ => ?_)
        clear hK K hb
        try ((try simp only [Act.put]); (try simp only [List.setIfInBounds_toArray]); (try simp only [List.set_cons_zero, List.set_cons_succ]))
        refine wpAnyH_take (i := 6) (v := ?_) rfl (by kernel_rfl) (by kernel_rfl) (by kernel_rfl) (fun _ _ _ h => h) (Or.inl ⟨by exact Eq.refl true, ?_⟩) HS4.out ?_
        rotate_left
        · intro wq hq
          obtain ⟨⟨l0, c0, c1, c2, c3, c4, c5, c6, c7⟩, hqr⟩ := LQ.out wq hq
          clear hq hqr
          go_simp
          rfl
        ((try simp only [Act.put]); (try simp only [List.setIfInBounds_toArray]); (try simp only [List.set_cons_zero, List.set_cons_succ]))
        refine wpAnyH_take (i := 7) (v := ?_) rfl (by kernel_rfl) (by kernel_rfl) (by kernel_rfl) (fun _ _ _ h => h) (Or.inl ⟨by exact Eq.refl true, ?_⟩) HS4.out ?_
        rotate_left
        · intro wq hq
          obtain ⟨⟨l0, c0, c1, c2, c3, c4, c5, c6, c7⟩, hqr⟩ := LQ.out wq hq
          clear hq hqr
          go_simp
          rfl
        ((try simp only [Act.put]); (try simp only [List.setIfInBounds_toArray]); (try simp only [List.set_cons_zero, List.set_cons_succ]))
        refine wpAnyH_take (i := 8) (v := ?_) rfl (by kernel_rfl) (by kernel_rfl) (by kernel_rfl) (fun _ _ _ h => h) (Or.inl ⟨by exact Eq.refl true, ?_⟩) HS4.out ?_
        rotate_left
        · intro wq hq
          obtain ⟨⟨l0, c0, c1, c2, c3, c4, c5, c6, c7⟩, hqr⟩ := LQ.out wq hq
          clear hq hqr
          go_simp
          rfl
        ((try simp only [Act.put]); (try simp only [List.setIfInBounds_toArray]); (try simp only [List.set_cons_zero, List.set_cons_succ]))
        refine wpAnyH_ready (rs := [10]) (by kernel_rfl) (by simp) ?_
        refine AllReadyH.cons rfl (fun K hK => ?_) ?_
        · go_simp
          obtain ⟨w5, hw⟩ : ∃ v, v = w4.alloc (.cells #[.int .i64 0, .float .f64 0, .string ⟨#[]⟩] 50) := ⟨_, rfl⟩
          obtain ⟨b7, hb7⟩ : ∃ v, v = w4.heap.size := ⟨_, rfl⟩
          have HS5 : Hid (Dk w w5 a L.length cap ⟨k, key, ⟨ok, on, os⟩, ⟨vk, vn, vs⟩⟩ (.slice none 0 0) (repObj 0 V.zero)) := by rw [hw]; exact HS4.out.on (below_alloc _ _)
          have HB7 : Hid (w5.heap[b7]? = some (.cells #[.int .i64 0, .float .f64 0, .string ⟨#[]⟩] 50)) := by rw [hw]; exact alloc_here _ hb7
          have hne : b6 ≠ b7 := by have := heap_lt HB6.out; omega
          have HB6 : Hid (w5.heap[b6]? = some (.cells #[.int .i64 0, .float .f64 0, .string ⟨#[]⟩] 50)) := by rw [hw]; exact old_alloc _ HB6.out
          have hgt7 : w.heap.size + 3 < b7 := by have := heap_lt HS4.out.b3; omega
          rw [← hw, ← hb7]
          refine hK.out _ _ HS5.out (fun _ => ?_)
          clear hK K hw hb7
          refine wpAnyH_ready (rs := [11]) (by kernel_rfl) (by simp) ?_
          refine AllReadyH.cons rfl (fun K hK => ?_) AllReadyH.nil
          obtain ⟨e0, e1, e2, f0, f1, f2⟩ := cells3 HB6.out
          go_simp
          obtain ⟨w6, hw⟩ : ∃ v, v = (((w5.setCell ⟨b6, 0, none⟩ (.int .i64 xk)).setCell ⟨b6, 1, none⟩ (.float .f64 xn)).setCell ⟨b6, 2, none⟩ (.string xs)) := ⟨_, rfl⟩
          have HS6 : Hid (Dk w w6 a L.length cap ⟨k, key, ⟨ok, on, os⟩, ⟨vk, vn, vs⟩⟩ (.slice none 0 0) (repObj 0 V.zero)) := by rw [hw]; exact ((HS5.out.set hgt6 _ _).set hgt6 _ _).set hgt6 _ _
          have HB7 : Hid (w6.heap[b7]? = some (.cells #[.int .i64 0, .float .f64 0, .string ⟨#[]⟩] 50)) := by rw [hw]; exact heap_seto (heap_seto (heap_seto HB7.out _ (by omega) _) _ (by omega) _) _ (by omega) _
          have HB6 : Hid (w6.heap[b6]? = some (.cells #[.int .i64 xk, .float .f64 xn, .string xs] 50)) := by rw [hw]; exact heap_setc (heap_setc (heap_setc HB6.out))
          rw [← hw]
          refine hK.out _ _ HS6.out (fun _ => ?_)
          clear hK K hw e0 e1 e2 f0 f1 f2
          refine wpAnyH_ready (rs := [12]) (by kernel_rfl) (by simp) ?_
          refine AllReadyH.cons rfl (fun K hK => ?_) AllReadyH.nil
          obtain ⟨e0, e1, e2, f0, f1, f2⟩ := cells3 HB7.out
          go_simp
          obtain ⟨w7, hw⟩ : ∃ v, v = (((w6.setCell ⟨b7, 0, none⟩ (.int .i64 tk)).setCell ⟨b7, 1, none⟩ (.float .f64 tn)).setCell ⟨b7, 2, none⟩ (.string ts)) := ⟨_, rfl⟩
          have HS7 : Hid (Dk w w7 a L.length cap ⟨k, key, ⟨ok, on, os⟩, ⟨vk, vn, vs⟩⟩ (.slice none 0 0) (repObj 0 V.zero)) := by rw [hw]; exact ((HS6.out.set hgt7 _ _).set hgt7 _ _).set hgt7 _ _
          have HB6 : Hid (w7.heap[b6]? = some (.cells #[.int .i64 xk, .float .f64 xn, .string xs] 50)) := by rw [hw]; exact heap_seto (heap_seto (heap_seto HB6.out _ (by omega) _) _ (by omega) _) _ (by omega) _
          have HB7 : Hid (w7.heap[b7]? = some (.cells #[.int .i64 tk, .float .f64 tn, .string ts] 50)) := by rw [hw]; exact heap_setc (heap_setc (heap_setc HB7.out))
          rw [← hw]
          refine hK.out _ _ HS7.out (fun _ => ?_)
          clear hK K hw e0 e1 e2 f0 f1 f2
          refine wpAnyH_done (by kernel_rfl) ?_ _
          exact ⟨b6, b7, _, _, _, _, _, _, _, _, _, _, _, _, _, _, _, _, rfl, HS7.out, hgt6, hgt7, by omega, HB6.out, HB7.out⟩
        exact AllReadyH.nil
      refine AllReadyH.cons rfl (fun K hK => ?_) ?_
      · go_simp
        obtain ⟨w4, hw⟩ : ∃ v, v = w3.alloc (.cells #[.int .i64 0, .float .f64 0, .string ⟨#[]⟩] 50) := ⟨_, rfl⟩
        obtain ⟨b7, hb7⟩ : ∃ v, v = w3.heap.size := ⟨_, rfl⟩
        have HS4 : Hid (Dk w w4 a L.length cap ⟨k, key, ⟨ok, on, os⟩, ⟨vk, vn, vs⟩⟩ (.slice none 0 0) (repObj 0 V.zero)) := by rw [hw]; exact HS3.out.on (below_alloc _ _)
        have HB7 : Hid (w4.heap[b7]? = some (.cells #[.int .i64 0, .float .f64 0, .string ⟨#[]⟩] 50)) := by rw [hw]; exact alloc_here _ hb7
        have hne : b6 ≠ b7 := by have := heap_lt HB6.out; omega
        have HB6 : Hid (w4.heap[b6]? = some (.cells #[.int .i64 0, .float .f64 0, .string ⟨#[]⟩] 50)) := by rw [hw]; exact old_alloc _ HB6.out
        have hgt7 : w.heap.size + 3 < b7 := by have := heap_lt HS3.out.b3; omega
        rw [← hw, ← hb7]
        refine hK.out _ _ HS4.out (fun _ => ?_)
        clear hK K hw hb7
        refine wpAnyH_ready (rs := [5]) (by kernel_rfl) (by simp) ?_
        refine AllReadyH.cons rfl (fun K hK => ?_) ?_
        · go_simp
          go_at_call 86
          refine Calls.mono ((HW _).out) ?_
          rintro e w5 ⟨rfl, hb⟩
          have HS5 := Lib.hid (HS4.out.on hb)
          have HB6 := Lib.hid (box_on HB6.out hb)
          have HB7 := Lib.hid (box_on HB7.out hb)
          refine hK.out _ _ HS5.out (fun _ => ?_)
          clear hK K hb
          try ((try simp only [Act.put]); (try simp only [List.setIfInBounds_toArray]); (try simp only [List.set_cons_zero, List.set_cons_succ]))
          refine wpAnyH_take (i := 6) (v := ?_) rfl (by kernel_rfl) (by kernel_rfl) (by kernel_rfl) (fun _ _ _ h => h) (Or.inl ⟨by exact Eq.refl true, ?_⟩) HS5.out ?_
          rotate_left
          · intro wq hq
            obtain ⟨⟨l0, c0, c1, c2, c3, c4, c5, c6, c7⟩, hqr⟩ := LQ.out wq hq
            clear hq hqr
            go_simp
            rfl
          ((try simp only [Act.put]); (try simp only [List.setIfInBounds_toArray]); (try simp only [List.set_cons_zero, List.set_cons_succ]))
          refine wpAnyH_take (i := 7) (v := ?_) rfl (by kernel_rfl) (by kernel_rfl) (by kernel_rfl) (fun _ _ _ h => h) (Or.inl ⟨by exact Eq.refl true, ?_⟩) HS5.out ?_
          rotate_left
          · intro wq hq
            obtain ⟨⟨l0, c0, c1, c2, c3, c4, c5, c6, c7⟩, hqr⟩ := LQ.out wq hq
            clear hq hqr
            go_simp
            rfl
          ((try simp only [Act.put]); (try simp only [List.setIfInBounds_toArray]); (try simp only [List.set_cons_zero, List.set_cons_succ]))
          refine wpAnyH_take (i := 8) (v := ?_) rfl (by kernel_rfl) (by kernel_rfl) (by kernel_rfl) (fun _ _ _ h => h) (Or.inl ⟨by exact Eq.refl true, ?_⟩) HS5.out ?_
          rotate_left
          · intro wq hq
            obtain ⟨⟨l0, c0, c1, c2, c3, c4, c5, c6, c7⟩, hqr⟩ := LQ.out wq hq
            clear hq hqr
            go_simp
            rfl
          ((try simp only [Act.put]); (try simp only [List.setIfInBounds_toArray]); (try simp only [List.set_cons_zero, List.set_cons_succ]))
          refine wpAnyH_ready (rs := [11]) (by kernel_rfl) (by simp) ?_
          refine AllReadyH.cons rfl (fun K hK => ?_) AllReadyH.nil
          obtain ⟨e0, e1, e2, f0, f1, f2⟩ := cells3 HB6.out
          go_simp
          obtain ⟨w6, hw⟩ : ∃ v, v = (((w5.setCell ⟨b6, 0, none⟩ (.int .i64 xk)).setCell ⟨b6, 1, none⟩ (.float .f64 xn)).setCell ⟨b6, 2, none⟩ (.string xs)) := ⟨_, rfl⟩
          have HS6 : Hid (Dk w w6 a L.length cap ⟨k, key, ⟨ok, on, os⟩, ⟨vk, vn, vs⟩⟩ (.slice none 0 0) (repObj 0 V.zero)) := by rw [hw]; exact ((HS5.out.set hgt6 _ _).set hgt6 _ _).set hgt6 _ _
          have HB7 : Hid (w6.heap[b7]? = some (.cells #[.int .i64 0, .float .f64 0, .string ⟨#[]⟩] 50)) := by rw [hw]; exact heap_seto (heap_seto (heap_seto HB7.out _ (by omega) _) _ (by omega) _) _ (by omega) _
          have HB6 : Hid (w6.heap[b6]? = some (.cells #[.int .i64 xk, .float .f64 xn, .string xs] 50)) := by rw [hw]; exact heap_setc (heap_setc (heap_setc HB6.out))
          rw [← hw]
          refine hK.out _ _ HS6.out (fun _ => ?_)
          clear hK K hw e0 e1 e2 f0 f1 f2
          refine wpAnyH_ready (rs := [12]) (by kernel_rfl) (by simp) ?_
          refine AllReadyH.cons rfl (fun K hK => ?_) AllReadyH.nil
          obtain ⟨e0, e1, e2, f0, f1, f2⟩ := cells3 HB7.out
          go_simp
          obtain ⟨w7, hw⟩ : ∃ v, v = (((w6.setCell ⟨b7, 0, none⟩ (.int .i64 tk)).setCell ⟨b7, 1, none⟩ (.float .f64 tn)).setCell ⟨b7, 2, none⟩ (.string ts)) := ⟨_, rfl⟩
          have HS7 : Hid (Dk w w7 a L.length cap ⟨k, key, ⟨ok, on, os⟩, ⟨vk, vn, vs⟩⟩ (.slice none 0 0) (repObj 0 V.zero)) := by rw [hw]; exact ((HS6.out.set hgt7 _ _).set hgt7 _ _).set hgt7 _ _
          have HB6 : Hid (w7.heap[b6]? = some (.cells #[.int .i64 xk, .float .f64 xn, .string xs] 50)) := by rw [hw]; exact heap_seto (heap_seto (heap_seto HB6.out _ (by omega) _) _ (by omega) _) _ (by omega) _
          have HB7 : Hid (w7.heap[b7]? = some (.cells #[.int .i64 tk, .float .f64 tn, .string ts] 50)) := by rw [hw]; exact heap_setc (heap_setc (heap_setc HB7.out))
          rw [← hw]
          refine hK.out _ _ HS7.out (fun _ => ?_)
          clear hK K hw e0 e1 e2 f0 f1 f2
          refine wpAnyH_done (by kernel_rfl) ?_ _
          exact ⟨b6, b7, _, _, _, _, _, _, _, _, _, _, _, _, _, _, _, _, rfl, HS7.out, hgt6, hgt7, by omega, HB6.out, HB7.out⟩
        exact AllReadyH.nil
      exact AllReadyH.nil
    refine AllReadyH.cons rfl (fun K hK => ?_) ?_
    · go_simp
      obtain ⟨w3, hw⟩ : ∃ v, v = w2.alloc (.cells #[.int .i64 0, .float .f64 0, .string ⟨#[]⟩] 50) := ⟨_, rfl⟩
      obtain ⟨b7, hb7⟩ : ∃ v, v = w2.heap.size := ⟨_, rfl⟩
      have HS3 : Hid (Dk w w3 a L.length cap ⟨k, key, ⟨ok, on, os⟩, ⟨vk, vn, vs⟩⟩ (.slice none 0 0) (repObj 0 V.zero)) := by rw [hw]; exact HS2.out.on (below_alloc _ _)
      have HB7 : Hid (w3.heap[b7]? = some (.cells #[.int .i64 0, .float .f64 0, .string ⟨#[]⟩] 50)) := by rw [hw]; exact alloc_here _ hb7
      have hgt7 : w.heap.size + 3 < b7 := by have := heap_lt HS2.out.b3; omega
      rw [← hw, ← hb7]
      refine hK.out _ _ HS3.out (fun _ => ?_)
      clear hK K hw hb7
      refine wpAnyH_ready (rs := [5, 9]) (by kernel_rfl) (by simp) ?_
      refine AllReadyH.cons rfl (fun K hK => ?_) ?_
      · go_simp
        go_at_call 86
        refine Calls.mono ((HW _).out) ?_
        rintro e w4 ⟨rfl, hb⟩
        have HS4 := Lib.hid (HS3.out.on hb)
        have HB7 := Lib.hid (box_on HB7.out hb)
        refine hK.out _ _ HS4.out (fun _ => ?_)
        clear hK K hb
        try ((try simp only [Act.put]); (try simp only [List.setIfInBounds_toArray]); (try simp only [List.set_cons_zero, List.set_cons_succ]))
        refine wpAnyH_take (i := 6) (v := ?_) rfl (by kernel_rfl) (by kernel_rfl) (by kernel_rfl) (fun _ _ _ h => h) (Or.inl ⟨by exact Eq.refl true, ?_⟩) HS4.out ?_
        rotate_left
        · intro wq hq
          obtain ⟨⟨l0, c0, c1, c2, c3, c4, c5, c6, c7⟩, hqr⟩ := LQ.out wq hq
          clear hq hqr
          go_simp
          rfl
        ((try simp only [Act.put]); (try simp only [List.setIfInBounds_toArray]); (try simp only [List.set_cons_zero, List.set_cons_succ]))
        refine wpAnyH_take (i := 7) (v := ?_) rfl (by kernel_rfl) (by kernel_rfl) (by kernel_rfl) (fun _ _ _ h => h) (Or.inl ⟨by exact Eq.refl true, ?_⟩) HS4.out ?_
        rotate_left
        · intro wq hq
          obtain ⟨⟨l0, c0, c1, c2, c3, c4, c5, c6, c7⟩, hqr⟩ := LQ.out wq hq
          clear hq hqr
          go_simp
          rfl
        ((try simp only [Act.put]); (try simp only [List.setIfInBounds_toArray]); (try simp only [List.set_cons_zero, List.set_cons_succ]))
        refine wpAnyH_take (i := 8) (v := ?_) rfl (by kernel_rfl) (by kernel_rfl) (by kernel_rfl) (fun _ _ _ h => h) (Or.inl ⟨by exact Eq.refl true, ?_⟩) HS4.out ?_
        rotate_left
        · intro wq hq
          obtain ⟨⟨l0, c0, c1, c2, c3, c4, c5, c6, c7⟩, hqr⟩ := LQ.out wq hq
          clear hq hqr
          go_simp
          rfl
        ((try simp only [Act.put]); (try simp only [List.setIfInBounds_toArray]); (try simp only [List.set_cons_zero, List.set_cons_succ]))
        refine wpAnyH_ready (rs := [9]) (by kernel_rfl) (by simp) ?_
        refine AllReadyH.cons rfl (fun K hK => ?_) ?_
        · go_simp
          obtain ⟨w5, hw⟩ : ∃ v, v = w4.alloc (.cells #[.int .i64 0, .float .f64 0, .string ⟨#[]⟩] 50) := ⟨_, rfl⟩
          obtain ⟨b6, hb6⟩ : ∃ v, v = w4.heap.size := ⟨_, rfl⟩
          have HS5 : Hid (Dk w w5 a L.length cap ⟨k, key, ⟨ok, on, os⟩, ⟨vk, vn, vs⟩⟩ (.slice none 0 0) (repObj 0 V.zero)) := by rw [hw]; exact HS4.out.on (below_alloc _ _)
          have HB6 : Hid (w5.heap[b6]? = some (.cells #[.int .i64 0, .float .f64 0, .string ⟨#[]⟩] 50)) := by rw [hw]; exact alloc_here _ hb6
          have hne : b7 ≠ b6 := by have := heap_lt HB7.out; omega
          have HB7 : Hid (w5.heap[b7]? = some (.cells #[.int .i64 0, .float .f64 0, .string ⟨#[]⟩] 50)) := by rw [hw]; exact old_alloc _ HB7.out
          have hgt6 : w.heap.size + 3 < b6 := by have := heap_lt HS4.out.b3; omega
          rw [← hw, ← hb6]
          refine hK.out _ _ HS5.out (fun _ => ?_)
          clear hK K hw hb6
          refine wpAnyH_ready (rs := [11]) (by kernel_rfl) (by simp) ?_
          refine AllReadyH.cons rfl (fun K hK => ?_) AllReadyH.nil
          obtain ⟨e0, e1, e2, f0, f1, f2⟩ := cells3 HB6.out
          go_simp
          obtain ⟨w6, hw⟩ : ∃ v, v = (((w5.setCell ⟨b6, 0, none⟩ (.int .i64 xk)).setCell ⟨b6, 1, none⟩ (.float .f64 xn)).setCell ⟨b6, 2, none⟩ (.string xs)) := ⟨_, rfl⟩
          have HS6 : Hid (Dk w w6 a L.length cap ⟨k, key, ⟨ok, on, os⟩, ⟨vk, vn, vs⟩⟩ (.slice none 0 0) (repObj 0 V.zero)) := by rw [hw]; exact ((HS5.out.set hgt6 _ _).set hgt6 _ _).set hgt6 _ _
          have HB7 : Hid (w6.heap[b7]? = some (.cells #[.int .i64 0, .float .f64 0, .string ⟨#[]⟩] 50)) := by rw [hw]; exact heap_seto (heap_seto (heap_seto HB7.out _ (by omega) _) _ (by omega) _) _ (by omega) _
          have HB6 : Hid (w6.heap[b6]? = some (.cells #[.int .i64 xk, .float .f64 xn, .string xs] 50)) := by rw [hw]; exact heap_setc (heap_setc (heap_setc HB6.out))
          rw [← hw]
          refine hK.out _ _ HS6.out (fun _ => ?_)
          clear hK K hw e0 e1 e2 f0 f1 f2
          refine wpAnyH_ready (rs := [12]) (by kernel_rfl) (by simp) ?_
          refine AllReadyH.cons rfl (fun K hK => ?_) AllReadyH.nil
          obtain ⟨e0, e1, e2, f0, f1, f2⟩ := cells3 HB7.out
          go_simp
          obtain ⟨w7, hw⟩ : ∃ v, v = (((w6.setCell ⟨b7, 0, none⟩ (.int .i64 tk)).setCell ⟨b7, 1, none⟩ (.float .f64 tn)).setCell ⟨b7, 2, none⟩ (.string ts)) := ⟨_, rfl⟩
          have HS7 : Hid (Dk w w7 a L.length cap ⟨k, key, ⟨ok, on, os⟩, ⟨vk, vn, vs⟩⟩ (.slice none 0 0) (repObj 0 V.zero)) := by rw [hw]; exact ((HS6.out.set hgt7 _ _).set hgt7 _ _).set hgt7 _ _
          have HB6 : Hid (w7.heap[b6]? = some (.cells #[.int .i64 xk, .float .f64 xn, .string xs] 50)) := by rw [hw]; exact heap_seto (heap_seto (heap_seto HB6.out _ (by omega) _) _ (by omega) _) _ (by omega) _
          have HB7 : Hid (w7.heap[b7]? = some (.cells #[.int .i64 tk, .float .f64 tn, .string ts] 50)) := by rw [hw]; exact heap_setc (heap_setc (heap_setc HB7.out))
          rw [← hw]
          refine hK.out _ _ HS7.out (fun _ => ?_)
          clear hK K hw e0 e1 e2 f0 f1 f2
          refine wpAnyH_done (by kernel_rfl) ?_ _
          exact ⟨b6, b7, _, _, _, _, _, _, _, _, _, _, _, _, _, _, _, _, rfl, HS7.out, hgt6, hgt7, by omega, HB6.out, HB7.out⟩
        exact AllReadyH.nil
      refine AllReadyH.cons rfl (fun K hK => ?_) ?_
      · go_simp
        obtain ⟨w4, hw⟩ : ∃ v, v = w3.alloc (.cells #[.int .i64 0, .float .f64 0, .string ⟨#[]⟩] 50) := ⟨_, rfl⟩
        obtain ⟨b6, hb6⟩ : ∃ v, v = w3.heap.size := ⟨_, rfl⟩
        have HS4 : Hid (Dk w w4 a L.length cap ⟨k, key, ⟨ok, on, os⟩, ⟨vk, vn, vs⟩⟩ (.slice none 0 0) (repObj 0 V.zero)) := by rw [hw]; exact HS3.out.on (below_alloc _ _)
        have HB6 : Hid (w4.heap[b6]? = some (.cells #[.int .i64 0, .float .f64 0, .string ⟨#[]⟩] 50)) := by rw [hw]; exact alloc_here _ hb6
        have hne : b7 ≠ b6 := by have := heap_lt HB7.out; omega
        have HB7 : Hid (w4.heap[b7]? = some (.cells #[.int .i64 0, .float .f64 0, .string ⟨#[]⟩] 50)) := by rw [hw]; exact old_alloc _ HB7.out
        have hgt6 : w.heap.size + 3 < b6 := by have := heap_lt HS3.out.b3; omega
        rw [← hw, ← hb6]
        refine hK.out _ _ HS4.out (fun _ => ?_)
        clear hK K hw hb6
        refine wpAnyH_ready (rs := [5]) (by kernel_rfl) (by simp) ?_
        refine AllReadyH.cons rfl (fun K hK => ?_) ?_
        · go_simp
          go_at_call 86
          refine Calls.mono ((HW _).out) ?_
          rintro e w5 ⟨rfl, hb⟩
          have HS5 := Lib.hid (HS4.out.on hb)
          have HB7 := Lib.hid (box_on HB7.out hb)
          have HB6 := Lib.hid (box_on HB6.out hb)
          refine hK.out _ _ HS5.out (fun _ => ?_)
          clear hK K hb
          try ((try simp only [Act.put]); (try simp only [List.setIfInBounds_toArray]); (try simp only [List.set_cons_zero, List.set_cons_succ]))
          refine wpAnyH_take (i := 6) (v := ?_) rfl (by kernel_rfl) (by kernel_rfl) (by kernel_rfl) (fun _ _ _ h => h) (Or.inl ⟨by exact Eq.refl true, ?_⟩) HS5.out ?_
          rotate_left
          · intro wq hq
            obtain ⟨⟨l0, c0, c1, c2, c3, c4, c5, c6, c7⟩, hqr⟩ := LQ.out wq hq
            clear hq hqr
            go_simp
            rfl
          ((try simp only [Act.put]); (try simp only [List.setIfInBounds_toArray]); (try simp only [List.set_cons_zero, List.set_cons_succ]))
          refine wpAnyH_take (i := 7) (v := ?_) rfl (by kernel_rfl) (by kernel_rfl) (by kernel_rfl) (fun _ _ _ h => h) (Or.inl ⟨by exact Eq.refl true, ?_⟩) HS5.out ?_
          rotate_left
          · intro wq hq
            obtain ⟨⟨l0, c0, c1, c2, c3, c4, c5, c6, c7⟩, hqr⟩ := LQ.out wq hq
            clear hq hqr
            go_simp
            rfl
          ((try simp only [Act.put]); (try simp only [List.setIfInBounds_toArray]); (try simp only [List.set_cons_zero, List.set_cons_succ]))
          refine wpAnyH_take (i := 8) (v := ?_) rfl (by kernel_rfl) (by kernel_rfl) (by kernel_rfl) (fun _ _ _ h => h) (Or.inl ⟨by exact Eq.refl true, ?_⟩) HS5.out ?_
          rotate_left
          · intro wq hq
            obtain ⟨⟨l0, c0, c1, c2, c3, c4, c5, c6, c7⟩, hqr⟩ := LQ.out wq hq
            clear hq hqr
            go_simp
            rfl
          ((try simp only [Act.put]); (try simp only [List.setIfInBounds_toArray]); (try simp only [List.set_cons_zero, List.set_cons_succ]))
          refine wpAnyH_ready (rs := [11]) (by kernel_rfl) (by simp) ?_
          refine AllReadyH.cons rfl (fun K hK => ?_) AllReadyH.nil
          obtain ⟨e0, e1, e2, f0, f1, f2⟩ := cells3 HB6.out
          go_simp
          obtain ⟨w6, hw⟩ : ∃ v, v = (((w5.setCell ⟨b6, 0, none⟩ (.int .i64 xk)).setCell ⟨b6, 1, none⟩ (.float .f64 xn)).setCell ⟨b6, 2, none⟩ (.string xs)) := ⟨_, rfl⟩
          have HS6 : Hid (Dk w w6 a L.length cap ⟨k, key, ⟨ok, on, os⟩, ⟨vk, vn, vs⟩⟩ (.slice none 0 0) (repObj 0 V.zero)) := by rw [hw]; exact ((HS5.out.set hgt6 _ _).set hgt6 _ _).set hgt6 _ _
          have HB7 : Hid (w6.heap[b7]? = some (.cells #[.int .i64 0, .float .f64 0, .string ⟨#[]⟩] 50)) := by rw [hw]; exact heap_seto (heap_seto (heap_seto HB7.out _ (by omega) _) _ (by omega) _) _ (by omega) _
          have HB6 : Hid (w6.heap[b6]? = some (.cells #[.int .i64 xk, .float .f64 xn, .string xs] 50)) := by rw [hw]; exact heap_setc (heap_setc (heap_setc HB6.out))
          rw [← hw]
          refine hK.out _ _ HS6.out (fun _ => ?_)
          clear hK K hw e0 e1 e2 f0 f1 f2
          refine wpAnyH_ready (rs := [12]) (by kernel_rfl) (by simp) ?_
          refine AllReadyH.cons rfl (fun K hK => ?_) AllReadyH.nil
          obtain ⟨e0, e1, e2, f0, f1, f2⟩ := cells3 HB7.out
          go_simp
          obtain ⟨w7, hw⟩ : ∃ v, v = (((w6.setCell ⟨b7, 0, none⟩ (.int .i64 tk)).setCell ⟨b7, 1, none⟩ (.float .f64 tn)).setCell ⟨b7, 2, none⟩ (.string ts)) := ⟨_, rfl⟩
          have HS7 : Hid (Dk w w7 a L.length cap ⟨k, key, ⟨ok, on, os⟩, ⟨vk, vn, vs⟩⟩ (.slice none 0 0) (repObj 0 V.zero)) := by rw [hw]; exact ((HS6.out.set hgt7 _ _).set hgt7 _ _).set hgt7 _ _
          have HB6 : Hid (w7.heap[b6]? = some (.cells #[.int .i64 xk, .float .f64 xn, .string xs] 50)) := by rw [hw]; exact heap_seto (heap_seto (heap_seto HB6.out _ (by omega) _) _ (by omega) _) _ (by omega) _
          have HB7 : Hid (w7.heap[b7]? = some (.cells #[.int .i64 tk, .float .f64 tn, .string ts] 50)) := by rw [hw]; exact heap_setc (heap_setc (heap_setc HB7.out))
          rw [← hw]
          refine hK.out _ _ HS7.out (fun _ => ?_)
          clear hK K hw e0 e1 e2 f0 f1 f2
          refine wpAnyH_done (by kernel_rfl) ?_ _
          exact ⟨b6, b7, _, _, _, _, _, _, _, _, _, _, _, _, _, _, _, _, rfl, HS7.out, hgt6, hgt7, by omega, HB6.out, HB7.out⟩
        exact AllReadyH.nil
      exact AllReadyH.nil
    exact AllReadyH.nil
  refine AllReadyH.cons rfl (fun K hK => ?_) ?_
  · go_simp
    obtain ⟨w2, hw⟩ : ∃ v, v = w1.alloc (.cells #[.int .i64 0, .float .f64 0, .string ⟨#[]⟩] 50) := ⟨_, rfl⟩
    obtain ⟨b6, hb6⟩ : ∃ v, v = w1.heap.size := ⟨_, rfl⟩
    have HS2 : Hid (Dk w w2 a L.length cap ⟨k, key, ⟨ok, on, os⟩, ⟨vk, vn, vs⟩⟩ (.slice none 0 0) (repObj 0 V.zero)) := by rw [hw]; exact HS1.out.on (below_alloc _ _)
    have HB6 : Hid (w2.heap[b6]? = some (.cells #[.int .i64 0, .float .f64 0, .string ⟨#[]⟩] 50)) := by rw [hw]; exact alloc_here _ hb6
    have hgt6 : w.heap.size + 3 < b6 := by have := heap_lt HS1.out.b3; omega
    rw [← hw, ← hb6]
    refine hK.out _ _ HS2.out (fun _ => ?_)
    clear hK K hw hb6
    refine wpAnyH_ready (rs := [3, 10]) (by kernel_rfl) (by simp) ?_
    refine AllReadyH.cons rfl (fun K hK => ?_) ?_
    · go_simp
      go_at_call 87
      refine Calls.mono ((HG _).out (by exact HS2.out.beh)) ?_
      rintro e w3 ⟨rfl, hb⟩
      have HS3 := Lib.hid (HS2.out.on hb)
      have HB6 := Lib.hid (box_on HB6.out hb)
      refine hK.out _ _ HS3.out (fun _ => ?_)
      clear hK K hb
      try ((try simp only [Act.put]); (try simp only [List.setIfInBounds_toArray]); (try simp only [List.set_cons_zero, List.set_cons_succ]))
      refine wpAnyH_ready (rs := [5, 10]) (by kernel_rfl) (by simp) ?_
      refine AllReadyH.cons rfl (fun K hK => ?_) ?_
      · go_simp
        go_at_call 86
        refine Calls.mono ((HW _).out) ?_
        rintro e w4 ⟨rfl, hb⟩
        have HS4 := Lib.hid (HS3.out.on hb)
        have HB6 := Lib.hid (box_on HB6.out hb)
        refine hK.out _ _ HS4.out (fun _ => ?_)
        clear hK K hb
        try ((try simp only [Act.put]); (try simp only [List.setIfInBounds_toArray]); (try simp only [List.set_cons_zero, List.set_cons_succ]))
        refine wpAnyH_take (i := 6) (v := ?_) rfl (by kernel_rfl) (by kernel_rfl) (by kernel_rfl) (fun _ _ _ h => h) (Or.inl ⟨by exact Eq.refl true, ?_⟩) HS4.out ?_
        rotate_left
        · intro wq hq
          obtain ⟨⟨l0, c0, c1, c2, c3, c4, c5, c6, c7⟩, hqr⟩ := LQ.out wq hq
          clear hq hqr
          go_simp
          rfl
        ((try simp only [Act.put]); (try simp only [List.setIfInBounds_toArray]); (try simp only [List.set_cons_zero, List.set_cons_succ]))
        refine wpAnyH_take (i := 7) (v := ?_) rfl (by kernel_rfl) (by kernel_rfl) (by kernel_rfl) (fun _ _ _ h => h) (Or.inl ⟨by exact Eq.refl true, ?_⟩) HS4.out ?_
        rotate_left
        · intro wq hq
          obtain ⟨⟨l0, c0, c1, c2, c3, c4, c5, c6, c7⟩, hqr⟩ := LQ.out wq hq
          clear hq hqr
          go_simp
          rfl
        ((try simp only [Act.put]); (try simp only [List.setIfInBounds_toArray]); (try simp only [List.set_cons_zero, List.set_cons_succ]))
        refine wpAnyH_take (i := 8) (v := ?_) rfl (by kernel_rfl) (by kernel_rfl) (by kernel_rfl) (fun _ _ _ h => h) (Or.inl ⟨by exact Eq.refl true, ?_⟩) HS4.out ?_
        rotate_left
        · intro wq hq
          obtain ⟨⟨l0, c0, c1, c2, c3, c4, c5, c6, c7⟩, hqr⟩ := LQ.out wq hq
          clear hq hqr
          go_simp
          rfl
        ((try simp only [Act.put]); (try simp only [List.setIfInBounds_toArray]); (try simp only [List.set_cons_zero, List.set_cons_succ]))
        refine wpAnyH_ready (rs := [10]) (by kernel_rfl) (by simp) ?_
        refine AllReadyH.cons rfl (fun K hK => ?_) ?_
        · go_simp
          obtain ⟨w5, hw⟩ : ∃ v, v = w4.alloc (.cells #[.int .i64 0, .float .f64 0, .string ⟨#[]⟩] 50) := ⟨_, rfl⟩
          obtain ⟨b7, hb7⟩ : ∃ v, v = w4.heap.size := ⟨_, rfl⟩
          have HS5 : Hid (Dk w w5 a L.length cap ⟨k, key, ⟨ok, on, os⟩, ⟨vk, vn, vs⟩⟩ (.slice none 0 0) (repObj 0 V.zero)) := by rw [hw]; exact HS4.out.on (below_alloc _ _)
          have HB7 : Hid (w5.heap[b7]? = some (.cells #[.int .i64 0, .float .f64 0, .string ⟨#[]⟩] 50)) := by rw [hw]; exact alloc_here _ hb7
          have hne : b6 ≠ b7 := by have := heap_lt HB6.out; omega
          have HB6 : Hid (w5.heap[b6]? = some (.cells #[.int .i64 0, .float .f64 0, .string ⟨#[]⟩] 50)) := by rw [hw]; exact old_alloc _ HB6.out
          have hgt7 : w.heap.size + 3 < b7 := by have := heap_lt HS4.out.b3; omega
          rw [← hw, ← hb7]
          refine hK.out _ _ HS5.out (fun _ => ?_)
          clear hK K hw hb7
          refine wpAnyH_ready (rs := [11]) (by kernel_rfl) (by simp) ?_
          refine AllReadyH.cons rfl (fun K hK => ?_) AllReadyH.nil
          obtain ⟨e0, e1, e2, f0, f1, f2⟩ := cells3 HB6.out
          go_simp
          obtain ⟨w6, hw⟩ : ∃ v, v = (((w5.setCell ⟨b6, 0, none⟩ (.int .i64 xk)).setCell ⟨b6, 1, none⟩ (.float .f64 xn)).setCell ⟨b6, 2, none⟩ (.string xs)) := ⟨_, rfl⟩
          have HS6 : Hid (Dk w w6 a L.length cap ⟨k, key, ⟨ok, on, os⟩, ⟨vk, vn, vs⟩⟩ (.slice none 0 0) (repObj 0 V.zero)) := by rw [hw]; exact ((HS5.out.set hgt6 _ _).set hgt6 _ _).set hgt6 _ _
          have HB7 : Hid (w6.heap[b7]? = some (.cells #[.int .i64 0, .float .f64 0, .string ⟨#[]⟩] 50)) := by rw [hw]; exact heap_seto (heap_seto (heap_seto HB7.out _ (by omega) _) _ (by omega) _) _ (by omega) _
          have HB6 : Hid (w6.heap[b6]? = some (.cells #[.int .i64 xk, .float .f64 xn, .string xs] 50)) := by rw [hw]; exact heap_setc (heap_setc (heap_setc HB6.out))
          rw [← hw]
          refine hK.out _ _ HS6.out (fun _ => ?_)
          clear hK K hw e0 e1 e2 f0 f1 f2
          refine wpAnyH_ready (rs := [12]) (by kernel_rfl) (by simp) ?_
          refine AllReadyH.cons rfl (fun K hK => ?_) AllReadyH.nil
          obtain ⟨e0, e1, e2, f0, f1, f2⟩ := cells3 HB7.out
          go_simp
          obtain ⟨w7, hw⟩ : ∃ v, v = (((w6.setCell ⟨b7, 0, none⟩ (.int .i64 tk)).setCell ⟨b7, 1, none⟩ (.float .f64 tn)).setCell ⟨b7, 2, none⟩ (.string ts)) := ⟨_, rfl⟩
          have HS7 : Hid (Dk w w7 a L.length cap ⟨k, key, ⟨ok, on, os⟩, ⟨vk, vn, vs⟩⟩ (.slice none 0 0) (repObj 0 V.zero)) := by rw [hw]; exact ((HS6.out.set hgt7 _ _).set hgt7 _ _).set hgt7 _ _
          have HB6 : Hid (w7.heap[b6]? = some (.cells #[.int .i64 xk, .float .f64 xn, .string xs] 50)) := by rw [hw]; exact heap_seto (heap_seto (heap_seto HB6.out _ (by omega) _) _ (by omega) _) _ (by omega) _
          have HB7 : Hid (w7.heap[b7]? = some (.cells #[.int .i64 tk, .float .f64 tn, .string ts] 50)) := by rw [hw]; exact heap_setc (heap_setc (heap_setc HB7.out))
          rw [← hw]
          refine hK.out _ _ HS7.out (fun _ => ?_)
          clear hK K hw e0 e1 e2 f0 f1 f2
          refine wpAnyH_done (by kernel_rfl) ?_ _
          exact ⟨b6, b7, _, _, _, _, _, _, _, _, _, _, _, _, _, _, _, _, rfl, HS7.out, hgt6, hgt7, by omega, HB6.out, HB7.out⟩
        exact AllReadyH.nil
      refine AllReadyH.cons rfl (fun K hK => ?_) ?_
      · go_simp
        obtain ⟨w4, hw⟩ : ∃ v, v = w3.alloc (.cells #[.int .i64 0, .float .f64 0, .string ⟨#[]⟩] 50) := ⟨_, rfl⟩
        obtain ⟨b7, hb7⟩ : ∃ v, v = w3.heap.size := ⟨_, rfl⟩
        have HS4 : Hid (Dk w w4 a L.length cap ⟨k, key, ⟨ok, on, os⟩, ⟨vk, vn, vs⟩⟩ (.slice none 0 0) (repObj 0 V.zero)) := by rw [hw]; exact HS3.out.on (below_alloc _ _)
        have HB7 : Hid (w4.heap[b7]? = some (.cells #[.int .i64 0, .float .f64 0, .string ⟨#[]⟩] 50)) := by rw [hw]; exact alloc_here _ hb7
        have hne : b6 ≠ b7 := by have := heap_lt HB6.out; omega
        have HB6 : Hid (w4.heap[b6]? = some (.cells #[.int .i64 0, .float .f64 0, .string ⟨#[]⟩] 50)) := by rw [hw]; exact old_alloc _ HB6.out
        have hgt7 : w.heap.size + 3 < b7 := by have := heap_lt HS3.out.b3; omega
        rw [← hw, ← hb7]
        refine hK.out _ _ HS4.out (fun _ => ?_)
        clear hK K hw hb7
        refine wpAnyH_ready (rs := [5]) (by kernel_rfl) (by simp) ?_
        refine AllReadyH.cons rfl (fun K hK => ?_) ?_
        · go_simp
          go_at_call 86
          refine Calls.mono ((HW _).out) ?_
          rintro e w5 ⟨rfl, hb⟩
          have HS5 := Lib.hid (HS4.out.on hb)
          have HB6 := Lib.hid (box_on HB6.out hb)
          have HB7 := Lib.hid (box_on HB7.out hb)
          refine hK.out _ _ HS5.out (fun _ => ?_)
          clear hK K hb
          try ((try simp only [Act.put]); (try simp only [List.setIfInBounds_toArray]); (try simp only [List.set_cons_zero, List.set_cons_succ]))
          refine wpAnyH_take (i := 6) (v := ?_) rfl (by kernel_rfl) (by kernel_rfl) (by kernel_rfl) (fun _ _ _ h => h) (Or.inl ⟨by exact Eq.refl true, ?_⟩) HS5.out ?_
          rotate_left
          · intro wq hq
            obtain ⟨⟨l0, c0, c1, c2, c3, c4, c5, c6, c7⟩, hqr⟩ := LQ.out wq hq
            clear hq hqr
            go_simp
            rfl
          ((try simp only [Act.put]); (try simp only [List.setIfInBounds_toArray]); (try simp only [List.set_cons_zero, List.set_cons_succ]))
          refine wpAnyH_take (i := 7) (v := ?_) rfl (by kernel_rfl) (by kernel_rfl) (by kernel_rfl) (fun _ _ _ h => h) (Or.inl ⟨by exact Eq.refl true, ?_⟩) HS5.out ?_
          rotate_left
          · intro wq hq
            obtain ⟨⟨l0, c0, c1, c2, c3, c4, c5, c6, c7⟩, hqr⟩ := LQ.out wq hq
            clear hq hqr
            go_simp
            rfl
          ((try simp only [Act.put]); (try simp only [List.setIfInBounds_toArray]); (try simp only [List.set_cons_zero, List.set_cons_succ]))
          refine wpAnyH_take (i := 8) (v := ?_) rfl (by kernel_rfl) (by kernel_rfl) (by kernel_rfl) (fun _ _ _ h => h) (Or.inl ⟨by exact Eq.refl true, ?_⟩) HS5.out ?_
          rotate_left
          · intro wq hq
            obtain ⟨⟨l0, c0, c1, c2, c3, c4, c5, c6, c7⟩, hqr⟩ := LQ.out wq hq
            clear hq hqr
            go_simp
            rfl
          ((try simp only [Act.put]); (try simp only [List.setIfInBounds_toArray]); (try simp only [List.set_cons_zero, List.set_cons_succ]))
          refine wpAnyH_ready (rs := [11]) (by kernel_rfl) (by simp) ?_
          refine AllReadyH.cons rfl (fun K hK => ?_) AllReadyH.nil
          obtain ⟨e0, e1, e2, f0, f1, f2⟩ := cells3 HB6.out
          go_simp
          obtain ⟨w6, hw⟩ : ∃ v, v = (((w5.setCell ⟨b6, 0, none⟩ (.int .i64 xk)).setCell ⟨b6, 1, none⟩ (.float .f64 xn)).setCell ⟨b6, 2, none⟩ (.string xs)) := ⟨_, rfl⟩
          have HS6 : Hid (Dk w w6 a L.length cap ⟨k, key, ⟨ok, on, os⟩, ⟨vk, vn, vs⟩⟩ (.slice none 0 0) (repObj 0 V.zero)) := by rw [hw]; exact ((HS5.out.set hgt6 _ _).set hgt6 _ _).set hgt6 _ _
          have HB7 : Hid (w6.heap[b7]? = some (.cells #[.int .i64 0, .float .f64 0, .string ⟨#[]⟩] 50)) := by rw [hw]; exact heap_seto (heap_seto (heap_seto HB7.out _ (by omega) _) _ (by omega) _) _ (by omega) _
          have HB6 : Hid (w6.heap[b6]? = some (.cells #[.int .i64 xk, .float .f64 xn, .string xs] 50)) := by rw [hw]; exact heap_setc (heap_setc (heap_setc HB6.out))
          rw [← hw]
          refine hK.out _ _ HS6.out (fun _ => ?_)
          clear hK K hw e0 e1 e2 f0 f1 f2
          refine wpAnyH_ready (rs := [12]) (by kernel_rfl) (by simp) ?_
          refine AllReadyH.cons rfl (fun K hK => ?_) AllReadyH.nil
          obtain ⟨e0, e1, e2, f0, f1, f2⟩ := cells3 HB7.out
          go_simp
          obtain ⟨w7, hw⟩ : ∃ v, v = (((w6.setCell ⟨b7, 0, none⟩ (.int .i64 tk)).setCell ⟨b7, 1, none⟩ (.float .f64 tn)).setCell ⟨b7, 2, none⟩ (.string ts)) := ⟨_, rfl⟩
          have HS7 : Hid (Dk w w7 a L.length cap ⟨k, key, ⟨ok, on, os⟩, ⟨vk, vn, vs⟩⟩ (.slice none 0 0) (repObj 0 V.zero)) := by rw [hw]; exact ((HS6.out.set hgt7 _ _).set hgt7 _ _).set hgt7 _ _
          have HB6 : Hid (w7.heap[b6]? = some (.cells #[.int .i64 xk, .float .f64 xn, .string xs] 50)) := by rw [hw]; exact heap_seto (heap_seto (heap_seto HB6.out _ (by omega) _) _ (by omega) _) _ (by omega) _
          have HB7 : Hid (w7.heap[b7]? = some (.cells #[.int .i64 tk, .float .f64 tn, .string ts] 50)) := by rw [hw]; exact heap_setc (heap_setc (heap_setc HB7.out))
          rw [← hw]
          refine hK.out _ _ HS7.out (fun _ => ?_)
          clear hK K hw e0 e1 e2 f0 f1 f2
          refine wpAnyH_done (by kernel_rfl) ?_ _
          exact ⟨b6, b7, _, _, _, _, _, _, _, _, _, _, _, _, _, _, _, _, rfl, HS7.out, hgt6, hgt7, by omega, HB6.out, HB7.out⟩
        exact AllReadyH.nil
      exact AllReadyH.nil
    refine AllReadyH.cons rfl (fun K hK => ?_) ?_
    · go_simp
      obtain ⟨w3, hw⟩ : ∃ v, v = w2.alloc (.cells #[.int .i64 0, .float .f64 0, .string ⟨#[]⟩] 50) := ⟨_, rfl⟩
      obtain ⟨b7, hb7⟩ : ∃ v, v = w2.heap.size := ⟨_, rfl⟩
      have HS3 : Hid (Dk w w3 a L.length cap ⟨k, key, ⟨ok, on, os⟩, ⟨vk, vn, vs⟩⟩ (.slice none 0 0) (repObj 0 V.zero)) := by rw [hw]; exact HS2.out.on (below_alloc _ _)
      have HB7 : Hid (w3.heap[b7]? = some (.cells #[.int .i64 0, .float .f64 0, .string ⟨#[]⟩] 50)) := by rw [hw]; exact alloc_here _ hb7
      have hne : b6 ≠ b7 := by have := heap_lt HB6.out; omega
      have HB6 : Hid (w3.heap[b6]? = some (.cells #[.int .i64 0, .float .f64 0, .string ⟨#[]⟩] 50)) := by rw [hw]; exact old_alloc _ HB6.out
      have hgt7 : w.heap.size + 3 < b7 := by have := heap_lt HS2.out.b3; omega
      rw [← hw, ← hb7]
      refine hK.out _ _ HS3.out (fun _ => ?_)
      clear hK K hw hb7
      refine wpAnyH_ready (rs := [3]) (by kernel_rfl) (by simp) ?_
      refine AllReadyH.cons rfl (fun K hK => ?_) ?_
      · go_simp
        go_at_call 87
        refine Calls.mono ((HG _).out (by exact HS3.out.beh)) ?_
        rintro e w4 ⟨rfl, hb⟩
        have HS4 := Lib.hid (HS3.out.on hb)
        have HB6 := Lib.hid (box_on HB6.out hb)
        have HB7 := Lib.hid (box_on HB7.out hb)
        refine hK.out _ _ HS4.out (fun _ => ?_)
        clear hK K hb
        try ((try simp only [Act.put]); (try simp only [List.setIfInBounds_toArray]); (try simp only [List.set_cons_zero, List.set_cons_succ]))
        refine wpAnyH_ready (rs := [5]) (by kernel_rfl) (by simp) ?_
        refine AllReadyH.cons rfl (fun K hK => ?_) ?_
        · go_simp
          go_at_call 86
          refine Calls.mono ((HW _).out) ?_
          rintro e w5 ⟨rfl, hb⟩
          have HS5 := Lib.hid (HS4.out.on hb)
          have HB6 := Lib.hid (box_on HB6.out hb)
          have HB7 := Lib.hid (box_on HB7.out hb)
          refine hK.out _ _ HS5.out (fun _ => ?_)
          clear hK K hb
          try ((try simp only [Act.put]); (try simp only [List.setIfInBounds_toArray]); (try simp only [List.set_cons_zero, List.set_cons_succ]))
          refine wpAnyH_take (i := 6) (v := ?_) rfl (by kernel_rfl) (by kernel_rfl) (by kernel_rfl) (fun _ _ _ h => h) (Or.inl ⟨by exact Eq.refl true, ?_⟩) HS5.out ?_
          rotate_left
          · intro wq hq
            obtain ⟨⟨l0, c0, c1, c2, c3, c4, c5, c6, c7⟩, hqr⟩ := LQ.out wq hq
            clear hq hqr
            go_simp
            rfl
          ((try simp only [Act.put]); (try simp only [List.setIfInBounds_toArray]); (try simp only [List.set_cons_zero, List.set_cons_succ]))
          refine wpAnyH_take (i := 7) (v := ?_) rfl (by kernel_rfl) (by kernel_rfl) (by kernel_rfl) (fun _ _ _ h => h) (Or.inl ⟨by exact Eq.refl true, ?_⟩) HS5.out ?_
          rotate_left
          · intro wq hq
            obtain ⟨⟨l0, c0, c1, c2, c3, c4, c5, c6, c7⟩, hqr⟩ := LQ.out wq hq
            clear hq hqr
            go_simp
            rfl
          ((try simp only [Act.put]); (try simp only [List.setIfInBounds_toArray]); (try simp only [List.set_cons_zero, List.set_cons_succ]))
          refine wpAnyH_take (i := 8) (v := ?_) rfl (by kernel_rfl) (by kernel_rfl) (by kernel_rfl) (fun _ _ _ h => h) (Or.inl ⟨by exact Eq.refl true, ?_⟩) HS5.out ?_
          rotate_left
          · intro wq hq
            obtain ⟨⟨l0, c0, c1, c2, c3, c4, c5, c6, c7⟩, hqr⟩ := LQ.out wq hq
            clear hq hqr
            go_simp
            rfl
          ((try simp only [Act.put]); (try simp only [List.setIfInBounds_toArray]); (try simp only [List.set_cons_zero, List.set_cons_succ]))
          refine wpAnyH_ready (rs := [11]) (by kernel_rfl) (by simp) ?_
          refine AllReadyH.cons rfl (fun K hK => ?_) AllReadyH.nil
          obtain ⟨e0, e1, e2, f0, f1, f2⟩ := cells3 HB6.out
          go_simp
          obtain ⟨w6, hw⟩ : ∃ v, v = (((w5.setCell ⟨b6, 0, none⟩ (.int .i64 xk)).setCell ⟨b6, 1, none⟩ (.float .f64 xn)).setCell ⟨b6, 2, none⟩ (.string xs)) := ⟨_, rfl⟩
          have HS6 : Hid (Dk w w6 a L.length cap ⟨k, key, ⟨ok, on, os⟩, ⟨vk, vn, vs⟩⟩ (.slice none 0 0) (repObj 0 V.zero)) := by rw [hw]; exact ((HS5.out.set hgt6 _ _).set hgt6 _ _).set hgt6 _ _
          have HB7 : Hid (w6.heap[b7]? = some (.cells #[.int .i64 0, .float .f64 0, .string ⟨#[]⟩] 50)) := by rw [hw]; exact heap_seto (heap_seto (heap_seto HB7.out _ (by omega) _) _ (by omega) _) _ (by omega) _
          have HB6 : Hid (w6.heap[b6]? = some (.cells #[.int .i64 xk, .float .f64 xn, .string xs] 50)) := by rw [hw]; exact heap_setc (heap_setc (heap_setc HB6.out))
          rw [← hw]
          refine hK.out _ _ HS6.out (fun _ => ?_)
          clear hK K hw e0 e1 e2 f0 f1 f2
          refine wpAnyH_ready (rs := [12]) (by kernel_rfl) (by simp) ?_
          refine AllReadyH.cons rfl (fun K hK => ?_) AllReadyH.nil
          obtain ⟨e0, e1, e2, f0, f1, f2⟩ := cells3 HB7.out
          go_simp
          obtain ⟨w7, hw⟩ : ∃ v, v = (((w6.setCell ⟨b7, 0, none⟩ (.int .i64 tk)).setCell ⟨b7, 1, none⟩ (.float .f64 tn)).setCell ⟨b7, 2, none⟩ (.string ts)) := ⟨_, rfl⟩
          have HS7 : Hid (Dk w w7 a L.length cap ⟨k, key, ⟨ok, on, os⟩, ⟨vk, vn, vs⟩⟩ (.slice none 0 0) (repObj 0 V.zero)) := by rw [hw]; exact ((HS6.out.set hgt7 _ _).set hgt7 _ _).set hgt7 _ _
          have HB6 : Hid (w7.heap[b6]? = some (.cells #[.int .i64 xk, .float .f64 xn, .string xs] 50)) := by rw [hw]; exact heap_seto (heap_seto (heap_seto HB6.out _ (by omega) _) _ (by omega) _) _ (by omega) _
          have HB7 : Hid (w7.heap[b7]? = some (.cells #[.int .i64 tk, .float .f64 tn, .string ts] 50)) := by rw [hw]; exact heap_setc (heap_setc (heap_setc HB7.out))
          rw [← hw]
          refine hK.out _ _ HS7.out (fun _ => ?_)
          clear hK K hw e0 e1 e2 f0 f1 f2
          refine wpAnyH_done (by kernel_rfl) ?_ _
          exact ⟨b6, b7, _, _, _, _, _, _, _, _, _, _, _, _, _, _, _, _, rfl, HS7.out, hgt6, hgt7, by omega, HB6.out, HB7.out⟩
        exact AllReadyH.nil
      exact AllReadyH.nil
    exact AllReadyH.nil
  refine AllReadyH.cons rfl (fun K hK => ?_) ?_
  · go_simp
    obtain ⟨w2, hw⟩ : ∃ v, v = w1.alloc (.cells #[.int .i64 0, .float .f64 0, .string ⟨#[]⟩] 50) := ⟨_, rfl⟩
    obtain ⟨b7, hb7⟩ : ∃ v, v = w1.heap.size := ⟨_, rfl⟩
    have HS2 : Hid (Dk w w2 a L.length cap ⟨k, key, ⟨ok, on, os⟩, ⟨vk, vn, vs⟩⟩ (.slice none 0 0) (repObj 0 V.zero)) := by rw [hw]; exact HS1.out.on (below_alloc _ _)
    have HB7 : Hid (w2.heap[b7]? = some (.cells #[.int .i64 0, .float .f64 0, .string ⟨#[]⟩] 50)) := by rw [hw]; exact alloc_here _ hb7
    have hgt7 : w.heap.size + 3 < b7 := by have := heap_lt HS1.out.b3; omega
    rw [← hw, ← hb7]
    refine hK.out _ _ HS2.out (fun _ => ?_)
    clear hK K hw hb7
    refine wpAnyH_ready (rs := [3, 9]) (by kernel_rfl) (by simp) ?_
    refine AllReadyH.cons rfl (fun K hK => ?_) ?_
    · go_simp
      go_at_call 87
      refine Calls.mono ((HG _).out (by exact HS2.out.beh)) ?_
      rintro e w3 ⟨rfl, hb⟩
      have HS3 := Lib.hid (HS2.out.on hb)
      have HB7 := Lib.hid (box_on HB7.out hb)
      refine hK.out _ _ HS3.out (fun _ => ?_)
      clear hK K hb
      try ((try simp only [Act.put]); (try simp only [List.setIfInBounds_toArray]); (try simp only [List.set_cons_zero, List.set_cons_succ]))
      refine wpAnyH_ready (rs := [5, 9]) (by kernel_rfl) (by simp) ?_
      refine AllReadyH.cons rfl (fun K hK => ?_) ?_
      · go_simp
        go_at_call 86
        refine Calls.mono ((HW _).out) ?_
        rintro e w4 ⟨rfl, hb⟩
        have HS4 := Lib.hid (HS3.out.on hb)
        have HB7 := Lib.hid (box_on HB7.out hb)
        refine hK.out _ _ HS4.out (fun _ => ?_)
        clear hK K hb
        try ((try simp only [Act.put]); (try simp only [List.setIfInBounds_toArray]); (try simp only [List.set_cons_zero, List.set_cons_succ]))
        refine wpAnyH_take (i := 6) (v := ?_) rfl (by kernel_rfl) (by kernel_rfl) (by kernel_rfl) (fun _ _ _ h => h) (Or.inl ⟨by exact Eq.refl true, ?_⟩) HS4.out ?_
        rotate_left
        · intro wq hq
          obtain ⟨⟨l0, c0, c1, c2, c3, c4, c5, c6, c7⟩, hqr⟩ := LQ.out wq hq
          clear hq hqr
          go_simp
          rfl
        ((try simp only [Act.put]); (try simp only [List.setIfInBounds_toArray]); (try simp only [List.set_cons_zero, List.set_cons_succ]))
        refine wpAnyH_take (i := 7) (v := ?_) rfl (by kernel_rfl) (by kernel_rfl) (by kernel_rfl) (fun _ _ _ h => h) (Or.inl ⟨by exact Eq.refl true, ?_⟩) HS4.out ?_
        rotate_left
        · intro wq hq
          obtain ⟨⟨l0, c0, c1, c2, c3, c4, c5, c6, c7⟩, hqr⟩ := LQ.out wq hq
          clear hq hqr
          go_simp
          rfl
        ((try simp only [Act.put]); (try simp only [List.setIfInBounds_toArray]); (try simp only [List.set_cons_zero, List.set_cons_succ]))
        refine wpAnyH_take (i := 8) (v := ?_) rfl (by kernel_rfl) (by kernel_rfl) (by kernel_rfl) (fun _ _ _ h => h) (Or.inl ⟨by exact Eq.refl true, ?_⟩) HS4.out ?_
        rotate_left
        · intro wq hq
          obtain ⟨⟨l0, c0, c1, c2, c3, c4, c5, c6, c7⟩, hqr⟩ := LQ.out wq hq
          clear hq hqr
          go_simp
          rfl
        ((try simp only [Act.put]); (try simp only [List.setIfInBounds_toArray]); (try simp only [List.set_cons_zero, List.set_cons_succ]))
        refine wpAnyH_ready (rs := [9]) (by kernel_rfl) (by simp) ?_
        refine AllReadyH.cons rfl (fun K hK => ?_) ?_
        · go_simp
          obtain ⟨w5, hw⟩ : ∃ v, v = w4.alloc (.cells #[.int .i64 0, .float .f64 0, .string ⟨#[]⟩] 50) := ⟨_, rfl⟩
          obtain ⟨b6, hb6⟩ : ∃ v, v = w4.heap.size := ⟨_, rfl⟩
          have HS5 : Hid (Dk w w5 a L.length cap ⟨k, key, ⟨ok, on, os⟩, ⟨vk, vn, vs⟩⟩ (.slice none 0 0) (repObj 0 V.zero)) := by rw [hw]; exact HS4.out.on (below_alloc _ _)
          have HB6 : Hid (w5.heap[b6]? = some (.cells #[.int .i64 0, .float .f64 0, .string ⟨#[]⟩] 50)) := by rw [hw]; exact alloc_here _ hb6
          have hne : b7 ≠ b6 := by have := heap_lt HB7.out; omega
          have HB7 : Hid (w5.heap[b7]? = some (.cells #[.int .i64 0, .float .f64 0, .string ⟨#[]⟩] 50)) := by rw [hw]; exact old_alloc _ HB7.out
          have hgt6 : w.heap.size + 3 < b6 := by have := heap_lt HS4.out.b3; omega
          rw [← hw, ← hb6]
          refine hK.out _ _ HS5.out (fun _ => ?_)
          clear hK K hw hb6
          refine wpAnyH_ready (rs := [11]) (by kernel_rfl) (by simp) ?_
          refine AllReadyH.cons rfl (fun K hK => ?_) AllReadyH.nil
          obtain ⟨e0, e1, e2, f0, f1, f2⟩ := cells3 HB6.out
          go_simp
          obtain ⟨w6, hw⟩ : ∃ v, v = (((w5.setCell ⟨b6, 0, none⟩ (.int .i64 xk)).setCell ⟨b6, 1, none⟩ (.float .f64 xn)).setCell ⟨b6, 2, none⟩ (.string xs)) := ⟨_, rfl⟩
          have HS6 : Hid (Dk w w6 a L.length cap ⟨k, key, ⟨ok, on, os⟩, ⟨vk, vn, vs⟩⟩ (.slice none 0 0) (repObj 0 V.zero)) := by rw [hw]; exact ((HS5.out.set hgt6 _ _).set hgt6 _ _).set hgt6 _ _
          have HB7 : Hid (w6.heap[b7]? = some (.cells #[.int .i64 0, .float .f64 0, .string ⟨#[]⟩] 50)) := by rw [hw]; exact heap_seto (heap_seto (heap_seto HB7.out _ (by omega) _) _ (by omega) _) _ (by omega) _
          have HB6 : Hid (w6.heap[b6]? = some (.cells #[.int .i64 xk, .float .f64 xn, .string xs] 50)) := by rw [hw]; exact heap_setc (heap_setc (heap_setc HB6.out))
          rw [← hw]
          refine hK.out _ _ HS6.out (fun _ => ?_)
          clear hK K hw e0 e1 e2 f0 f1 f2
          refine wpAnyH_ready (rs := [12]) (by kernel_rfl) (by simp) ?_
          refine AllReadyH.cons rfl (fun K hK => ?_) AllReadyH.nil
          obtain ⟨e0, e1, e2, f0, f1, f2⟩ := cells3 HB7.out
          go_simp
          obtain ⟨w7, hw⟩ : ∃ v, v = (((w6.setCell ⟨b7, 0, none⟩ (.int .i64 tk)).setCell ⟨b7, 1, none⟩ (.float .f64 tn)).setCell ⟨b7, 2, none⟩ (.string ts)) := ⟨_, rfl⟩
          have HS7 : Hid (Dk w w7 a L.length cap ⟨k, key, ⟨ok, on, os⟩, ⟨vk, vn, vs⟩⟩ (.slice none 0 0) (repObj 0 V.zero)) := by rw [hw]; exact ((HS6.out.set hgt7 _ _).set hgt7 _ _).set hgt7 _ _
          have HB6 : Hid (w7.heap[b6]? = some (.cells #[.int .i64 xk, .float .f64 xn, .string xs] 50)) := by rw [hw]; exact heap_seto (heap_seto (heap_seto HB6.out _ (by omega) _) _ (by omega) _) _ (by omega) _
          have HB7 : Hid (w7.heap[b7]? = some (.cells #[.int .i64 tk, .float .f64 tn, .string ts] 50)) := by rw [hw]; exact heap_setc (heap_setc (heap_setc HB7.out))
          rw [← hw]
          refine hK.out _ _ HS7.out (fun _ => ?_)
          clear hK K hw e0 e1 e2 f0 f1 f2
          refine wpAnyH_done (by kernel_rfl) ?_ _
          exact ⟨b6, b7, _, _, _, _, _, _, _, _, _, _, _, _, _, _, _, _, rfl, HS7.out, hgt6, hgt7, by omega, HB6.out, HB7.out⟩
        exact AllReadyH.nil
      refine AllReadyH.cons rfl (fun K hK => ?_) ?_
      · go_simp
        obtain ⟨w4, hw⟩ : ∃ v, v = w3.alloc (.cells #[.int .i64 0, .float .f64 0, .string ⟨#[]⟩] 50) := ⟨_, rfl⟩
        obtain ⟨b6, hb6⟩ : ∃ v, v = w3.heap.size := ⟨_, rfl⟩
        have HS4 : Hid (Dk w w4 a L.length cap ⟨k, key, ⟨ok, on, os⟩, ⟨vk, vn, vs⟩⟩ (.slice none 0 0) (repObj 0 V.zero)) := by rw [hw]; exact HS3.out.on (below_alloc _ _)
        have HB6 : Hid (w4.heap[b6]? = some (.cells #[.int .i64 0, .float .f64 0, .string ⟨#[]⟩] 50)) := by rw [hw]; exact alloc_here _ hb6
        have hne : b7 ≠ b6 := by have := heap_lt HB7.out; omega
        have HB7 : Hid (w4.heap[b7]? = some (.cells #[.int .i64 0, .float .f64 0, .string ⟨#[]⟩] 50)) := by rw [hw]; exact old_alloc _ HB7.out
        have hgt6 : w.heap.size + 3 < b6 := by have := heap_lt HS3.out.b3; omega
        rw [← hw, ← hb6]
        refine hK.out _ _ HS4.out (fun _ => ?_)
        clear hK K hw hb6
        refine wpAnyH_ready (rs := [5]) (by kernel_rfl) (by simp) ?_
        refine AllReadyH.cons rfl (fun K hK => ?_) ?_
        · go_simp
          go_at_call 86
          refine Calls.mono ((HW _).out) ?_
          rintro e w5 ⟨rfl, hb⟩
          have HS5 := Lib.hid (HS4.out.on hb)
          have HB7 := Lib.hid (box_on HB7.out hb)
          have HB6 := Lib.hid (box_on HB6.out hb)
          refine hK.out _ _ HS5.out (fun _ => ?_)
          clear hK K hb
          try ((try simp only [Act.put]); (try simp only [List.setIfInBounds_toArray]); (try simp only [List.set_cons_zero, List.set_cons_succ]))
          refine wpAnyH_take (i := 6) (v := ?_) rfl (by kernel_rfl) (by kernel_rfl) (by kernel_rfl) (fun _ _ _ h => h) (Or.inl ⟨by exact Eq.refl true, ?_⟩) HS5.out ?_
          rotate_left
          · intro wq hq
            obtain ⟨⟨l0, c0, c1, c2, c3, c4, c5, c6, c7⟩, hqr⟩ := LQ.out wq hq
            clear hq hqr
            go_simp
            rfl
          ((try simp only [Act.put]); (try simp only [List.setIfInBounds_toArray]); (try simp only [List.set_cons_zero, List.set_cons_succ]))
          refine wpAnyH_take (i := 7) (v := ?_) rfl (by kernel_rfl) (by kernel_rfl) (by kernel_rfl) (fun _ _ _ h => h) (Or.inl ⟨by exact Eq.refl true, ?_⟩) HS5.out ?_
          rotate_left
          · intro wq hq
            obtain ⟨⟨l0, c0, c1, c2, c3, c4, c5, c6, c7⟩, hqr⟩ := LQ.out wq hq
            clear hq hqr
            go_simp
            rfl
          ((try simp only [Act.put]); (try simp only [List.setIfInBounds_toArray]); (try simp only [List.set_cons_zero, List.set_cons_succ]))
          refine wpAnyH_take (i := 8) (v := ?_) rfl (by kernel_rfl) (by kernel_rfl) (by kernel_rfl) (fun _ _ _ h => h) (Or.inl ⟨by exact Eq.refl true, ?_⟩) HS5.out ?_
          rotate_left
          · intro wq hq
            obtain ⟨⟨l0, c0, c1, c2, c3, c4, c5, c6, c7⟩, hqr⟩ := LQ.out wq hq
            clear hq hqr
            go_simp
            rfl
          ((try simp only [Act.put]); (try simp only [List.setIfInBounds_toArray]); (try simp only [List.set_cons_zero, List.set_cons_succ]))
          refine wpAnyH_ready (rs := [11]) (by kernel_rfl) (by simp) ?_
          refine AllReadyH.cons rfl (fun K hK => ?_) AllReadyH.nil
          obtain ⟨e0, e1, e2, f0, f1, f2⟩ := cells3 HB6.out
          go_simp
          obtain ⟨w6, hw⟩ : ∃ v, v = (((w5.setCell ⟨b6, 0, none⟩ (.int .i64 xk)).setCell ⟨b6, 1, none⟩ (.float .f64 xn)).setCell ⟨b6, 2, none⟩ (.string xs)) := ⟨_, rfl⟩
          have HS6 : Hid (Dk w w6 a L.length cap ⟨k, key, ⟨ok, on, os⟩, ⟨vk, vn, vs⟩⟩ (.slice none 0 0) (repObj 0 V.zero)) := by rw [hw]; exact ((HS5.out.set hgt6 _ _).set hgt6 _ _).set hgt6 _ _
          have HB7 : Hid (w6.heap[b7]? = some (.cells #[.int .i64 0, .float .f64 0, .string ⟨#[]⟩] 50)) := by rw [hw]; exact heap_seto (heap_seto (heap_seto HB7.out _ (by omega) _) _ (by omega) _) _ (by omega) _
          have HB6 : Hid (w6.heap[b6]? = some (.cells #[.int .i64 xk, .float .f64 xn, .string xs] 50)) := by rw [hw]; exact heap_setc (heap_setc (heap_setc HB6.out))
          rw [← hw]
          refine hK.out _ _ HS6.out (fun _ => ?_)
          clear hK K hw e0 e1 e2 f0 f1 f2
          refine wpAnyH_ready (rs := [12]) (by kernel_rfl) (by simp) ?_
          refine AllReadyH.cons rfl (fun K hK => ?_) AllReadyH.nil
          obtain ⟨e0, e1, e2, f0, f1, f2⟩ := cells3 HB7.out
          go_simp
          obtain ⟨w7, hw⟩ : ∃ v, v = (((w6.setCell ⟨b7, 0, none⟩ (.int .i64 tk)).setCell ⟨b7, 1, none⟩ (.float .f64 tn)).setCell ⟨b7, 2, none⟩ (.string ts)) := ⟨_, rfl⟩
          have HS7 : Hid (Dk w w7 a L.length cap ⟨k, key, ⟨ok, on, os⟩, ⟨vk, vn, vs⟩⟩ (.slice none 0 0) (repObj 0 V.zero)) := by rw [hw]; exact ((HS6.out.set hgt7 _ _).set hgt7 _ _).set hgt7 _ _
          have HB6 : Hid (w7.heap[b6]? = some (.cells #[.int .i64 xk, .float .f64 xn, .string xs] 50)) := by rw [hw]; exact heap_seto (heap_seto (heap_seto HB6.out _ (by omega) _) _ (by omega) _) _ (by omega) _
          have HB7 : Hid (w7.heap[b7]? = some (.cells #[.int .i64 tk, .float .f64 tn, .string ts] 50)) := by rw [hw]; exact heap_setc (heap_setc (heap_setc HB7.out))
          rw [← hw]
          refine hK.out _ _ HS7.out (fun _ => ?_)
          clear hK K hw e0 e1 e2 f0 f1 f2
          refine wpAnyH_done (by kernel_rfl) ?_ _
          exact ⟨b6, b7, _, _, _, _, _, _, _, _, _, _, _, _, _, _, _, _, rfl, HS7.out, hgt6, hgt7, by omega, HB6.out, HB7.out⟩
        exact AllReadyH.nil
      exact AllReadyH.nil
    refine AllReadyH.cons rfl (fun K hK => ?_) ?_
    · go_simp
      obtain ⟨w3, hw⟩ : ∃ v, v = w2.alloc (.cells #[.int .i64 0, .float .f64 0, .string ⟨#[]⟩] 50) := ⟨_, rfl⟩
      obtain ⟨b6, hb6⟩ : ∃ v, v = w2.heap.size := ⟨_, rfl⟩
      have HS3 : Hid (Dk w w3 a L.length cap ⟨k, key, ⟨ok, on, os⟩, ⟨vk, vn, vs⟩⟩ (.slice none 0 0) (repObj 0 V.zero)) := by rw [hw]; exact HS2.out.on (below_alloc _ _)
      have HB6 : Hid (w3.heap[b6]? = some (.cells #[.int .i64 0, .float .f64 0, .string ⟨#[]⟩] 50)) := by rw [hw]; exact alloc_here _ hb6
      have hne : b7 ≠ b6 := by have := heap_lt HB7.out; omega
      have HB7 : Hid (w3.heap[b7]? = some (.cells #[.int .i64 0, .float .f64 0, .string ⟨#[]⟩] 50)) := by rw [hw]; exact old_alloc _ HB7.out
      have hgt6 : w.heap.size + 3 < b6 := by have := heap_lt HS2.out.b3; omega
      rw [← hw, ← hb6]
      refine hK.out _ _ HS3.out (fun _ => ?_)
      clear hK K hw hb6
      refine wpAnyH_ready (rs := [3]) (by kernel_rfl) (by simp) ?_
      refine AllReadyH.cons rfl (fun K hK => ?_) ?_
      · go_simp
        go_at_call 87
        refine Calls.mono ((HG _).out (by exact HS3.out.beh)) ?_
        rintro e w4 ⟨rfl, hb⟩
        have HS4 := Lib.hid (HS3.out.on hb)
        have HB7 := Lib.hid (box_on HB7.out hb)
        have HB6 := Lib.hid (box_on HB6.out hb)
        refine hK.out _ _ HS4.out (fun _ => ?_)
        clear hK K hb
        try ((try simp only [Act.put]); (try simp only [List.setIfInBounds_toArray]); (try simp only [List.set_cons_zero, List.set_cons_succ]))
        refine wpAnyH_ready (rs := [5]) (by kernel_rfl) (by simp) ?_
        refine AllReadyH.cons rfl (fun K hK => ?_) ?_
        · go_simp
          go_at_call 86
          refine Calls.mono ((HW _).out) ?_
          rintro e w5 ⟨rfl, hb⟩
          have HS5 := Lib.hid (HS4.out.on hb)
          have HB7 := Lib.hid (box_on HB7.out hb)
          have HB6 := Lib.hid (box_on HB6.out hb)
          refine hK.out _ _ HS5.out (fun _ => ?_)
          clear hK K hb
          try ((try simp only [Act.put]); (try simp only [List.setIfInBounds_toArray]); (try simp only [List.set_cons_zero, List.set_cons_succ]))
          refine wpAnyH_take (i := 6) (v := ?_) rfl (by kernel_rfl) (by kernel_rfl) (by kernel_rfl) (fun _ _ _ h => h) (Or.inl ⟨by exact Eq.refl true, ?_⟩) HS5.out ?_
          rotate_left
          · intro wq hq
            obtain ⟨⟨l0, c0, c1, c2, c3, c4, c5, c6, c7⟩, hqr⟩ := LQ.out wq hq
            clear hq hqr
            go_simp
            rfl
          ((try simp only [Act.put]); (try simp only [List.setIfInBounds_toArray]); (try simp only [List.set_cons_zero, List.set_cons_succ]))
          refine wpAnyH_take (i := 7) (v := ?_) rfl (by kernel_rfl) (by kernel_rfl) (by kernel_rfl) (fun _ _ _ h => h) (Or.inl ⟨by exact Eq.refl true, ?_⟩) HS5.out ?_
          rotate_left
          · intro wq hq
            obtain ⟨⟨l0, c0, c1, c2, c3, c4, c5, c6, c7⟩, hqr⟩ := LQ.out wq hq
            clear hq hqr
            go_simp
            rfl
          ((try simp only [Act.put]); (try simp only [List.setIfInBounds_toArray]); (try simp only [List.set_cons_zero, List.set_cons_succ]))
          refine wpAnyH_take (i := 8) (v := ?_) rfl (by kernel_rfl) (by kernel_rfl) (by kernel_rfl) (fun _ _ _ h => h) (Or.inl ⟨by exact Eq.refl true, ?_⟩) HS5.out ?_
          rotate_left
          · intro wq hq
            obtain ⟨⟨l0, c0, c1, c2, c3, c4, c5, c6, c7⟩, hqr⟩ := LQ.out wq hq
            clear hq hqr
            go_simp
            rfl
          ((try simp only [Act.put]); (try simp only [List.setIfInBounds_toArray]); (try simp only [List.set_cons_zero, List.set_cons_succ]))
          refine wpAnyH_ready (rs := [11]) (by kernel_rfl) (by simp) ?_
          refine AllReadyH.cons rfl (fun K hK => ?_) AllReadyH.nil
          obtain ⟨e0, e1, e2, f0, f1, f2⟩ := cells3 HB6.out
          go_simp
          obtain ⟨w6, hw⟩ : ∃ v, v = (((w5.setCell ⟨b6, 0, none⟩ (.int .i64 xk)).setCell ⟨b6, 1, none⟩ (.float .f64 xn)).setCell ⟨b6, 2, none⟩ (.string xs)) := ⟨_, rfl⟩
          have HS6 : Hid (Dk w w6 a L.length cap ⟨k, key, ⟨ok, on, os⟩, ⟨vk, vn, vs⟩⟩ (.slice none 0 0) (repObj 0 V.zero)) := by rw [hw]; exact ((HS5.out.set hgt6 _ _).set hgt6 _ _).set hgt6 _ _
          have HB7 : Hid (w6.heap[b7]? = some (.cells #[.int .i64 0, .float .f64 0, .string ⟨#[]⟩] 50)) := by rw [hw]; exact heap_seto (heap_seto (heap_seto HB7.out _ (by omega) _) _ (by omega) _) _ (by omega) _
          have HB6 : Hid (w6.heap[b6]? = some (.cells #[.int .i64 xk, .float .f64 xn, .string xs] 50)) := by rw [hw]; exact heap_setc (heap_setc (heap_setc HB6.out))
          rw [← hw]
          refine hK.out _ _ HS6.out (fun _ => ?_)
          clear hK K hw e0 e1 e2 f0 f1 f2
          refine wpAnyH_ready (rs := [12]) (by kernel_rfl) (by simp) ?_
          refine AllReadyH.cons rfl (fun K hK => ?_) AllReadyH.nil
          obtain ⟨e0, e1, e2, f0, f1, f2⟩ := cells3 HB7.out
          go_simp
          obtain ⟨w7, hw⟩ : ∃ v, v = (((w6.setCell ⟨b7, 0, none⟩ (.int .i64 tk)).setCell ⟨b7, 1, none⟩ (.float .f64 tn)).setCell ⟨b7, 2, none⟩ (.string ts)) := ⟨_, rfl⟩
          have HS7 : Hid (Dk w w7 a L.length cap ⟨k, key, ⟨ok, on, os⟩, ⟨vk, vn, vs⟩⟩ (.slice none 0 0) (repObj 0 V.zero)) := by rw [hw]; exact ((HS6.out.set hgt7 _ _).set hgt7 _ _).set hgt7 _ _
          have HB6 : Hid (w7.heap[b6]? = some (.cells #[.int .i64 xk, .float .f64 xn, .string xs] 50)) := by rw [hw]; exact heap_seto (heap_seto (heap_seto HB6.out _ (by omega) _) _ (by omega) _) _ (by omega) _
          have HB7 : Hid (w7.heap[b7]? = some (.cells #[.int .i64 tk, .float .f64 tn, .string ts] 50)) := by rw [hw]; exact heap_setc (heap_setc (heap_setc HB7.out))
          rw [← hw]
          refine hK.out _ _ HS7.out (fun _ => ?_)
          clear hK K hw e0 e1 e2 f0 f1 f2
          refine wpAnyH_done (by kernel_rfl) ?_ _
          exact ⟨b6, b7, _, _, _, _, _, _, _, _, _, _, _, _, _, _, _, _, rfl, HS7.out, hgt6, hgt7, by omega, HB6.out, HB7.out⟩
        exact AllReadyH.nil
      exact AllReadyH.nil
    exact AllReadyH.nil
  exact AllReadyH.nil
end Go.Proofs.YtbheofibdogabaaGreat.Kv
