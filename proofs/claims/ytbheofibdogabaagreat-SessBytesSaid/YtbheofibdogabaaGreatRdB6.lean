/- The reference's Do: put and deleted. -/
import Derived.Test.YtbheofibdogabaaGreatRefDo6
namespace Go.Proofs.YtbheofibdogabaaGreat.Kv
open Go Go.RowKit Vl Nm Mem
attribute [local go_sem] run_bits run_frombits run_store_float

set_option maxHeartbeats 6400000 in
set_option maxRecDepth 100000 in
theorem refDo_put (a : Option Addr) (cap : Nat) (L : List Pr) (c : Cm) (w : World) (h : PairsAt w a cap L) (hr : c.right = 0) (hp : rightP L = true) (hk : c.kind = 2) (hf : (set L c.key (c.val)).length ≤ 32) :
    Calls Tryz.prog 67 #[.slice a L.length cap, c.agg] w (DoTold w ⟨set L c.key (c.val), 0, get L c.key⟩) := by
  have hl32 : L.length ≤ 32 := ((rightP_iff L).1 hp).1
  have hl : L.length ≤ 100000 := by omega
  have hpw := ((rightP_iff L).1 hp).2.2
  have HI := Lib.hid h
  have HR := fun w => Lib.hid (refCmd_any c w)
  have HP : ∀ w', Hid (Beh w w' → Calls Tryz.prog 24 #[.slice a L.length cap] w' fun e w'' => e = .returned (.bool true) ∧ Below w'.heap.size w' w'') := fun w' hb => by
    have := refPairs_any a cap L w' (h.below hb) hl
    rw [hp] at this
    exact this
  have HG : ∀ w', Hid (Beh w w' → Calls Tryz.prog 95 #[.slice a L.length cap, .string c.key] w' fun e w'' => e = .returned (get L c.key).val ∧ Below w'.heap.size w' w'') := fun w' hb => refGet_any a cap L c.key w' (h.below hb) hl
  have HSET : ∀ w', Hid (Beh w w' → Calls Tryz.prog 97 #[.slice a L.length cap, .string c.key, (c.val).val] w' fun e w'' => ∃ b' a' cap', e = .returned (.slice a' (set L c.key (c.val)).length cap') ∧ Made w' w'' b' a' cap' (set L c.key (c.val))) := fun w' hb => refSet_any a cap L c.key _ w' (h.below hb) hpw hl32
  generalize hM : set L c.key (c.val) = M at *
  clear hM
  rw [hr] at HR
  clear h hr hp hpw
  generalize get L c.key = g at *
  obtain ⟨gk, gn, gs⟩ := g
  obtain ⟨k, key, ⟨ok, on, os⟩, ⟨vk, vn, vs⟩⟩ := c
  dsimp only at *
  have HK : Hid (Rk w ((w.alloc (.cells #[.int .i64 k, .string key, .int .i64 ok, .float .f64 on, .string os, .int .i64 vk, .float .f64 vn, .string vs] 82)).alloc (.cells #[.int .i64 0, .int .i64 0, .float .f64 0, .string ⟨#[]⟩] 52)) ⟨k, key, ⟨ok, on, os⟩, ⟨vk, vn, vs⟩⟩) := Rk.start w ⟨k, key, ⟨ok, on, os⟩, ⟨vk, vn, vs⟩⟩
  obtain rfl : k = 2 := hk
  have d32 : decide ((32 : Int) < (M.length : Int)) = false := decide_eq_false (by omega)
  go_enter Tryz.func67, Tryz.ntmps67
  go_wp2_with (first | (go_at_call 94; refine Calls.mono (twin_any _ _ _ _ (by exact HI.out.below HK.out.beh) (by exact hl)) ?_; rintro e w' ⟨sb, sa, sc, rfl, hm⟩; (have hfar : w.heap.size + 1 < sb := by have := hm.new; have := heap_lt HK.out.b1; omega); (have HS := Lib.hid (MadeB.mk (hm.from HK.out.beh) hfar)); (have HK := Lib.hid (HK.out.on hm.beh)); clear hm; obtain ⟨c0, c1, c2, c3, c4, c5, c6, c7⟩ := cells8 HK.out.b0; dsimp only at c0 c1 c2 c3 c4 c5 c6 c7) | (go_at_call 93; refine ((HR _).out).mono ?_; rintro e w' ⟨rfl, hb⟩; (have HS := Lib.hid (HS.out.on hb)); (have HK := Lib.hid (HK.out.on hb)); clear hb) | (go_at_call 24; refine Calls.mono ((HP _).out (by exact HK.out.beh)) ?_; rintro e w' ⟨rfl, hb⟩; (have HS := Lib.hid (HS.out.on hb)); (have HK := Lib.hid (HK.out.on hb)); clear hb; obtain ⟨c0, c1, c2, c3, c4, c5, c6, c7⟩ := cells8 HK.out.b0; dsimp only at c0 c1 c2 c3 c4 c5 c6 c7) | (go_at_call 95; refine Calls.mono ((HG _).out (by exact HK.out.beh)) ?_; rintro e w' ⟨rfl, hb⟩; (have HS := Lib.hid (HS.out.on hb)); (have HK := Lib.hid (HK.out.on hb)); clear hb))
  obtain ⟨b10, hb10⟩ : ∃ b, b = w'.heap.size + 1 + 1 := ⟨_, rfl⟩
  obtain ⟨b9, hb9⟩ : ∃ b, b = w'.heap.size + 1 := ⟨_, rfl⟩
  obtain ⟨b8, hb8⟩ : ∃ b, b = w'.heap.size := ⟨_, rfl⟩
  obtain ⟨W, hW⟩ : ∃ W, W = (((w'.alloc (.cells #[.int .i64 gk, .float .f64 gn, .string gs] 50)).alloc (.cells #[.int .i64 gk, .float .f64 gn, .string gs] 50)).alloc (.cells #[.int .i64 gk, .float .f64 gn, .string gs] 50)).drew := ⟨_, rfl⟩
  go_region
  all_goals
    rw [← hW, ← hb10, ← hb9, ← hb8]
    have hsz := heap_lt HK.out.b1
    have hbh : Beh w' W := by rw [hW]; exact (((Beh.start _).alloc _).alloc _ |>.alloc _).drew
    have HKW := Lib.hid (HK.out.on hbh)
    have HSW := Lib.hid (HS.out.on hbh)
    have H8 : Hid (W.heap[b8]? = some (.cells #[.int .i64 gk, .float .f64 gn, .string gs] 50)) := by rw [hW, hb8]; exact old_alloc _ (old_alloc _ (alloc_here _ rfl))
    have H9 : Hid (W.heap[b9]? = some (.cells #[.int .i64 gk, .float .f64 gn, .string gs] 50)) := by rw [hW, hb9]; exact old_alloc _ (alloc_here _ (by simp))
    have H10 : Hid (W.heap[b10]? = some (.cells #[.int .i64 gk, .float .f64 gn, .string gs] 50)) := by rw [hW, hb10]; exact alloc_here _ (by simp)
    have far8 : w.heap.size + 1 < b8 := by omega
    have far9 : w.heap.size + 1 < b9 := by omega
    have far10 : w.heap.size + 1 < b10 := by omega
    have ne0 : ¬ w.heap.size = b8 := by omega
    have en0 : ¬ b8 = w.heap.size := by omega
    have ne1 : ¬ w.heap.size = b9 := by omega
    have en1 : ¬ b9 = w.heap.size := by omega
    have ne2 : ¬ w.heap.size = b10 := by omega
    have en2 : ¬ b10 = w.heap.size := by omega
    have ne3 : ¬ w.heap.size + 1 = b8 := by omega
    have en3 : ¬ b8 = w.heap.size + 1 := by omega
    have ne4 : ¬ w.heap.size + 1 = b9 := by omega
    have en4 : ¬ b9 = w.heap.size + 1 := by omega
    have ne5 : ¬ w.heap.size + 1 = b10 := by omega
    have en5 : ¬ b10 = w.heap.size + 1 := by omega
    have ne6 : ¬ b8 = b9 := by omega
    have en6 : ¬ b9 = b8 := by omega
    have ne7 : ¬ b8 = b10 := by omega
    have en7 : ¬ b10 = b8 := by omega
    have ne8 : ¬ b9 = b10 := by omega
    have en8 : ¬ b10 = b9 := by omega
    have hs8 : sa ≠ none → sb ≠ b8 := fun hn => by have := OwnC.lt HS.out.made.own hn; omega
    have hs9 : sa ≠ none → sb ≠ b9 := fun hn => by have := OwnC.lt HS.out.made.own hn; omega
    have hs10 : sa ≠ none → sb ≠ b10 := fun hn => by have := OwnC.lt HS.out.made.own hn; omega
    have hsr : sa ≠ none → sb ≠ w.heap.size + 1 := fun _ => by have := HS.out.far; omega
    clear hW hb8 hb9 hb10 hsz hbh
    obtain ⟨x0, x1, x2, _⟩ := cells3 H8.out
    obtain ⟨y0, y1, y2, y3, y4, y5⟩ := cells3 H9.out
    obtain ⟨z0, z1, z2, z3, z4, z5⟩ := cells3 H10.out
    obtain ⟨c0, c1, c2, c3, c4, c5, c6, c7⟩ := cells8 HKW.out.b0
    obtain ⟨r0, r1, r2, r3⟩ := cells4 HKW.out.b1
    have f0 := frozen_of HKW.out.b1 0
    have f1 := frozen_of HKW.out.b1 1
    have f2 := frozen_of HKW.out.b1 2
    have f3 := frozen_of HKW.out.b1 3
    dsimp only at c0 c1 c2 c3 c4 c5 c6 c7 r0 r1 r2 r3
  all_goals
    go_wp2_with fail
    refine Calls.mono ((HSET _).out (by exact (by repeat' (first | with_reducible exact HKW.out.beh | with_reducible refine Beh.drew ?_ | with_reducible refine Beh.set ?_ (by omega) _ _)))) ?_
    rintro e w7 ⟨b', a', cap', rfl, hm⟩
    have hl8 := heap_lt H8.out
    have r0 := cell_on hm.beh (a := ⟨w.heap.size + 1, 0, none⟩) (v := .int .i64 0) (by go_simp)
    have r1 := cell_on hm.beh (a := ⟨w.heap.size + 1, 1, none⟩) (v := .int .i64 0) (by go_simp)
    have r2 := cell_on hm.beh (a := ⟨w.heap.size + 1, 2, none⟩) (v := .float .f64 0) (by go_simp)
    have r3 := cell_on hm.beh (a := ⟨w.heap.size + 1, 3, none⟩) (v := .string ⟨#[]⟩) (by go_simp)
    have f0 := frozen_on hm.beh (a := ⟨w.heap.size + 1, 0, none⟩) (by simp; omega) (by go_simp)
    have f1 := frozen_on hm.beh (a := ⟨w.heap.size + 1, 1, none⟩) (by simp; omega) (by go_simp)
    have f2 := frozen_on hm.beh (a := ⟨w.heap.size + 1, 2, none⟩) (by simp; omega) (by go_simp)
    have f3 := frozen_on hm.beh (a := ⟨w.heap.size + 1, 3, none⟩) (by simp; omega) (by go_simp)
    have HM7 := Lib.hid (Made.from (w0 := w) (by repeat' (first | with_reducible exact HKW.out.beh | with_reducible refine Beh.drew ?_ | with_reducible refine Beh.set ?_ (by omega) _ _)) hm)
    have hfb : a' ≠ none → b' ≠ w.heap.size + 1 := fun _ => by have h1 := hm.new; simp at h1; omega
    first
    | (have z0 := cell_on hm.beh (a := ⟨b10, 0, none⟩) (v := (.int .i64 gk)) (by go_simp)
       have z1 := cell_on hm.beh (a := ⟨b10, 1, none⟩) (v := (.float .f64 gn)) (by go_simp)
       have z2 := cell_on hm.beh (a := ⟨b10, 2, none⟩) (v := (.string gs)) (by go_simp)
       clear hm
       go_wp2_with fail
       go_region
       go_wp2_with fail
       (try simp only [Exit.inBlock, Exit.then])
       refine bodyPost_ret (v := .tuple #[.slice a' M.length cap', rep 0 ⟨gk, gn, gs⟩]) ?_ rfl ⟨b', a', cap', rfl, ?_⟩
       · rw [results_tmp_cell rfl]
         go_simp
       · repeat' (first | with_reducible exact HM7.out | with_reducible refine Made.drew ?_ | with_reducible refine Made.setO ?_ (by assumption) (by omega) _ _))
    | (have z0 := cell_on hm.beh (a := ⟨b9, 0, none⟩) (v := (.int .i64 gk)) (by go_simp)
       have z1 := cell_on hm.beh (a := ⟨b9, 1, none⟩) (v := (.float .f64 gn)) (by go_simp)
       have z2 := cell_on hm.beh (a := ⟨b9, 2, none⟩) (v := (.string gs)) (by go_simp)
       clear hm
       go_wp2_with fail
       go_region
       go_wp2_with fail
       (try simp only [Exit.inBlock, Exit.then])
       refine bodyPost_ret (v := .tuple #[.slice a' M.length cap', rep 0 ⟨gk, gn, gs⟩]) ?_ rfl ⟨b', a', cap', rfl, ?_⟩
       · rw [results_tmp_cell rfl]
         go_simp
       · repeat' (first | with_reducible exact HM7.out | with_reducible refine Made.drew ?_ | with_reducible refine Made.setO ?_ (by assumption) (by omega) _ _))
set_option maxHeartbeats 6400000 in
set_option maxRecDepth 100000 in
theorem refDo_put_full (a : Option Addr) (cap : Nat) (L : List Pr) (c : Cm) (w : World) (h : PairsAt w a cap L) (hr : c.right = 0) (hp : rightP L = true) (hk : c.kind = 2) (hf : 32 < (set L c.key (c.val)).length) :
    Calls Tryz.prog 67 #[.slice a L.length cap, c.agg] w (DoTold w ⟨L, 5, V.zero⟩) := by
  have hl32 : L.length ≤ 32 := ((rightP_iff L).1 hp).1
  have hl : L.length ≤ 100000 := by omega
  have hpw := ((rightP_iff L).1 hp).2.2
  have HI := Lib.hid h
  have HR := fun w => Lib.hid (refCmd_any c w)
  have HP : ∀ w', Hid (Beh w w' → Calls Tryz.prog 24 #[.slice a L.length cap] w' fun e w'' => e = .returned (.bool true) ∧ Below w'.heap.size w' w'') := fun w' hb => by
    have := refPairs_any a cap L w' (h.below hb) hl
    rw [hp] at this
    exact this
  have HG : ∀ w', Hid (Beh w w' → Calls Tryz.prog 95 #[.slice a L.length cap, .string c.key] w' fun e w'' => e = .returned (get L c.key).val ∧ Below w'.heap.size w' w'') := fun w' hb => refGet_any a cap L c.key w' (h.below hb) hl
  have HSET : ∀ w', Hid (Beh w w' → Calls Tryz.prog 97 #[.slice a L.length cap, .string c.key, (c.val).val] w' fun e w'' => ∃ b' a' cap', e = .returned (.slice a' (set L c.key (c.val)).length cap') ∧ Made w' w'' b' a' cap' (set L c.key (c.val))) := fun w' hb => refSet_any a cap L c.key _ w' (h.below hb) hpw hl32
  generalize hM : set L c.key (c.val) = M at *
  clear hM
  rw [hr] at HR
  clear h hr hp hpw
  generalize get L c.key = g at *
  obtain ⟨gk, gn, gs⟩ := g
  obtain ⟨k, key, ⟨ok, on, os⟩, ⟨vk, vn, vs⟩⟩ := c
  dsimp only at *
  have HK : Hid (Rk w ((w.alloc (.cells #[.int .i64 k, .string key, .int .i64 ok, .float .f64 on, .string os, .int .i64 vk, .float .f64 vn, .string vs] 82)).alloc (.cells #[.int .i64 0, .int .i64 0, .float .f64 0, .string ⟨#[]⟩] 52)) ⟨k, key, ⟨ok, on, os⟩, ⟨vk, vn, vs⟩⟩) := Rk.start w ⟨k, key, ⟨ok, on, os⟩, ⟨vk, vn, vs⟩⟩
  obtain rfl : k = 2 := hk
  have d32 : decide ((32 : Int) < (M.length : Int)) = true := decide_eq_true (by omega)
  go_enter Tryz.func67, Tryz.ntmps67
  go_wp2_with (first | (go_at_call 94; refine Calls.mono (twin_any _ _ _ _ (by exact HI.out.below HK.out.beh) (by exact hl)) ?_; rintro e w' ⟨sb, sa, sc, rfl, hm⟩; (have hfar : w.heap.size + 1 < sb := by have := hm.new; have := heap_lt HK.out.b1; omega); (have HS := Lib.hid (MadeB.mk (hm.from HK.out.beh) hfar)); (have HK := Lib.hid (HK.out.on hm.beh)); clear hm; obtain ⟨c0, c1, c2, c3, c4, c5, c6, c7⟩ := cells8 HK.out.b0; dsimp only at c0 c1 c2 c3 c4 c5 c6 c7) | (go_at_call 93; refine ((HR _).out).mono ?_; rintro e w' ⟨rfl, hb⟩; (have HS := Lib.hid (HS.out.on hb)); (have HK := Lib.hid (HK.out.on hb)); clear hb) | (go_at_call 24; refine Calls.mono ((HP _).out (by exact HK.out.beh)) ?_; rintro e w' ⟨rfl, hb⟩; (have HS := Lib.hid (HS.out.on hb)); (have HK := Lib.hid (HK.out.on hb)); clear hb; obtain ⟨c0, c1, c2, c3, c4, c5, c6, c7⟩ := cells8 HK.out.b0; dsimp only at c0 c1 c2 c3 c4 c5 c6 c7) | (go_at_call 95; refine Calls.mono ((HG _).out (by exact HK.out.beh)) ?_; rintro e w' ⟨rfl, hb⟩; (have HS := Lib.hid (HS.out.on hb)); (have HK := Lib.hid (HK.out.on hb)); clear hb))
  obtain ⟨b10, hb10⟩ : ∃ b, b = w'.heap.size + 1 + 1 := ⟨_, rfl⟩
  obtain ⟨b9, hb9⟩ : ∃ b, b = w'.heap.size + 1 := ⟨_, rfl⟩
  obtain ⟨b8, hb8⟩ : ∃ b, b = w'.heap.size := ⟨_, rfl⟩
  obtain ⟨W, hW⟩ : ∃ W, W = (((w'.alloc (.cells #[.int .i64 gk, .float .f64 gn, .string gs] 50)).alloc (.cells #[.int .i64 gk, .float .f64 gn, .string gs] 50)).alloc (.cells #[.int .i64 gk, .float .f64 gn, .string gs] 50)).drew := ⟨_, rfl⟩
  go_region
  all_goals
    rw [← hW, ← hb10, ← hb9, ← hb8]
    have hsz := heap_lt HK.out.b1
    have hbh : Beh w' W := by rw [hW]; exact (((Beh.start _).alloc _).alloc _ |>.alloc _).drew
    have HKW := Lib.hid (HK.out.on hbh)
    have HSW := Lib.hid (HS.out.on hbh)
    have H8 : Hid (W.heap[b8]? = some (.cells #[.int .i64 gk, .float .f64 gn, .string gs] 50)) := by rw [hW, hb8]; exact old_alloc _ (old_alloc _ (alloc_here _ rfl))
    have H9 : Hid (W.heap[b9]? = some (.cells #[.int .i64 gk, .float .f64 gn, .string gs] 50)) := by rw [hW, hb9]; exact old_alloc _ (alloc_here _ (by simp))
    have H10 : Hid (W.heap[b10]? = some (.cells #[.int .i64 gk, .float .f64 gn, .string gs] 50)) := by rw [hW, hb10]; exact alloc_here _ (by simp)
    have far8 : w.heap.size + 1 < b8 := by omega
    have far9 : w.heap.size + 1 < b9 := by omega
    have far10 : w.heap.size + 1 < b10 := by omega
    have ne0 : ¬ w.heap.size = b8 := by omega
    have en0 : ¬ b8 = w.heap.size := by omega
    have ne1 : ¬ w.heap.size = b9 := by omega
    have en1 : ¬ b9 = w.heap.size := by omega
    have ne2 : ¬ w.heap.size = b10 := by omega
    have en2 : ¬ b10 = w.heap.size := by omega
    have ne3 : ¬ w.heap.size + 1 = b8 := by omega
    have en3 : ¬ b8 = w.heap.size + 1 := by omega
    have ne4 : ¬ w.heap.size + 1 = b9 := by omega
    have en4 : ¬ b9 = w.heap.size + 1 := by omega
    have ne5 : ¬ w.heap.size + 1 = b10 := by omega
    have en5 : ¬ b10 = w.heap.size + 1 := by omega
    have ne6 : ¬ b8 = b9 := by omega
    have en6 : ¬ b9 = b8 := by omega
    have ne7 : ¬ b8 = b10 := by omega
    have en7 : ¬ b10 = b8 := by omega
    have ne8 : ¬ b9 = b10 := by omega
    have en8 : ¬ b10 = b9 := by omega
    have hs8 : sa ≠ none → sb ≠ b8 := fun hn => by have := OwnC.lt HS.out.made.own hn; omega
    have hs9 : sa ≠ none → sb ≠ b9 := fun hn => by have := OwnC.lt HS.out.made.own hn; omega
    have hs10 : sa ≠ none → sb ≠ b10 := fun hn => by have := OwnC.lt HS.out.made.own hn; omega
    have hsr : sa ≠ none → sb ≠ w.heap.size + 1 := fun _ => by have := HS.out.far; omega
    clear hW hb8 hb9 hb10 hsz hbh
    obtain ⟨x0, x1, x2, _⟩ := cells3 H8.out
    obtain ⟨y0, y1, y2, y3, y4, y5⟩ := cells3 H9.out
    obtain ⟨z0, z1, z2, z3, z4, z5⟩ := cells3 H10.out
    obtain ⟨c0, c1, c2, c3, c4, c5, c6, c7⟩ := cells8 HKW.out.b0
    obtain ⟨r0, r1, r2, r3⟩ := cells4 HKW.out.b1
    have f0 := frozen_of HKW.out.b1 0
    have f1 := frozen_of HKW.out.b1 1
    have f2 := frozen_of HKW.out.b1 2
    have f3 := frozen_of HKW.out.b1 3
    dsimp only at c0 c1 c2 c3 c4 c5 c6 c7 r0 r1 r2 r3
  all_goals
    go_wp2_with fail
    refine Calls.mono ((HSET _).out (by exact (by repeat' (first | with_reducible exact HKW.out.beh | with_reducible refine Beh.drew ?_ | with_reducible refine Beh.set ?_ (by omega) _ _)))) ?_
    rintro e w7 ⟨b', a', cap', rfl, hm⟩
    have hl8 := heap_lt H8.out
    have r0 := cell_on hm.beh (a := ⟨w.heap.size + 1, 0, none⟩) (v := .int .i64 0) (by go_simp)
    have r1 := cell_on hm.beh (a := ⟨w.heap.size + 1, 1, none⟩) (v := .int .i64 0) (by go_simp)
    have r2 := cell_on hm.beh (a := ⟨w.heap.size + 1, 2, none⟩) (v := .float .f64 0) (by go_simp)
    have r3 := cell_on hm.beh (a := ⟨w.heap.size + 1, 3, none⟩) (v := .string ⟨#[]⟩) (by go_simp)
    have f0 := frozen_on hm.beh (a := ⟨w.heap.size + 1, 0, none⟩) (by simp; omega) (by go_simp)
    have f1 := frozen_on hm.beh (a := ⟨w.heap.size + 1, 1, none⟩) (by simp; omega) (by go_simp)
    have f2 := frozen_on hm.beh (a := ⟨w.heap.size + 1, 2, none⟩) (by simp; omega) (by go_simp)
    have f3 := frozen_on hm.beh (a := ⟨w.heap.size + 1, 3, none⟩) (by simp; omega) (by go_simp)
    have HS7 : Hid (Made w w7 sb sa sc L) := Made.on (by repeat' (first | with_reducible exact HSW.out.made | with_reducible refine Made.drew ?_ | with_reducible refine Made.setO ?_ (by assumption) (by omega) _ _)) hm.beh
    clear hm
    go_wp2_with fail
    (try simp only [Exit.inBlock, Exit.then])
    refine bodyPost_ret (v := .tuple #[.slice sa L.length sc, rep 5 V.zero]) ?_ rfl ⟨sb, sa, sc, rfl, ?_⟩
    · rw [results_tmp_cell rfl]
      go_simp
    · repeat' (first | with_reducible exact HS7.out | with_reducible refine Made.drew ?_ | with_reducible refine Made.setO ?_ (by assumption) (by omega) _ _)
set_option maxHeartbeats 6400000 in
set_option maxRecDepth 100000 in
theorem refDo_del (a : Option Addr) (cap : Nat) (L : List Pr) (c : Cm) (w : World) (h : PairsAt w a cap L) (hr : c.right = 0) (hp : rightP L = true) (hk : c.kind = 3) (hf : (set L c.key (V.zero)).length ≤ 32) :
    Calls Tryz.prog 67 #[.slice a L.length cap, c.agg] w (DoTold w ⟨set L c.key (V.zero), 0, get L c.key⟩) := by
  have hl32 : L.length ≤ 32 := ((rightP_iff L).1 hp).1
  have hl : L.length ≤ 100000 := by omega
  have hpw := ((rightP_iff L).1 hp).2.2
  have HI := Lib.hid h
  have HR := fun w => Lib.hid (refCmd_any c w)
  have HP : ∀ w', Hid (Beh w w' → Calls Tryz.prog 24 #[.slice a L.length cap] w' fun e w'' => e = .returned (.bool true) ∧ Below w'.heap.size w' w'') := fun w' hb => by
    have := refPairs_any a cap L w' (h.below hb) hl
    rw [hp] at this
    exact this
  have HG : ∀ w', Hid (Beh w w' → Calls Tryz.prog 95 #[.slice a L.length cap, .string c.key] w' fun e w'' => e = .returned (get L c.key).val ∧ Below w'.heap.size w' w'') := fun w' hb => refGet_any a cap L c.key w' (h.below hb) hl
  have HSET : ∀ w', Hid (Beh w w' → Calls Tryz.prog 97 #[.slice a L.length cap, .string c.key, (V.zero).val] w' fun e w'' => ∃ b' a' cap', e = .returned (.slice a' (set L c.key (V.zero)).length cap') ∧ Made w' w'' b' a' cap' (set L c.key (V.zero))) := fun w' hb => refSet_any a cap L c.key _ w' (h.below hb) hpw hl32
  generalize hM : set L c.key (V.zero) = M at *
  clear hM
  rw [hr] at HR
  clear h hr hp hpw
  generalize get L c.key = g at *
  obtain ⟨gk, gn, gs⟩ := g
  obtain ⟨k, key, ⟨ok, on, os⟩, ⟨vk, vn, vs⟩⟩ := c
  dsimp only at *
  have HK : Hid (Rk w ((w.alloc (.cells #[.int .i64 k, .string key, .int .i64 ok, .float .f64 on, .string os, .int .i64 vk, .float .f64 vn, .string vs] 82)).alloc (.cells #[.int .i64 0, .int .i64 0, .float .f64 0, .string ⟨#[]⟩] 52)) ⟨k, key, ⟨ok, on, os⟩, ⟨vk, vn, vs⟩⟩) := Rk.start w ⟨k, key, ⟨ok, on, os⟩, ⟨vk, vn, vs⟩⟩
  obtain rfl : k = 3 := hk
  have d32 : decide ((32 : Int) < (M.length : Int)) = false := decide_eq_false (by omega)
  go_enter Tryz.func67, Tryz.ntmps67
  go_wp2_with (first | (go_at_call 94; refine Calls.mono (twin_any _ _ _ _ (by exact HI.out.below HK.out.beh) (by exact hl)) ?_; rintro e w' ⟨sb, sa, sc, rfl, hm⟩; (have hfar : w.heap.size + 1 < sb := by have := hm.new; have := heap_lt HK.out.b1; omega); (have HS := Lib.hid (MadeB.mk (hm.from HK.out.beh) hfar)); (have HK := Lib.hid (HK.out.on hm.beh)); clear hm; obtain ⟨c0, c1, c2, c3, c4, c5, c6, c7⟩ := cells8 HK.out.b0; dsimp only at c0 c1 c2 c3 c4 c5 c6 c7) | (go_at_call 93; refine ((HR _).out).mono ?_; rintro e w' ⟨rfl, hb⟩; (have HS := Lib.hid (HS.out.on hb)); (have HK := Lib.hid (HK.out.on hb)); clear hb) | (go_at_call 24; refine Calls.mono ((HP _).out (by exact HK.out.beh)) ?_; rintro e w' ⟨rfl, hb⟩; (have HS := Lib.hid (HS.out.on hb)); (have HK := Lib.hid (HK.out.on hb)); clear hb; obtain ⟨c0, c1, c2, c3, c4, c5, c6, c7⟩ := cells8 HK.out.b0; dsimp only at c0 c1 c2 c3 c4 c5 c6 c7) | (go_at_call 95; refine Calls.mono ((HG _).out (by exact HK.out.beh)) ?_; rintro e w' ⟨rfl, hb⟩; (have HS := Lib.hid (HS.out.on hb)); (have HK := Lib.hid (HK.out.on hb)); clear hb))
  obtain ⟨b10, hb10⟩ : ∃ b, b = w'.heap.size + 1 + 1 := ⟨_, rfl⟩
  obtain ⟨b9, hb9⟩ : ∃ b, b = w'.heap.size + 1 := ⟨_, rfl⟩
  obtain ⟨b8, hb8⟩ : ∃ b, b = w'.heap.size := ⟨_, rfl⟩
  obtain ⟨W, hW⟩ : ∃ W, W = (((w'.alloc (.cells #[.int .i64 gk, .float .f64 gn, .string gs] 50)).alloc (.cells #[.int .i64 gk, .float .f64 gn, .string gs] 50)).alloc (.cells #[.int .i64 gk, .float .f64 gn, .string gs] 50)).drew := ⟨_, rfl⟩
  go_region
  all_goals
    rw [← hW, ← hb10, ← hb9, ← hb8]
    have hsz := heap_lt HK.out.b1
    have hbh : Beh w' W := by rw [hW]; exact (((Beh.start _).alloc _).alloc _ |>.alloc _).drew
    have HKW := Lib.hid (HK.out.on hbh)
    have HSW := Lib.hid (HS.out.on hbh)
    have H8 : Hid (W.heap[b8]? = some (.cells #[.int .i64 gk, .float .f64 gn, .string gs] 50)) := by rw [hW, hb8]; exact old_alloc _ (old_alloc _ (alloc_here _ rfl))
    have H9 : Hid (W.heap[b9]? = some (.cells #[.int .i64 gk, .float .f64 gn, .string gs] 50)) := by rw [hW, hb9]; exact old_alloc _ (alloc_here _ (by simp))
    have H10 : Hid (W.heap[b10]? = some (.cells #[.int .i64 gk, .float .f64 gn, .string gs] 50)) := by rw [hW, hb10]; exact alloc_here _ (by simp)
    have far8 : w.heap.size + 1 < b8 := by omega
    have far9 : w.heap.size + 1 < b9 := by omega
    have far10 : w.heap.size + 1 < b10 := by omega
    have ne0 : ¬ w.heap.size = b8 := by omega
    have en0 : ¬ b8 = w.heap.size := by omega
    have ne1 : ¬ w.heap.size = b9 := by omega
    have en1 : ¬ b9 = w.heap.size := by omega
    have ne2 : ¬ w.heap.size = b10 := by omega
    have en2 : ¬ b10 = w.heap.size := by omega
    have ne3 : ¬ w.heap.size + 1 = b8 := by omega
    have en3 : ¬ b8 = w.heap.size + 1 := by omega
    have ne4 : ¬ w.heap.size + 1 = b9 := by omega
    have en4 : ¬ b9 = w.heap.size + 1 := by omega
    have ne5 : ¬ w.heap.size + 1 = b10 := by omega
    have en5 : ¬ b10 = w.heap.size + 1 := by omega
    have ne6 : ¬ b8 = b9 := by omega
    have en6 : ¬ b9 = b8 := by omega
    have ne7 : ¬ b8 = b10 := by omega
    have en7 : ¬ b10 = b8 := by omega
    have ne8 : ¬ b9 = b10 := by omega
    have en8 : ¬ b10 = b9 := by omega
    have hs8 : sa ≠ none → sb ≠ b8 := fun hn => by have := OwnC.lt HS.out.made.own hn; omega
    have hs9 : sa ≠ none → sb ≠ b9 := fun hn => by have := OwnC.lt HS.out.made.own hn; omega
    have hs10 : sa ≠ none → sb ≠ b10 := fun hn => by have := OwnC.lt HS.out.made.own hn; omega
    have hsr : sa ≠ none → sb ≠ w.heap.size + 1 := fun _ => by have := HS.out.far; omega
    clear hW hb8 hb9 hb10 hsz hbh
    obtain ⟨x0, x1, x2, _⟩ := cells3 H8.out
    obtain ⟨y0, y1, y2, y3, y4, y5⟩ := cells3 H9.out
    obtain ⟨z0, z1, z2, z3, z4, z5⟩ := cells3 H10.out
    obtain ⟨c0, c1, c2, c3, c4, c5, c6, c7⟩ := cells8 HKW.out.b0
    obtain ⟨r0, r1, r2, r3⟩ := cells4 HKW.out.b1
    have f0 := frozen_of HKW.out.b1 0
    have f1 := frozen_of HKW.out.b1 1
    have f2 := frozen_of HKW.out.b1 2
    have f3 := frozen_of HKW.out.b1 3
    dsimp only at c0 c1 c2 c3 c4 c5 c6 c7 r0 r1 r2 r3
  all_goals
    go_wp2_with fail
    refine Calls.mono ((HSET _).out (by exact (by repeat' (first | with_reducible exact HKW.out.beh | with_reducible refine Beh.drew ?_ | with_reducible refine Beh.set ?_ (by omega) _ _)))) ?_
    rintro e w7 ⟨b', a', cap', rfl, hm⟩
    have hl8 := heap_lt H8.out
    have r0 := cell_on hm.beh (a := ⟨w.heap.size + 1, 0, none⟩) (v := .int .i64 0) (by go_simp)
    have r1 := cell_on hm.beh (a := ⟨w.heap.size + 1, 1, none⟩) (v := .int .i64 0) (by go_simp)
    have r2 := cell_on hm.beh (a := ⟨w.heap.size + 1, 2, none⟩) (v := .float .f64 0) (by go_simp)
    have r3 := cell_on hm.beh (a := ⟨w.heap.size + 1, 3, none⟩) (v := .string ⟨#[]⟩) (by go_simp)
    have f0 := frozen_on hm.beh (a := ⟨w.heap.size + 1, 0, none⟩) (by simp; omega) (by go_simp)
    have f1 := frozen_on hm.beh (a := ⟨w.heap.size + 1, 1, none⟩) (by simp; omega) (by go_simp)
    have f2 := frozen_on hm.beh (a := ⟨w.heap.size + 1, 2, none⟩) (by simp; omega) (by go_simp)
    have f3 := frozen_on hm.beh (a := ⟨w.heap.size + 1, 3, none⟩) (by simp; omega) (by go_simp)
    have HM7 := Lib.hid (Made.from (w0 := w) (by repeat' (first | with_reducible exact HKW.out.beh | with_reducible refine Beh.drew ?_ | with_reducible refine Beh.set ?_ (by omega) _ _)) hm)
    have hfb : a' ≠ none → b' ≠ w.heap.size + 1 := fun _ => by have h1 := hm.new; simp at h1; omega
    first
    | (have z0 := cell_on hm.beh (a := ⟨b10, 0, none⟩) (v := (.int .i64 gk)) (by go_simp)
       have z1 := cell_on hm.beh (a := ⟨b10, 1, none⟩) (v := (.float .f64 gn)) (by go_simp)
       have z2 := cell_on hm.beh (a := ⟨b10, 2, none⟩) (v := (.string gs)) (by go_simp)
       clear hm
       go_wp2_with fail
       go_region
       go_wp2_with fail
       (try simp only [Exit.inBlock, Exit.then])
       refine bodyPost_ret (v := .tuple #[.slice a' M.length cap', rep 0 ⟨gk, gn, gs⟩]) ?_ rfl ⟨b', a', cap', rfl, ?_⟩
       · rw [results_tmp_cell rfl]
         go_simp
       · repeat' (first | with_reducible exact HM7.out | with_reducible refine Made.drew ?_ | with_reducible refine Made.setO ?_ (by assumption) (by omega) _ _))
    | (have z0 := cell_on hm.beh (a := ⟨b9, 0, none⟩) (v := (.int .i64 gk)) (by go_simp)
       have z1 := cell_on hm.beh (a := ⟨b9, 1, none⟩) (v := (.float .f64 gn)) (by go_simp)
       have z2 := cell_on hm.beh (a := ⟨b9, 2, none⟩) (v := (.string gs)) (by go_simp)
       clear hm
       go_wp2_with fail
       go_region
       go_wp2_with fail
       (try simp only [Exit.inBlock, Exit.then])
       refine bodyPost_ret (v := .tuple #[.slice a' M.length cap', rep 0 ⟨gk, gn, gs⟩]) ?_ rfl ⟨b', a', cap', rfl, ?_⟩
       · rw [results_tmp_cell rfl]
         go_simp
       · repeat' (first | with_reducible exact HM7.out | with_reducible refine Made.drew ?_ | with_reducible refine Made.setO ?_ (by assumption) (by omega) _ _))
set_option maxHeartbeats 6400000 in
set_option maxRecDepth 100000 in
theorem refDo_del_full (a : Option Addr) (cap : Nat) (L : List Pr) (c : Cm) (w : World) (h : PairsAt w a cap L) (hr : c.right = 0) (hp : rightP L = true) (hk : c.kind = 3) (hf : 32 < (set L c.key (V.zero)).length) :
    Calls Tryz.prog 67 #[.slice a L.length cap, c.agg] w (DoTold w ⟨L, 5, V.zero⟩) := by
  have hl32 : L.length ≤ 32 := ((rightP_iff L).1 hp).1
  have hl : L.length ≤ 100000 := by omega
  have hpw := ((rightP_iff L).1 hp).2.2
  have HI := Lib.hid h
  have HR := fun w => Lib.hid (refCmd_any c w)
  have HP : ∀ w', Hid (Beh w w' → Calls Tryz.prog 24 #[.slice a L.length cap] w' fun e w'' => e = .returned (.bool true) ∧ Below w'.heap.size w' w'') := fun w' hb => by
    have := refPairs_any a cap L w' (h.below hb) hl
    rw [hp] at this
    exact this
  have HG : ∀ w', Hid (Beh w w' → Calls Tryz.prog 95 #[.slice a L.length cap, .string c.key] w' fun e w'' => e = .returned (get L c.key).val ∧ Below w'.heap.size w' w'') := fun w' hb => refGet_any a cap L c.key w' (h.below hb) hl
  have HSET : ∀ w', Hid (Beh w w' → Calls Tryz.prog 97 #[.slice a L.length cap, .string c.key, (V.zero).val] w' fun e w'' => ∃ b' a' cap', e = .returned (.slice a' (set L c.key (V.zero)).length cap') ∧ Made w' w'' b' a' cap' (set L c.key (V.zero))) := fun w' hb => refSet_any a cap L c.key _ w' (h.below hb) hpw hl32
  generalize hM : set L c.key (V.zero) = M at *
  clear hM
  rw [hr] at HR
  clear h hr hp hpw
  generalize get L c.key = g at *
  obtain ⟨gk, gn, gs⟩ := g
  obtain ⟨k, key, ⟨ok, on, os⟩, ⟨vk, vn, vs⟩⟩ := c
  dsimp only at *
  have HK : Hid (Rk w ((w.alloc (.cells #[.int .i64 k, .string key, .int .i64 ok, .float .f64 on, .string os, .int .i64 vk, .float .f64 vn, .string vs] 82)).alloc (.cells #[.int .i64 0, .int .i64 0, .float .f64 0, .string ⟨#[]⟩] 52)) ⟨k, key, ⟨ok, on, os⟩, ⟨vk, vn, vs⟩⟩) := Rk.start w ⟨k, key, ⟨ok, on, os⟩, ⟨vk, vn, vs⟩⟩
  obtain rfl : k = 3 := hk
  have d32 : decide ((32 : Int) < (M.length : Int)) = true := decide_eq_true (by omega)
  go_enter Tryz.func67, Tryz.ntmps67
  go_wp2_with (first | (go_at_call 94; refine Calls.mono (twin_any _ _ _ _ (by exact HI.out.below HK.out.beh) (by exact hl)) ?_; rintro e w' ⟨sb, sa, sc, rfl, hm⟩; (have hfar : w.heap.size + 1 < sb := by have := hm.new; have := heap_lt HK.out.b1; omega); (have HS := Lib.hid (MadeB.mk (hm.from HK.out.beh) hfar)); (have HK := Lib.hid (HK.out.on hm.beh)); clear hm; obtain ⟨c0, c1, c2, c3, c4, c5, c6, c7⟩ := cells8 HK.out.b0; dsimp only at c0 c1 c2 c3 c4 c5 c6 c7) | (go_at_call 93; refine ((HR _).out).mono ?_; rintro e w' ⟨rfl, hb⟩; (have HS := Lib.hid (HS.out.on hb)); (have HK := Lib.hid (HK.out.on hb)); clear hb) | (go_at_call 24; refine Calls.mono ((HP _).out (by exact HK.out.beh)) ?_; rintro e w' ⟨rfl, hb⟩; (have HS := Lib.hid (HS.out.on hb)); (have HK := Lib.hid (HK.out.on hb)); clear hb; obtain ⟨c0, c1, c2, c3, c4, c5, c6, c7⟩ := cells8 HK.out.b0; dsimp only at c0 c1 c2 c3 c4 c5 c6 c7) | (go_at_call 95; refine Calls.mono ((HG _).out (by exact HK.out.beh)) ?_; rintro e w' ⟨rfl, hb⟩; (have HS := Lib.hid (HS.out.on hb)); (have HK := Lib.hid (HK.out.on hb)); clear hb))
  obtain ⟨b10, hb10⟩ : ∃ b, b = w'.heap.size + 1 + 1 := ⟨_, rfl⟩
  obtain ⟨b9, hb9⟩ : ∃ b, b = w'.heap.size + 1 := ⟨_, rfl⟩
  obtain ⟨b8, hb8⟩ : ∃ b, b = w'.heap.size := ⟨_, rfl⟩
  obtain ⟨W, hW⟩ : ∃ W, W = (((w'.alloc (.cells #[.int .i64 gk, .float .f64 gn, .string gs] 50)).alloc (.cells #[.int .i64 gk, .float .f64 gn, .string gs] 50)).alloc (.cells #[.int .i64 gk, .float .f64 gn, .string gs] 50)).drew := ⟨_, rfl⟩
  go_region
  all_goals
    rw [← hW, ← hb10, ← hb9, ← hb8]
    have hsz := heap_lt HK.out.b1
    have hbh : Beh w' W := by rw [hW]; exact (((Beh.start _).alloc _).alloc _ |>.alloc _).drew
    have HKW := Lib.hid (HK.out.on hbh)
    have HSW := Lib.hid (HS.out.on hbh)
    have H8 : Hid (W.heap[b8]? = some (.cells #[.int .i64 gk, .float .f64 gn, .string gs] 50)) := by rw [hW, hb8]; exact old_alloc _ (old_alloc _ (alloc_here _ rfl))
    have H9 : Hid (W.heap[b9]? = some (.cells #[.int .i64 gk, .float .f64 gn, .string gs] 50)) := by rw [hW, hb9]; exact old_alloc _ (alloc_here _ (by simp))
    have H10 : Hid (W.heap[b10]? = some (.cells #[.int .i64 gk, .float .f64 gn, .string gs] 50)) := by rw [hW, hb10]; exact alloc_here _ (by simp)
    have far8 : w.heap.size + 1 < b8 := by omega
    have far9 : w.heap.size + 1 < b9 := by omega
    have far10 : w.heap.size + 1 < b10 := by omega
    have ne0 : ¬ w.heap.size = b8 := by omega
    have en0 : ¬ b8 = w.heap.size := by omega
    have ne1 : ¬ w.heap.size = b9 := by omega
    have en1 : ¬ b9 = w.heap.size := by omega
    have ne2 : ¬ w.heap.size = b10 := by omega
    have en2 : ¬ b10 = w.heap.size := by omega
    have ne3 : ¬ w.heap.size + 1 = b8 := by omega
    have en3 : ¬ b8 = w.heap.size + 1 := by omega
    have ne4 : ¬ w.heap.size + 1 = b9 := by omega
    have en4 : ¬ b9 = w.heap.size + 1 := by omega
    have ne5 : ¬ w.heap.size + 1 = b10 := by omega
    have en5 : ¬ b10 = w.heap.size + 1 := by omega
    have ne6 : ¬ b8 = b9 := by omega
    have en6 : ¬ b9 = b8 := by omega
    have ne7 : ¬ b8 = b10 := by omega
    have en7 : ¬ b10 = b8 := by omega
    have ne8 : ¬ b9 = b10 := by omega
    have en8 : ¬ b10 = b9 := by omega
    have hs8 : sa ≠ none → sb ≠ b8 := fun hn => by have := OwnC.lt HS.out.made.own hn; omega
    have hs9 : sa ≠ none → sb ≠ b9 := fun hn => by have := OwnC.lt HS.out.made.own hn; omega
    have hs10 : sa ≠ none → sb ≠ b10 := fun hn => by have := OwnC.lt HS.out.made.own hn; omega
    have hsr : sa ≠ none → sb ≠ w.heap.size + 1 := fun _ => by have := HS.out.far; omega
    clear hW hb8 hb9 hb10 hsz hbh
    obtain ⟨x0, x1, x2, _⟩ := cells3 H8.out
    obtain ⟨y0, y1, y2, y3, y4, y5⟩ := cells3 H9.out
    obtain ⟨z0, z1, z2, z3, z4, z5⟩ := cells3 H10.out
    obtain ⟨c0, c1, c2, c3, c4, c5, c6, c7⟩ := cells8 HKW.out.b0
    obtain ⟨r0, r1, r2, r3⟩ := cells4 HKW.out.b1
    have f0 := frozen_of HKW.out.b1 0
    have f1 := frozen_of HKW.out.b1 1
    have f2 := frozen_of HKW.out.b1 2
    have f3 := frozen_of HKW.out.b1 3
    dsimp only at c0 c1 c2 c3 c4 c5 c6 c7 r0 r1 r2 r3
  all_goals
    go_wp2_with fail
    refine Calls.mono ((HSET _).out (by exact (by repeat' (first | with_reducible exact HKW.out.beh | with_reducible refine Beh.drew ?_ | with_reducible refine Beh.set ?_ (by omega) _ _)))) ?_
    rintro e w7 ⟨b', a', cap', rfl, hm⟩
    have hl8 := heap_lt H8.out
    have r0 := cell_on hm.beh (a := ⟨w.heap.size + 1, 0, none⟩) (v := .int .i64 0) (by go_simp)
    have r1 := cell_on hm.beh (a := ⟨w.heap.size + 1, 1, none⟩) (v := .int .i64 0) (by go_simp)
    have r2 := cell_on hm.beh (a := ⟨w.heap.size + 1, 2, none⟩) (v := .float .f64 0) (by go_simp)
    have r3 := cell_on hm.beh (a := ⟨w.heap.size + 1, 3, none⟩) (v := .string ⟨#[]⟩) (by go_simp)
    have f0 := frozen_on hm.beh (a := ⟨w.heap.size + 1, 0, none⟩) (by simp; omega) (by go_simp)
    have f1 := frozen_on hm.beh (a := ⟨w.heap.size + 1, 1, none⟩) (by simp; omega) (by go_simp)
    have f2 := frozen_on hm.beh (a := ⟨w.heap.size + 1, 2, none⟩) (by simp; omega) (by go_simp)
    have f3 := frozen_on hm.beh (a := ⟨w.heap.size + 1, 3, none⟩) (by simp; omega) (by go_simp)
    have HS7 : Hid (Made w w7 sb sa sc L) := Made.on (by repeat' (first | with_reducible exact HSW.out.made | with_reducible refine Made.drew ?_ | with_reducible refine Made.setO ?_ (by assumption) (by omega) _ _)) hm.beh
    clear hm
    go_wp2_with fail
    (try simp only [Exit.inBlock, Exit.then])
    refine bodyPost_ret (v := .tuple #[.slice sa L.length sc, rep 5 V.zero]) ?_ rfl ⟨sb, sa, sc, rfl, ?_⟩
    · rw [results_tmp_cell rfl]
      go_simp
    · repeat' (first | with_reducible exact HS7.out | with_reducible refine Made.drew ?_ | with_reducible refine Made.setO ?_ (by assumption) (by omega) _ _)
end Go.Proofs.YtbheofibdogabaaGreat.Kv
