import Derived.Test.YtbheofibdogabaaGreatMergeSb18
import Derived.Test.YtbheofibdogabaaGreatMergeSb29
import Derived.Test.YtbheofibdogabaaGreatRefPairs6
import Derived.Test.YtbheofibdogabaaGreatDoA6
/- The reference's Do. -/
namespace Go.Proofs.YtbheofibdogabaaGreat.Kv
open Go Go.RowKit Vl Nm Mem
attribute [local go_sem] run_bits run_frombits run_store_float

set_option maxRecDepth 100000 in
theorem results_tmp_cell {fn : Func} {p u : Tmp} {ty : TypeId} (h : fn.results = #[.tmp u, .cell p ty]) (tmps : Array Value) (P : Program) (w : World) :
    (results fn tmps).run P w = ((asAddr (tmps.getD p undef)).run P w).andThen fun a w₁ => ((loadVar ty a).run P w₁).andThen fun v w₂ => .ok (.tuple #[tmps.getD u undef, v]) w₂ := by
  simp only [results, h]
  simp [Sem.run_bind, Result.andThen]
/-- the blocks of a call of the reference's Do: the command, the reply -/
structure Rk (w0 w : World) (c : Cm) : Prop where
  b0 : w.heap[w0.heap.size]? = some c.obj
  b1 : w.heap[w0.heap.size + 1]? = some (repObj 0 V.zero)
  beh : Beh w0 w
set_option maxRecDepth 100000 in
theorem Rk.start (w : World) (c : Cm) : Rk w ((w.alloc c.obj).alloc (repObj 0 V.zero)) c := ⟨old_alloc _ (alloc_here _ rfl), alloc_here _ (by simp), ((Beh.start w).alloc _).alloc _⟩
set_option maxRecDepth 100000 in
theorem Rk.on {w0 w w' : World} {c : Cm} (h : Rk w0 w c) (hb : Below w.heap.size w w') : Rk w0 w' c := ⟨box_on h.b0 hb, box_on h.b1 hb, h.beh.on hb⟩
set_option maxRecDepth 100000 in
theorem Rk.set {w0 w : World} {c : Cm} (h : Rk w0 w c) {b : Nat} (hb : w0.heap.size + 1 < b) (i : Nat) (v : Value) : Rk w0 (w.setCell ⟨b, i, none⟩ v) c := ⟨heap_seto h.b0 i (by omega) v, heap_seto h.b1 i (by omega) v, h.beh.set (by omega) i v⟩
set_option maxRecDepth 100000 in
theorem Rk.drew {w0 w : World} {c : Cm} (h : Rk w0 w c) : Rk w0 w.drew c := ⟨h.b0, h.b1, h.beh.drew⟩
set_option maxRecDepth 100000 in
theorem Rk.alloc {w0 w : World} {c : Cm} (h : Rk w0 w c) (o : Obj) : Rk w0 (w.alloc o) c := h.on (below_alloc _ _)
set_option maxRecDepth 100000 in
theorem Made.on {w0 w w' : World} {b : Nat} {a : Option Addr} {cap : Nat} {L : List Pr} (m : Made w0 w b a cap L) (hb : Beh w w') : Made w0 w' b a cap L :=
  ⟨OwnC.kept m.own (Kept.of_below hb.below) (fun _ h => h), m.new, m.beh.on hb⟩
set_option maxRecDepth 100000 in
theorem Made.drew {w0 w : World} {b : Nat} {a : Option Addr} {cap : Nat} {L : List Pr} (m : Made w0 w b a cap L) : Made w0 w.drew b a cap L := m.on (Beh.start _).drew
/-- pairs of one's own, whose block lies behind -/
structure MadeB (w0 w : World) (b : Nat) (a : Option Addr) (cap : Nat) (L : List Pr) : Prop where
  made : Made w0 w b a cap L
  far : w0.heap.size + 1 < b
set_option maxRecDepth 100000 in
theorem MadeB.on {w0 w w' : World} {b : Nat} {a : Option Addr} {cap : Nat} {L : List Pr} (m : MadeB w0 w b a cap L) (hb : Beh w w') : MadeB w0 w' b a cap L := ⟨m.made.on hb, m.far⟩
set_option maxRecDepth 100000 in
theorem MadeB.set1 {w0 w : World} {b : Nat} {a : Option Addr} {cap : Nat} {L : List Pr} (m : MadeB w0 w b a cap L) (i : Nat) (v : Value) : MadeB w0 (w.setCell ⟨w0.heap.size + 1, i, none⟩ v) b a cap L := ⟨m.made.set (by omega) m.far i v, m.far⟩

set_option maxHeartbeats 1600000 in
set_option maxRecDepth 100000 in
theorem refDo_not (a : Option Addr) (cap : Nat) (L : List Pr) (c : Cm) (w : World) (h : PairsAt w a cap L) (hl : L.length ≤ 100000) (hr : c.right ≠ 0) :
    Calls Tryz.prog 67 #[.slice a L.length cap, c.agg] w (DoTold w ⟨L, c.right, V.zero⟩) := by
  have HI := Lib.hid h
  have HR := fun w => Lib.hid (refCmd_any c w)
  obtain ⟨rc, hrc⟩ : ∃ rc, c.right = rc := ⟨_, rfl⟩
  rw [hrc] at HR hr ⊢
  clear hrc
  have n1 := int_nbeq hr
  have n2 := int_nbne hr
  clear hr
  clear h
  obtain ⟨k, key, ⟨ok, on, os⟩, ⟨vk, vn, vs⟩⟩ := c
  have HK : Hid (Rk w ((w.alloc (.cells #[.int .i64 k, .string key, .int .i64 ok, .float .f64 on, .string os, .int .i64 vk, .float .f64 vn, .string vs] 82)).alloc (.cells #[.int .i64 0, .int .i64 0, .float .f64 0, .string ⟨#[]⟩] 52)) ⟨k, key, ⟨ok, on, os⟩, ⟨vk, vn, vs⟩⟩) := Rk.start w ⟨k, key, ⟨ok, on, os⟩, ⟨vk, vn, vs⟩⟩
  go_enter Tryz.func67, Tryz.ntmps67
  go_wp2_with (first | (go_at_call 94; refine Calls.mono (twin_any _ _ _ _ (by exact HI.out.below HK.out.beh) (by exact hl)) ?_; rintro e w' ⟨sb, sa, sc, rfl, hm⟩; (have hfar : w.heap.size + 1 < sb := by have := hm.new; have := heap_lt HK.out.b1; omega); (have HS := Lib.hid (MadeB.mk (hm.from HK.out.beh) hfar)); (have HK := Lib.hid (HK.out.on hm.beh)); clear hm; obtain ⟨c0, c1, c2, c3, c4, c5, c6, c7⟩ := cells8 HK.out.b0; dsimp only at c0 c1 c2 c3 c4 c5 c6 c7) | (go_at_call 93; refine ((HR _).out).mono ?_; rintro e w' ⟨rfl, hb⟩; (have HS := Lib.hid (HS.out.on hb)); (have HK := Lib.hid (HK.out.on hb)); clear hb; (have y0 := cells4 HK.out.b1); (obtain ⟨r0, r1, r2, r3⟩ := y0); (have f0 := frozen_of HK.out.b1 0); (have f1 := frozen_of HK.out.b1 1); (have f2 := frozen_of HK.out.b1 2); (have f3 := frozen_of HK.out.b1 3); dsimp only at r0 r1 r2 r3))
  (try simp only [Exit.inBlock, Exit.then])
  refine bodyPost_ret (v := .tuple #[.slice sa L.length sc, rep rc V.zero]) ?_ rfl ⟨sb, sa, sc, rfl, ?_⟩
  · rw [results_tmp_cell rfl]
    go_simp
  · exact ((((HS.out.set1 _ _).set1 _ _).set1 _ _).set1 _ _).made
set_option maxHeartbeats 1600000 in
set_option maxRecDepth 100000 in
theorem refDo_bad (a : Option Addr) (cap : Nat) (L : List Pr) (c : Cm) (w : World) (h : PairsAt w a cap L) (hl : L.length ≤ 100000) (hr : c.right = 0) (hp : rightP L = false) :
    Calls Tryz.prog 67 #[.slice a L.length cap, c.agg] w (DoTold w ⟨L, 6, V.zero⟩) := by
  have HI := Lib.hid h
  have HR := fun w => Lib.hid (refCmd_any c w)
  have HP : ∀ w', Hid (Beh w w' → Calls Tryz.prog 24 #[.slice a L.length cap] w' fun e w'' => e = .returned (.bool false) ∧ Below w'.heap.size w' w'') := fun w' hb => by
    have := refPairs_any a cap L w' (h.below hb) hl
    rw [hp] at this
    exact this
  rw [hr] at HR
  clear hr hp
  clear h
  obtain ⟨k, key, ⟨ok, on, os⟩, ⟨vk, vn, vs⟩⟩ := c
  have HK : Hid (Rk w ((w.alloc (.cells #[.int .i64 k, .string key, .int .i64 ok, .float .f64 on, .string os, .int .i64 vk, .float .f64 vn, .string vs] 82)).alloc (.cells #[.int .i64 0, .int .i64 0, .float .f64 0, .string ⟨#[]⟩] 52)) ⟨k, key, ⟨ok, on, os⟩, ⟨vk, vn, vs⟩⟩) := Rk.start w ⟨k, key, ⟨ok, on, os⟩, ⟨vk, vn, vs⟩⟩
  go_enter Tryz.func67, Tryz.ntmps67
  go_wp2_with (first | (go_at_call 94; refine Calls.mono (twin_any _ _ _ _ (by exact HI.out.below HK.out.beh) (by exact hl)) ?_; rintro e w' ⟨sb, sa, sc, rfl, hm⟩; (have hfar : w.heap.size + 1 < sb := by have := hm.new; have := heap_lt HK.out.b1; omega); (have HS := Lib.hid (MadeB.mk (hm.from HK.out.beh) hfar)); (have HK := Lib.hid (HK.out.on hm.beh)); clear hm; obtain ⟨c0, c1, c2, c3, c4, c5, c6, c7⟩ := cells8 HK.out.b0; dsimp only at c0 c1 c2 c3 c4 c5 c6 c7) | (go_at_call 93; refine ((HR _).out).mono ?_; rintro e w' ⟨rfl, hb⟩; (have HS := Lib.hid (HS.out.on hb)); (have HK := Lib.hid (HK.out.on hb)); clear hb) | (go_at_call 24; refine Calls.mono ((HP _).out (by exact HK.out.beh)) ?_; rintro e w' ⟨rfl, hb⟩; (have HS := Lib.hid (HS.out.on hb)); (have HK := Lib.hid (HK.out.on hb)); clear hb; obtain ⟨c0, c1, c2, c3, c4, c5, c6, c7⟩ := cells8 HK.out.b0; dsimp only at c0 c1 c2 c3 c4 c5 c6 c7; (have y0 := cells4 HK.out.b1); (obtain ⟨r0, r1, r2, r3⟩ := y0); (have f0 := frozen_of HK.out.b1 0); (have f1 := frozen_of HK.out.b1 1); (have f2 := frozen_of HK.out.b1 2); (have f3 := frozen_of HK.out.b1 3); dsimp only at r0 r1 r2 r3))
  (try simp only [Exit.inBlock, Exit.then])
  refine bodyPost_ret (v := .tuple #[.slice sa L.length sc, rep 6 V.zero]) ?_ rfl ⟨sb, sa, sc, rfl, ?_⟩
  · rw [results_tmp_cell rfl]
    go_simp
  · exact ((((HS.out.set1 _ _).set1 _ _).set1 _ _).set1 _ _).made
set_option maxRecDepth 100000 in
theorem cell_on {w w' : World} (hb : Beh w w') {a : Addr} {v : Value} (h : w.cell? a = some v) : w'.cell? a = some v :=
  (World.cell?_of_block (w := w) (hb.below.block a.block (World.block_lt_of_cell? w _ h))).trans h
set_option maxRecDepth 100000 in
theorem frozen_on {w w' : World} (hb : Beh w w') {a : Addr} (hl : a.block < w.heap.size) (h : w.frozen? a = false) : w'.frozen? a = false :=
  (World.frozen?_of_block (w := w) (hb.below.block a.block hl)).trans h
set_option maxRecDepth 100000 in
theorem Made.setO {w0 w : World} {b : Nat} {a : Option Addr} {cap : Nat} {L : List Pr} (m : Made w0 w b a cap L) {k : Nat} (hk : a ≠ none → b ≠ k) (h0 : w0.heap.size ≤ k) (i : Nat) (v : Value) : Made w0 (w.setCell ⟨k, i, none⟩ v) b a cap L :=
  ⟨OwnC.kept m.own ((Kept.refl (Only k) _).setAt (.inl rfl) i v) (fun hn e => hk hn e), m.new, m.beh.set h0 i v⟩
end Go.Proofs.YtbheofibdogabaaGreat.Kv
