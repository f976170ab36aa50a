import Derived.Test.YtbheofibdogabaaGreatMergeSb29
import Derived.Test.YtbheofibdogabaaGreatDoor
/- The landed Do, where it is refused ahead. -/
namespace Go.Proofs.YtbheofibdogabaaGreat.Kv
open Go Go.RowKit Vl Nm Mem
attribute [local go_sem] run_bits run_frombits run_store_float

/-- what Do answers -/
def DoTold (w : World) (D : Done) (e : Ending) (w' : World) : Prop :=
  ∃ b' a' cap', e = .returned (.tuple #[.slice a' D.L.length cap', rep D.code D.told]) ∧ Made w w' b' a' cap' D.L
set_option maxRecDepth 100000 in
theorem Dk.start (w : World) (a : Option Addr) (n cap : Nat) (c : Cm) :
    Dk w ((((w.alloc (.cells #[.slice a n cap] 22)).alloc c.obj).alloc (.cells #[.slice none 0 0] 22)).alloc (repObj 0 V.zero)) a n cap c (.slice none 0 0) (repObj 0 V.zero) :=
  ⟨old_alloc _ (old_alloc _ (old_alloc _ (alloc_here _ rfl))), old_alloc _ (old_alloc _ (alloc_here _ (by simp))), old_alloc _ (alloc_here _ (by simp)), alloc_here _ (by simp), (((Beh.start w).alloc _).alloc _).alloc _ |>.alloc _⟩
set_option maxRecDepth 100000 in
theorem Dk.set {w0 w : World} {a : Option Addr} {n cap : Nat} {c : Cm} {x : Value} {r : Obj} (h : Dk w0 w a n cap c x r) {b : Nat} (hb : w0.heap.size + 3 < b) (i : Nat) (v : Value) : Dk w0 (w.setCell ⟨b, i, none⟩ v) a n cap c x r :=
  ⟨heap_seto h.b0 i (by omega) v, heap_seto h.b1 i (by omega) v, heap_seto h.b2 i (by omega) v, heap_seto h.b3 i (by omega) v, h.beh.set (by omega) i v⟩
set_option maxRecDepth 100000 in
/-- the door of Do, where a reply was thrown -/
theorem door_thrown (w0 w : World) (a : Option Addr) (cap : Nat) (L : List Pr) (c : Cm) (code : Int) (v : V) (tmps : Array Value) (h : PairsAt w0 a cap L) (hl : L.length ≤ 100000) (HD : Dk w0 w a L.length cap c (.slice none 0 0) (repObj 0 V.zero))
    (t4 : tmps.getD 4 undef = .pointer (some ⟨w0.heap.size + 1 + 1, 0, none⟩)) (t5 : tmps.getD 5 undef = .pointer (some ⟨w0.heap.size + 1 + 1 + 1, 0, none⟩)) :
    Leaves Tryz.prog Tryz.f62 tmps (DoTold w0 ⟨L, code, v⟩) [{ target := .fn (.func 84) #[.pointer (some ⟨w0.heap.size, 0, none⟩), .pointer (some ⟨w0.heap.size + 1 + 1, 0, none⟩), .pointer (some ⟨w0.heap.size + 1 + 1 + 1, 0, none⟩)], args := #[] }] (.panicking (thrown code v)) w := by
  refine leaves_cons (f := 84) (args := #[.pointer (some ⟨w0.heap.size, 0, none⟩), .pointer (some ⟨w0.heap.size + 1 + 1, 0, none⟩), .pointer (some ⟨w0.heap.size + 1 + 1 + 1, 0, none⟩)]) (by simp) (by simp [go_sem]) ?_
  refine (catch_thrown w0 w a cap L c code v (h.below HD.beh) hl _ (.int .i64 0, .int .i64 0, .float .f64 0, .string ⟨#[]⟩) HD).mono ?_
  rintro e u' w'' ⟨rfl, rfl, b', a', cap', hm, hb4, hc, hh⟩
  obtain ⟨y0, y1, y2, y3⟩ := cells4 hh
  refine ⟨.tuple #[.slice a' L.length cap', rep code v], ?_, b', a', cap', rfl, hm⟩
  rw [results_cells rfl, t4, t5]
  go_simp
set_option maxHeartbeats 800000 in
set_option maxRecDepth 100000 in
theorem do_not (a : Option Addr) (cap : Nat) (L : List Pr) (c : Cm) (w : World) (h : PairsAt w a cap L) (hl : L.length ≤ 100000) (hr : c.right ≠ 0) :
    Calls Tryz.prog 62 #[.slice a L.length cap, c.agg] w (DoTold w ⟨L, c.right, V.zero⟩) := by
  have HI := Lib.hid h
  have HD := Lib.hid (Dk.start w a L.length cap c)
  have HN := Lib.hid hr
  have hmf : ∀ (fn : Fn) (first cap : Array Value) (w : World), (Instr.makeFunc fn first cap).run Tryz.prog w = .ok (.func fn first cap) w := fun _ _ _ _ => rfl
  clear h hr
  obtain ⟨k, key, ⟨ok, on, os⟩, ⟨vk, vn, vs⟩⟩ := c
  go_enter_defers Tryz.func62, Tryz.ntmps62
  go_wp2_with (first | (go_at_call 81; refine (Right_any ⟨_, _, ⟨_, _, _⟩, ⟨_, _, _⟩⟩ _).mono ?_; rintro e w' ⟨rfl, hb⟩; (have HD := Lib.hid (HD.out.on hb)); clear hb) | (go_at_call 85; refine (must_not _ HN.out _).mono ?_; rintro e w' ⟨rfl, rfl⟩))
  exact door_thrown w _ a cap L _ _ V.zero _ HI.out (by omega) HD.out rfl rfl
set_option maxHeartbeats 800000 in
set_option maxRecDepth 100000 in
theorem do_bad (a : Option Addr) (cap : Nat) (L : List Pr) (c : Cm) (w : World) (h : PairsAt w a cap L) (hl : L.length ≤ 100000) (hr : c.right = 0) (hp : rightP L = false) :
    Calls Tryz.prog 62 #[.slice a L.length cap, c.agg] w (DoTold w ⟨L, 6, V.zero⟩) := by
  have HI := Lib.hid h
  have HD := Lib.hid (Dk.start w a L.length cap c)
  have HR := fun w => Lib.hid (Right_any c w)
  have HC : ∀ w', Hid (Beh w w' → Calls Tryz.prog 42 #[.slice a L.length cap] w' fun e w'' => e = .returned (.int .i64 6) ∧ Below w'.heap.size w' w'') := fun w' hb => by
    have := Check_any a cap L w' (h.below hb)
    rw [hp] at this
    exact this
  rw [hr] at HR
  have hmf : ∀ (fn : Fn) (first cap : Array Value) (w : World), (Instr.makeFunc fn first cap).run Tryz.prog w = .ok (.func fn first cap) w := fun _ _ _ _ => rfl
  clear h hr hp
  obtain ⟨k, key, ⟨ok, on, os⟩, ⟨vk, vn, vs⟩⟩ := c
  go_enter_defers Tryz.func62, Tryz.ntmps62
  go_wp2_with (first | (go_at_call 81; refine ((HR _).out).mono ?_; rintro e w' ⟨rfl, hb⟩; (have HD := Lib.hid (HD.out.on hb)); clear hb; have l0 := cells1 HD.out.b0) | (go_at_call 85; first | (refine (must_ok _).mono ?_; rintro e w' ⟨rfl, rfl⟩) | (refine (must_not _ (by decide) _).mono ?_; rintro e w' ⟨rfl, rfl⟩)) | (go_at_call 42; refine Calls.mono ((HC _).out (by exact HD.out.beh)) ?_; rintro e w' ⟨rfl, hb⟩; (have HD := Lib.hid (HD.out.on hb)); clear hb))
  exact door_thrown w _ a cap L _ _ V.zero _ HI.out (by omega) HD.out rfl rfl
set_option maxHeartbeats 3200000 in
set_option maxRecDepth 100000 in
theorem do_act (a : Option Addr) (cap : Nat) (L : List Pr) (c : Cm) (w : World) (h : PairsAt w a cap L) (hl : L.length ≤ 100000) (hr : c.right = 0) (hp : rightP L = true) (hv : (get L c.key).num < 18446744073709551616) (hc : c.val.num < 18446744073709551616) (ha : (act (get L c.key) c).code ≠ 0) :
    Calls Tryz.prog 62 #[.slice a L.length cap, c.agg] w (DoTold w ⟨L, (act (get L c.key) c).code, (act (get L c.key) c).told⟩) := by
  have HI := Lib.hid h
  have HD := Lib.hid (Dk.start w a L.length cap c)
  have HR := fun w => Lib.hid (Right_any c w)
  have HC : ∀ w', Hid (Beh w w' → Calls Tryz.prog 42 #[.slice a L.length cap] w' fun e w'' => e = .returned (.int .i64 0) ∧ Below w'.heap.size w' w'') := fun w' hb => by
    have := Check_any a cap L w' (h.below hb)
    rw [hp] at this
    exact this
  have HG : ∀ w', Hid (Beh w w' → Calls Tryz.prog 87 #[.slice a L.length cap, .string c.key] w' fun e w'' => e = .returned (get L c.key).val ∧ Below w'.heap.size w' w'') := fun w' hb => Get_any a cap L c.key w' (h.below hb) hl
  have HW : ∀ w', Hid (Calls Tryz.prog 86 #[(get L c.key).val, c.agg] w' fun e w'' => e = .panicked (thrown (act (get L c.key) c).code (act (get L c.key) c).told) ∧ Below w'.heap.size w' w'') := fun w' => by
    have := work_told (get L c.key) c hv hc w'
    rw [if_neg ha] at this
    exact this
  rw [hr] at HR
  have hmf : ∀ (fn : Fn) (first cap : Array Value) (w : World), (Instr.makeFunc fn first cap).run Tryz.prog w = .ok (.func fn first cap) w := fun _ _ _ _ => rfl
  clear h hr hp ha hv hc
  generalize (act (get L c.key) c).code = ac at *
  generalize (act (get L c.key) c).told = at_ at *
  generalize get L c.key = g at *
  obtain ⟨gk, gn, gs⟩ := g
  obtain ⟨k, key, ⟨ok, on, os⟩, ⟨vk, vn, vs⟩⟩ := c
  go_enter_defers Tryz.func62, Tryz.ntmps62
  go_wp2_with (first | (go_at_call 81; refine ((HR _).out).mono ?_; rintro e w' ⟨rfl, hb⟩; (have HD := Lib.hid (HD.out.on hb)); clear hb; have l0 := cells1 HD.out.b0) | (go_at_call 85; refine (must_ok _).mono ?_; rintro e w' ⟨rfl, rfl⟩) | (go_at_call 42; refine Calls.mono ((HC _).out (by exact HD.out.beh)) ?_; rintro e w' ⟨rfl, hb⟩; (have HD := Lib.hid (HD.out.on hb)); clear hb; (have l0 := cells1 HD.out.b0); obtain ⟨c0, c1, c2, c3, c4, c5, c6, c7⟩ := cells8 HD.out.b1; dsimp only at c0 c1 c2 c3 c4 c5 c6 c7))
  refine wp_region_door (p4 := .pointer (some ⟨w.heap.size + 1 + 1, 0, none⟩)) (p5 := .pointer (some ⟨w.heap.size + 1 + 1 + 1, 0, none⟩)) (S := fun wq => Dk w wq a L.length cap ⟨k, key, ⟨ok, on, os⟩, ⟨vk, vn, vs⟩⟩ (.slice none 0 0) (repObj 0 V.zero)) (fun _ _ => False) (by kernel_rfl) (by kernel_rfl) (fun _ _ _ h => h) (by rfl) (by rfl) (fun _ _ h => h.elim) ?_
  obtain ⟨w1, hw1⟩ : ∃ v, v = w'.drew := ⟨_, rfl⟩
  rw [← hw1]
  have HS1 : Hid (Dk w w1 a L.length cap ⟨k, key, ⟨ok, on, os⟩, ⟨vk, vn, vs⟩⟩ (.slice none 0 0) (repObj 0 V.zero)) := by rw [hw1]; exact HD.out.on ((Beh.start _).drew)
  clear hw1
  have LQ : ∀ wq, Dk w wq a L.length cap ⟨k, key, ⟨ok, on, os⟩, ⟨vk, vn, vs⟩⟩ (.slice none 0 0) (repObj 0 V.zero) → (wq.cell? ⟨w.heap.size, 0, none⟩ = some (.slice a L.length cap) ∧ wq.cell? ⟨w.heap.size + 1, 0, none⟩ = some (.int .i64 k) ∧ wq.cell? ⟨w.heap.size + 1, 1, none⟩ = some (.string key) ∧ wq.cell? ⟨w.heap.size + 1, 2, none⟩ = some (.int .i64 ok) ∧ wq.cell? ⟨w.heap.size + 1, 3, none⟩ = some (.float .f64 on) ∧ wq.cell? ⟨w.heap.size + 1, 4, none⟩ = some (.string os) ∧ wq.cell? ⟨w.heap.size + 1, 5, none⟩ = some (.int .i64 vk) ∧ wq.cell? ⟨w.heap.size + 1, 6, none⟩ = some (.float .f64 vn) ∧ wq.cell? ⟨w.heap.size + 1, 7, none⟩ = some (.string vs)) ∧ True := fun wq hq => ⟨⟨cells1 hq.b0, cells8 hq.b1⟩, trivial⟩
  have LQ := Lib.hid LQ
  refine wpAnyH_take (i := 0) (v := ?_) rfl (by kernel_rfl) (by kernel_rfl) (by kernel_rfl) (fun _ _ _ h => h) (Or.inl ⟨by exact Eq.refl true, ?_⟩) HS1.out ?_
  rotate_left
  · intro wq hq
    obtain ⟨⟨l0, c0, c1, c2, c3, c4, c5, c6, c7⟩, hqr⟩ := LQ.out wq hq
    clear hq hqr
    go_simp
    rfl
  ((try simp only [Act.put]); (try simp only [List.setIfInBounds_toArray]); (try simp only [List.set_cons_zero, List.set_cons_succ]))
  refine wpAnyH_take (i := 1) (v := ?_) rfl (by kernel_rfl) (by kernel_rfl) (by kernel_rfl) (fun _ _ _ h => h) (Or.inl ⟨by exact Eq.refl true, ?_⟩) HS1.out ?_
  rotate_left
  · intro wq hq
    obtain ⟨⟨l0, c0, c1, c2, c3, c4, c5, c6, c7⟩, hqr⟩ := LQ.out wq hq
    clear hq hqr
    go_simp
    rfl
  ((try simp only [Act.put]); (try simp only [List.setIfInBounds_toArray]); (try simp only [List.set_cons_zero, List.set_cons_succ]))
  refine wpAnyH_take (i := 2) (v := ?_) rfl (by kernel_rfl) (by kernel_rfl) (by kernel_rfl) (fun _ _ _ h => h) (Or.inl ⟨by exact Eq.refl true, ?_⟩) HS1.out ?_
  rotate_left
  · intro wq hq
    obtain ⟨⟨l0, c0, c1, c2, c3, c4, c5, c6, c7⟩, hqr⟩ := LQ.out wq hq
    clear hq hqr
    go_simp
    rfl
  ((try simp only [Act.put]); (try simp only [List.setIfInBounds_toArray]); (try simp only [List.set_cons_zero, List.set_cons_succ]))
  refine wpAnyH_take (i := 4) (v := ?_) rfl (by kernel_rfl) (by kernel_rfl) (by kernel_rfl) (fun _ _ _ h => h) (Or.inl ⟨by exact Eq.refl true, ?_⟩) HS1.out ?_
  rotate_left
  · intro wq hq
    obtain ⟨⟨l0, c0, c1, c2, c3, c4, c5, c6, c7⟩, hqr⟩ := LQ.out wq hq
    clear hq hqr
    go_simp
    rfl
  ((try simp only [Act.put]); (try simp only [List.setIfInBounds_toArray]); (try simp only [List.set_cons_zero, List.set_cons_succ]))
  refine wpAnyH_ready (rs := [3, 9, 10]) (by kernel_rfl) (by simp) ?_
  refine AllReadyH.cons rfl (fun K hK => ?_) ?_
  · go_simp
    go_at_call 87
    refine Calls.mono ((HG _).out (by exact HS1.out.beh)) ?_
    rintro e w2 ⟨rfl, hb⟩
    have HS2 := Lib.hid (HS1.out.on hb)
    refine hK.out _ _ HS2.out (fun _ => ?_)
    clear hK K hb
    try ((try simp only [Act.put]); (try simp only [List.setIfInBounds_toArray]); (try simp only [List.set_cons_zero, List.set_cons_succ]))
    refine wpAnyH_ready (rs := [5, 9, 10]) (by kernel_rfl) (by simp) ?_
    refine AllReadyH.cons rfl (fun K hK => ?_) ?_
    · go_simp
      go_at_call 86
      refine Calls.mono ((HW _).out) ?_
      rintro e w3 ⟨rfl, hb⟩
      show ∀ tmps : Array Value, _ → _ → _
      intro tmps t4 t5
      exact door_thrown w _ a cap L _ _ _ tmps HI.out (by omega) (HS2.out.on hb) t4 t5
    refine AllReadyH.cons rfl (fun K hK => ?_) ?_
    · go_simp
      obtain ⟨w3, hw⟩ : ∃ v, v = w2.alloc (.cells #[.int .i64 0, .float .f64 0, .string ⟨#[]⟩] 50) := ⟨_, rfl⟩
      obtain ⟨b6, hb6⟩ : ∃ v, v = w2.heap.size := ⟨_, rfl⟩
      have HS3 : Hid (Dk w w3 a L.length cap ⟨k, key, ⟨ok, on, os⟩, ⟨vk, vn, vs⟩⟩ (.slice none 0 0) (repObj 0 V.zero)) := by rw [hw]; exact HS2.out.on (below_alloc _ _)
      have HB6 : Hid (w3.heap[b6]? = some (.cells #[.int .i64 0, .float .f64 0, .string ⟨#[]⟩] 50)) := by rw [hw]; exact alloc_here _ hb6
      have hgt6 : w.heap.size + 3 < b6 := by have := heap_lt HS2.out.b3; omega
      rw [← hw, ← hb6]
      refine hK.out _ _ HS3.out (fun _ => ?_)
      clear hK K hw hb6
      refine wpAnyH_ready (rs := [5, 10]) (by kernel_rfl) (by simp) ?_
      refine AllReadyH.cons rfl (fun K hK => ?_) ?_
      · go_simp
        go_at_call 86
        refine Calls.mono ((HW _).out) ?_
        rintro e w4 ⟨rfl, hb⟩
        show ∀ tmps : Array Value, _ → _ → _
        intro tmps t4 t5
        exact door_thrown w _ a cap L _ _ _ tmps HI.out (by omega) (HS3.out.on hb) t4 t5
      refine AllReadyH.cons rfl (fun K hK => ?_) ?_
      · go_simp
        obtain ⟨w4, hw⟩ : ∃ v, v = w3.alloc (.cells #[.int .i64 0, .float .f64 0, .string ⟨#[]⟩] 50) := ⟨_, rfl⟩
        obtain ⟨b7, hb7⟩ : ∃ v, v = w3.heap.size := ⟨_, rfl⟩
        have HS4 : Hid (Dk w w4 a L.length cap ⟨k, key, ⟨ok, on, os⟩, ⟨vk, vn, vs⟩⟩ (.slice none 0 0) (repObj 0 V.zero)) := by rw [hw]; exact HS3.out.on (below_alloc _ _)
        have HB7 : Hid (w4.heap[b7]? = some (.cells #[.int .i64 0, .float .f64 0, .string ⟨#[]⟩] 50)) := by rw [hw]; exact alloc_here _ hb7
        have hne : b6 ≠ b7 := by have := heap_lt HB6.out; omega
        have HB6 : Hid (w4.heap[b6]? = some (.cells #[.int .i64 0, .float .f64 0, .string ⟨#[]⟩] 50)) := by rw [hw]; exact old_alloc _ HB6.out
        have hgt7 : w.heap.size + 3 < b7 := by have := heap_lt HS3.out.b3; omega
        rw [← hw, ← hb7]
        refine hK.out _ _ HS4.out (fun _ => ?_)
        clear hK K hw hb7
        refine wpAnyH_ready (rs := [5]) (by kernel_rfl) (by simp) ?_
        refine AllReadyH.cons rfl (fun K hK => ?_) ?_
        · go_simp
          go_at_call 86
          refine Calls.mono ((HW _).out) ?_
          rintro e w5 ⟨rfl, hb⟩
          show ∀ tmps : Array Value, _ → _ → _
          intro tmps t4 t5
          exact door_thrown w _ a cap L _ _ _ tmps HI.out (by omega) (HS4.out.on hb) t4 t5
        exact AllReadyH.nil
      exact AllReadyH.nil
    refine AllReadyH.cons rfl (fun K hK => ?_) ?_
    · go_simp
      obtain ⟨w3, hw⟩ : ∃ v, v = w2.alloc (.cells #[.int .i64 0, .float .f64 0, .string ⟨#[]⟩] 50) := ⟨_, rfl⟩
      obtain ⟨b7, hb7⟩ : ∃ v, v = w2.heap.size := ⟨_, rfl⟩
      have HS3 : Hid (Dk w w3 a L.length cap ⟨k, key, ⟨ok, on, os⟩, ⟨vk, vn, vs⟩⟩ (.slice none 0 0) (repObj 0 V.zero)) := by rw [hw]; exact HS2.out.on (below_alloc _ _)
      have HB7 : Hid (w3.heap[b7]? = some (.cells #[.int .i64 0, .float .f64 0, .string ⟨#[]⟩] 50)) := by rw [hw]; exact alloc_here _ hb7
      have hgt7 : w.heap.size + 3 < b7 := by have := heap_lt HS2.out.b3; omega
      rw [← hw, ← hb7]
      refine hK.out _ _ HS3.out (fun _ => ?_)
      clear hK K hw hb7
      refine wpAnyH_ready (rs := [5, 9]) (by kernel_rfl) (by simp) ?_
      refine AllReadyH.cons rfl (fun K hK => ?_) ?_
      · go_simp
        go_at_call 86
        refine Calls.mono ((HW _).out) ?_
        rintro e w4 ⟨rfl, hb⟩
        show ∀ tmps : Array Value, _ → _ → _
        intro tmps t4 t5
        exact door_thrown w _ a cap L _ _ _ tmps HI.out (by omega) (HS3.out.on hb) t4 t5
      refine AllReadyH.cons rfl (fun K hK => ?_) ?_
      · go_simp
        obtain ⟨w4, hw⟩ : ∃ v, v = w3.alloc (.cells #[.int .i64 0, .float .f64 0, .string ⟨#[]⟩] 50) := ⟨_, rfl⟩
        obtain ⟨b6, hb6⟩ : ∃ v, v = w3.heap.size := ⟨_, rfl⟩
        have HS4 : Hid (Dk w w4 a L.length cap ⟨k, key, ⟨ok, on, os⟩, ⟨vk, vn, vs⟩⟩ (.slice none 0 0) (repObj 0 V.zero)) := by rw [hw]; exact HS3.out.on (below_alloc _ _)
        have HB6 : Hid (w4.heap[b6]? = some (.cells #[.int .i64 0, .float .f64 0, .string ⟨#[]⟩] 50)) := by rw [hw]; exact alloc_here _ hb6
        have hne : b7 ≠ b6 := by have := heap_lt HB7.out; omega
        have HB7 : Hid (w4.heap[b7]? = some (.cells #[.int .i64 0, .float .f64 0, .string ⟨#[]⟩] 50)) := by rw [hw]; exact old_alloc _ HB7.out
        have hgt6 : w.heap.size + 3 < b6 := by have := heap_lt HS3.out.b3; omega
        rw [← hw, ← hb6]
        refine hK.out _ _ HS4.out (fun _ => ?_)
        clear hK K hw hb6
        refine wpAnyH_ready (rs := [5]) (by kernel_rfl) (by simp) ?_
        refine AllReadyH.cons rfl (fun K hK => ?_) ?_
        · go_simp
          go_at_call 86
          refine Calls.mono ((HW _).out) ?_
          rintro e w5 ⟨rfl, hb⟩
          show ∀ tmps : Array Value, _ → _ → _
          intro tmps t4 t5
          exact door_thrown w _ a cap L _ _ _ tmps HI.out (by omega) (HS4.out.on hb) t4 t5
        exact AllReadyH.nil
      exact AllReadyH.nil
    exact AllReadyH.nil
  refine AllReadyH.cons rfl (fun K hK => ?_) ?_
  · go_simp
    obtain ⟨w2, hw⟩ : ∃ v, v = w1.alloc (.cells #[.int .i64 0, .float .f64 0, .string ⟨#[]⟩] 50) := ⟨_, rfl⟩
    obtain ⟨b6, hb6⟩ : ∃ v, v = w1.heap.size := ⟨_, rfl⟩
    have HS2 : Hid (Dk w w2 a L.length cap ⟨k, key, ⟨ok, on, os⟩, ⟨vk, vn, vs⟩⟩ (.slice none 0 0) (repObj 0 V.zero)) := by rw [hw]; exact HS1.out.on (below_alloc _ _)
    have HB6 : Hid (w2.heap[b6]? = some (.cells #[.int .i64 0, .float .f64 0, .string ⟨#[]⟩] 50)) := by rw [hw]; exact alloc_here _ hb6
    have hgt6 : w.heap.size + 3 < b6 := by have := heap_lt HS1.out.b3; omega
    rw [← hw, ← hb6]
    refine hK.out _ _ HS2.out (fun _ => ?_)
    clear hK K hw hb6
    refine wpAnyH_ready (rs := [3, 10]) (by kernel_rfl) (by simp) ?_
    refine AllReadyH.cons rfl (fun K hK => ?_) ?_
    · go_simp
      go_at_call 87
      refine Calls.mono ((HG _).out (by exact HS2.out.beh)) ?_
      rintro e w3 ⟨rfl, hb⟩
      have HS3 := Lib.hid (HS2.out.on hb)
      have HB6 := Lib.hid (box_on HB6.out hb)
      refine hK.out _ _ HS3.out (fun _ => ?_)
      clear hK K hb
      try ((try simp only [Act.put]); (try simp only [List.setIfInBounds_toArray]); (try simp only [List.set_cons_zero, List.set_cons_succ]))
      refine wpAnyH_ready (rs := [5, 10]) (by kernel_rfl) (by simp) ?_
      refine AllReadyH.cons rfl (fun K hK => ?_) ?_
      · go_simp
        go_at_call 86
        refine Calls.mono ((HW _).out) ?_
        rintro e w4 ⟨rfl, hb⟩
        show ∀ tmps : Array Value, _ → _ → _
        intro tmps t4 t5
        exact door_thrown w _ a cap L _ _ _ tmps HI.out (by omega) (HS3.out.on hb) t4 t5
      refine AllReadyH.cons rfl (fun K hK => ?_) ?_
      · go_simp
        obtain ⟨w4, hw⟩ : ∃ v, v = w3.alloc (.cells #[.int .i64 0, .float .f64 0, .string ⟨#[]⟩] 50) := ⟨_, rfl⟩
        obtain ⟨b7, hb7⟩ : ∃ v, v = w3.heap.size := ⟨_, rfl⟩
        have HS4 : Hid (Dk w w4 a L.length cap ⟨k, key, ⟨ok, on, os⟩, ⟨vk, vn, vs⟩⟩ (.slice none 0 0) (repObj 0 V.zero)) := by rw [hw]; exact HS3.out.on (below_alloc _ _)
        have HB7 : Hid (w4.heap[b7]? = some (.cells #[.int .i64 0, .float .f64 0, .string ⟨#[]⟩] 50)) := by rw [hw]; exact alloc_here _ hb7
        have hne : b6 ≠ b7 := by have := heap_lt HB6.out; omega
        have HB6 : Hid (w4.heap[b6]? = some (.cells #[.int .i64 0, .float .f64 0, .string ⟨#[]⟩] 50)) := by rw [hw]; exact old_alloc _ HB6.out
        have hgt7 : w.heap.size + 3 < b7 := by have := heap_lt HS3.out.b3; omega
        rw [← hw, ← hb7]
        refine hK.out _ _ HS4.out (fun _ => ?_)
        clear hK K hw hb7
        refine wpAnyH_ready (rs := [5]) (by kernel_rfl) (by simp) ?_
        refine AllReadyH.cons rfl (fun K hK => ?_) ?_
        · go_simp
          go_at_call 86
          refine Calls.mono ((HW _).out) ?_
          rintro e w5 ⟨rfl, hb⟩
          show ∀ tmps : Array Value, _ → _ → _
          intro tmps t4 t5
          exact door_thrown w _ a cap L _ _ _ tmps HI.out (by omega) (HS4.out.on hb) t4 t5
        exact AllReadyH.nil
      exact AllReadyH.nil
    refine AllReadyH.cons rfl (fun K hK => ?_) ?_
    · go_simp
      obtain ⟨w3, hw⟩ : ∃ v, v = w2.alloc (.cells #[.int .i64 0, .float .f64 0, .string ⟨#[]⟩] 50) := ⟨_, rfl⟩
      obtain ⟨b7, hb7⟩ : ∃ v, v = w2.heap.size := ⟨_, rfl⟩
      have HS3 : Hid (Dk w w3 a L.length cap ⟨k, key, ⟨ok, on, os⟩, ⟨vk, vn, vs⟩⟩ (.slice none 0 0) (repObj 0 V.zero)) := by rw [hw]; exact HS2.out.on (below_alloc _ _)
      have HB7 : Hid (w3.heap[b7]? = some (.cells #[.int .i64 0, .float .f64 0, .string ⟨#[]⟩] 50)) := by rw [hw]; exact alloc_here _ hb7
      have hne : b6 ≠ b7 := by have := heap_lt HB6.out; omega
      have HB6 : Hid (w3.heap[b6]? = some (.cells #[.int .i64 0, .float .f64 0, .string ⟨#[]⟩] 50)) := by rw [hw]; exact old_alloc _ HB6.out
      have hgt7 : w.heap.size + 3 < b7 := by have := heap_lt HS2.out.b3; omega
      rw [← hw, ← hb7]
      refine hK.out _ _ HS3.out (fun _ => ?_)
      clear hK K hw hb7
      refine wpAnyH_ready (rs := [3]) (by kernel_rfl) (by simp) ?_
      refine AllReadyH.cons rfl (fun K hK => ?_) ?_
      · go_simp
        go_at_call 87
        refine Calls.mono ((HG _).out (by exact HS3.out.beh)) ?_
        rintro e w4 ⟨rfl, hb⟩
        have HS4 := Lib.hid (HS3.out.on hb)
        have HB6 := Lib.hid (box_on HB6.out hb)
        have HB7 := Lib.hid (box_on HB7.out hb)
        refine hK.out _ _ HS4.out (fun _ => ?_)
        clear hK K hb
        try ((try simp only [Act.put]); (try simp only [List.setIfInBounds_toArray]); (try simp only [List.set_cons_zero, List.set_cons_succ]))
        refine wpAnyH_ready (rs := [5]) (by kernel_rfl) (by simp) ?_
        refine AllReadyH.cons rfl (fun K hK => ?_) ?_
        · go_simp
          go_at_call 86
          refine Calls.mono ((HW _).out) ?_
          rintro e w5 ⟨rfl, hb⟩
          show ∀ tmps : Array Value, _ → _ → _
          intro tmps t4 t5
          exact door_thrown w _ a cap L _ _ _ tmps HI.out (by omega) (HS4.out.on hb) t4 t5
        exact AllReadyH.nil
      exact AllReadyH.nil
    exact AllReadyH.nil
  refine AllReadyH.cons rfl (fun K hK => ?_) ?_
  · go_simp
    obtain ⟨w2, hw⟩ : ∃ v, v = w1.alloc (.cells #[.int .i64 0, .float .f64 0, .string ⟨#[]⟩] 50) := ⟨_, rfl⟩
    obtain ⟨b7, hb7⟩ : ∃ v, v = w1.heap.size := ⟨_, rfl⟩
    have HS2 : Hid (Dk w w2 a L.length cap ⟨k, key, ⟨ok, on, os⟩, ⟨vk, vn, vs⟩⟩ (.slice none 0 0) (repObj 0 V.zero)) := by rw [hw]; exact HS1.out.on (below_alloc _ _)
    have HB7 : Hid (w2.heap[b7]? = some (.cells #[.int .i64 0, .float .f64 0, .string ⟨#[]⟩] 50)) := by rw [hw]; exact alloc_here _ hb7
    have hgt7 : w.heap.size + 3 < b7 := by have := heap_lt HS1.out.b3; omega
    rw [← hw, ← hb7]
    refine hK.out _ _ HS2.out (fun _ => ?_)
    clear hK K hw hb7
    refine wpAnyH_ready (rs := [3, 9]) (by kernel_rfl) (by simp) ?_
    refine AllReadyH.cons rfl (fun K hK => ?_) ?_
    · go_simp
      go_at_call 87
      refine Calls.mono ((HG _).out (by exact HS2.out.beh)) ?_
      rintro e w3 ⟨rfl, hb⟩
      have HS3 := Lib.hid (HS2.out.on hb)
      have HB7 := Lib.hid (box_on HB7.out hb)
      refine hK.out _ _ HS3.out (fun _ => ?_)
      clear hK K hb
      try ((try simp only [Act.put]); (try simp only [List.setIfInBounds_toArray]); (try simp only [List.set_cons_zero, List.set_cons_succ]))
      refine wpAnyH_ready (rs := [5, 9]) (by kernel_rfl) (by simp) ?_
      refine AllReadyH.cons rfl (fun K hK => ?_) ?_
      · go_simp
        go_at_call 86
        refine Calls.mono ((HW _).out) ?_
        rintro e w4 ⟨rfl, hb⟩
        show ∀ tmps : Array Value, _ → _ → _
        intro tmps t4 t5
        exact door_thrown w _ a cap L _ _ _ tmps HI.out (by omega) (HS3.out.on hb) t4 t5
      refine AllReadyH.cons rfl (fun K hK => ?_) ?_
      · go_simp
        obtain ⟨w4, hw⟩ : ∃ v, v = w3.alloc (.cells #[.int .i64 0, .float .f64 0, .string ⟨#[]⟩] 50) := ⟨_, rfl⟩
        obtain ⟨b6, hb6⟩ : ∃ v, v = w3.heap.size := ⟨_, rfl⟩
        have HS4 : Hid (Dk w w4 a L.length cap ⟨k, key, ⟨ok, on, os⟩, ⟨vk, vn, vs⟩⟩ (.slice none 0 0) (repObj 0 V.zero)) := by rw [hw]; exact HS3.out.on (below_alloc _ _)
        have HB6 : Hid (w4.heap[b6]? = some (.cells #[.int .i64 0, .float .f64 0, .string ⟨#[]⟩] 50)) := by rw [hw]; exact alloc_here _ hb6
        have hne : b7 ≠ b6 := by have := heap_lt HB7.out; omega
        have HB7 : Hid (w4.heap[b7]? = some (.cells #[.int .i64 0, .float .f64 0, .string ⟨#[]⟩] 50)) := by rw [hw]; exact old_alloc _ HB7.out
        have hgt6 : w.heap.size + 3 < b6 := by have := heap_lt HS3.out.b3; omega
        rw [← hw, ← hb6]
        refine hK.out _ _ HS4.out (fun _ => ?_)
        clear hK K hw hb6
        refine wpAnyH_ready (rs := [5]) (by kernel_rfl) (by simp) ?_
        refine AllReadyH.cons rfl (fun K hK => ?_) ?_
        · go_simp
          go_at_call 86
          refine Calls.mono ((HW _).out) ?_
          rintro e w5 ⟨rfl, hb⟩
          show ∀ tmps : Array Value, _ → _ → _
          intro tmps t4 t5
          exact door_thrown w _ a cap L _ _ _ tmps HI.out (by omega) (HS4.out.on hb) t4 t5
        exact AllReadyH.nil
      exact AllReadyH.nil
    refine AllReadyH.cons rfl (fun K hK => ?_) ?_
    · go_simp
      obtain ⟨w3, hw⟩ : ∃ v, v = w2.alloc (.cells #[.int .i64 0, .float .f64 0, .string ⟨#[]⟩] 50) := ⟨_, rfl⟩
      obtain ⟨b6, hb6⟩ : ∃ v, v = w2.heap.size := ⟨_, rfl⟩
      have HS3 : Hid (Dk w w3 a L.length cap ⟨k, key, ⟨ok, on, os⟩, ⟨vk, vn, vs⟩⟩ (.slice none 0 0) (repObj 0 V.zero)) := by rw [hw]; exact HS2.out.on (below_alloc _ _)
      have HB6 : Hid (w3.heap[b6]? = some (.cells #[.int .i64 0, .float .f64 0, .string ⟨#[]⟩] 50)) := by rw [hw]; exact alloc_here _ hb6
      have hne : b7 ≠ b6 := by have := heap_lt HB7.out; omega
      have HB7 : Hid (w3.heap[b7]? = some (.cells #[.int .i64 0, .float .f64 0, .string ⟨#[]⟩] 50)) := by rw [hw]; exact old_alloc _ HB7.out
      have hgt6 : w.heap.size + 3 < b6 := by have := heap_lt HS2.out.b3; omega
      rw [← hw, ← hb6]
      refine hK.out _ _ HS3.out (fun _ => ?_)
      clear hK K hw hb6
      refine wpAnyH_ready (rs := [3]) (by kernel_rfl) (by simp) ?_
      refine AllReadyH.cons rfl (fun K hK => ?_) ?_
      · go_simp
        go_at_call 87
        refine Calls.mono ((HG _).out (by exact HS3.out.beh)) ?_
        rintro e w4 ⟨rfl, hb⟩
        have HS4 := Lib.hid (HS3.out.on hb)
        have HB7 := Lib.hid (box_on HB7.out hb)
        have HB6 := Lib.hid (box_on HB6.out hb)
        refine hK.out _ _ HS4.out (fun _ => ?_)
        clear hK K hb
        try ((try simp only [Act.put]); (try simp only [List.setIfInBounds_toArray]); (try simp only [List.set_cons_zero, List.set_cons_succ]))
        refine wpAnyH_ready (rs := [5]) (by kernel_rfl) (by simp) ?_
        refine AllReadyH.cons rfl (fun K hK => ?_) ?_
        · go_simp
          go_at_call 86
          refine Calls.mono ((HW _).out) ?_
          rintro e w5 ⟨rfl, hb⟩
          show ∀ tmps : Array Value, _ → _ → _
          intro tmps t4 t5
          exact door_thrown w _ a cap L _ _ _ tmps HI.out (by omega) (HS4.out.on hb) t4 t5
        exact AllReadyH.nil
      exact AllReadyH.nil
    exact AllReadyH.nil
  exact AllReadyH.nil
end Go.Proofs.YtbheofibdogabaaGreat.Kv
