/- A walk of the reference's conf: Steps. -/
import Derived.Test.YtakaflbfhpalhaaConfR3
import Derived.RegionTactic
import Derived.ChangeAlike
namespace Go.Proofs.Ytakaflbfhpalhaa.Cn
open Go Go.RowKit Bh
attribute [local irreducible] wpQuiet
theorem wrap_pwN {k : Nat} (h : k < 7) : wrap64 (2 ^ k) = pw k := by
  have := wrap_pw (i := (k : Nat)) (by omega) (by omega)
  simpa using this

theorem MadeX.drew {w0 w : World} {b : Nat} {a : Option Addr} {cap : Nat} {L : List C} {c x : C} {X : Nat} (h : MadeX w0 w b a cap L c X x) : MadeX w0 w.drew b a cap L c X x :=
  ⟨⟨h.m.own.heap rfl, h.m.beh.drew, h.m.new, h.m.box⟩, h.bx, h.ne, h.lo⟩
set_option maxRecDepth 20000 in
set_option maxHeartbeats 6400000 in
theorem rSteps_any (c : C) (hok : c.Ok) (w : World) :
    Calls Try.prog 31 #[c.val] w fun e w' => ∃ (b : Nat) (a : Option Addr) (cap : Nat), e = .returned (.slice a (stepsTo c 7).length cap) ∧ MadeC w w' b a cap (stepsTo c 7) c := by
  have HV : Hid (∀ k, k < 7 → stepsTo c (k + 1) = stepsTo c k ++ stepsOf c k) := fun k _ => stepsTo_next c k
  have HO : Hid (∀ k, stepsOf c k = if c.kd k = 1 then [wth c k 0] else if c.kd k = 2 then [wth c k 0] else if c.kd k = 3 then [wth c k 0, wth c k 1] else if c.kd k = 4 then [wth c k 0, wth c k 2] else [wth c k 3, wth c k 4]) := fun _ => rfl
  have HK : Hid (∀ k : Nat, k < 7 → c.kind (k : Nat) = c.kd k) := fun k hk => by unfold C.kind; rw [if_pos ⟨by omega, by omega⟩, show ((k : Nat) : Int).toNat = k by omega]
  have HL : Hid (∀ k, k ≤ 7 → (stepsTo c k).length ≤ 14) := fun k hk => by have := stepsTo_len c k; omega
  have HC := Lib.hid hok
  have HM0 := Lib.hid (MadeC.nil (w := w) (c := c))
  have HZ : Hid ((stepsTo c 0) = []) := rfl
  obtain ⟨⟨f1, f2⟩, ⟨w1, w2⟩, ⟨l1, l2⟩, ⟨x1, x2⟩, _, _⟩ := id hok
  clear hok
  obtain ⟨f, wt, l, x⟩ := c
  simp only at f1 f2 w1 w2 l1 l2 x1 x2
  generalize hc : C.mk f wt l x = c at *
  have HCC := Lib.hid hc
  rw [← hc]
  clear hc
  go_enter Try.func31, Try.ntmps31
  go_wp2_with fail
  go_loopw [3, 4] (fun o i wr => ∃ (k : Nat) (b : Nat) (a : Option Addr) (cap : Nat), k ≤ 7 ∧ i = .int .i64 k ∧ o = .slice a (stepsTo c k).length cap ∧ Hid (MadeC w wr b a cap (stepsTo c k) c)) (fun _ i _ => 7 - (intOf i).toNat)
  case atStart => exact ⟨0, _, none, 0, by omega, rfl, by rw [HZ.out]; rfl, by rw [HZ.out]; have := HM0.out; rw [← HCC.out] at this ⊢; exact this⟩
  case round =>
    obtain ⟨k, b, a, cap, hk, rfl, rfl, HM⟩ := hrel
    by_cases hlt : k < 7
    · have HV := Lib.hid (HV.out k hlt)
      have HO := Lib.hid (HO.out k)
      have HKk := Lib.hid (HK.out k hlt)
      have hL := HL.out k hk
      have hS := wrap_pwN hlt
      obtain ⟨p1, p2⟩ := In7.pw hlt
      obtain ⟨c0, c1, c2, c3⟩ := cells4 (show wr.heap[w.heap.size]? = some (.cells #[.int .i64 f, .int .i64 wt, .int .i64 l, .int .i64 x] 23) by have := HM.out.box; rw [← HCC.out] at this; exact this)
      generalize hLL : stepsTo c k = L at *
      clear hLL
      have hkd := kd_lt c k
      obtain e | e | e | e | e : c.kd k = 0 ∨ c.kd k = 1 ∨ c.kd k = 2 ∨ c.kd k = 3 ∨ c.kd k = 4 := by omega
      · have HN : Hid (stepsTo c (k + 1) = L ++ [⟨f, wt, (l + pw k), x⟩, ⟨f, wt, l, (x + pw k)⟩]) := by
          rw [show Hid (stepsTo c (k + 1) = L ++ [⟨f, wt, (l + pw k), x⟩, ⟨f, wt, l, (x + pw k)⟩]) = (stepsTo c (k + 1) = L ++ [⟨f, wt, (l + pw k), x⟩, ⟨f, wt, l, (x + pw k)⟩]) from rfl, HV.out, HO.out, e, val03 HC.out hlt e, val04 HC.out hlt e]
          rw [← HCC.out]
          rfl
        have hkn : kname (C.kind ⟨f, wt, l, x⟩ (k : Nat)) = ⟨#[]⟩ := by rw [HCC.out, HKk.out, e]; rfl
        clear HV HO HKk e hkd
        generalize pw k = p at *
        obtain ⟨v0, v1, v2, v3⟩ := cells4 (alloc_old (.cells #[.int .i64 f, .int .i64 wt, .int .i64 l, .int .i64 x] 23) (show wr.heap[w.heap.size]? = some (.cells #[.int .i64 f, .int .i64 wt, .int .i64 l, .int .i64 x] 23) by have := HM.out.box; rw [← HCC.out] at this; exact this))
        have HM' : Hid (MadeC w wr b a cap L ⟨f, wt, l, x⟩) := by rw [HCC.out]; exact HM.out
        go_wp2_with (first | (go_at_call 27; refine (rKind_any ⟨_, _, _, _⟩ _ _).mono ?_; rintro e wq ⟨rfl, hb⟩; rw [hkn]; have HXa := Lib.hid ((HM'.out.x ⟨f, wt, l, x⟩).on hb); clear hb; obtain ⟨x0, x1', x2', x3⟩ := cells4 HXa.out.bx; have g0 := frozen_of HXa.out.bx 0; have g1 := frozen_of HXa.out.bx 1; have g2 := frozen_of HXa.out.bx 2; have g3 := frozen_of HXa.out.bx 3) | (at_builtin; have HX1 := Lib.hid ((HXa.out.set 2 (.int .i64 (l + p)) ⟨f, wt, (l + p), x⟩ rfl).on (below_alloc _ (C.obj ⟨f, wt, (l + p), x⟩))); refine Mem.wpList_append_cells rfl _ _ _ rfl 23 4 _ _ 32 Try.underlying46 rfl rfl rfl rfl rfl b a cap L.length (flatC L) rfl HX1.out.m.own _ 1 1 _ rfl (one_src (c := ⟨f, wt, (l + p), x⟩) (alloc_here _ (by simp))) flatC_one (by omega) (by omega) ?_; intro b' a' cap' w8 h2 h3 h4 h5; have HXb := Lib.hid (HX1.out.more (y := ⟨f, wt, (l + p), x⟩) h2 h3 h4); clear h2 h3 h4 h5 HX1 HXa; obtain ⟨L1, hL1⟩ : ∃ L1, L1 = L ++ [⟨f, wt, (l + p), x⟩] := ⟨_, rfl⟩; rw [← hL1] at HXb; have hn : L.length + 1 = L1.length := (by rw [hL1]; simp); rw [hn]; have HL1 := Lib.hid hL1; have HLn := Lib.hid hn; have hL1' : L1.length ≤ 15 := (by omega); clear hL1 hn; obtain ⟨y0, y1, y2, y3⟩ := cells4 HXb.out.bx; have j0 := frozen_of HXb.out.bx 0; have j1 := frozen_of HXb.out.bx 1; have j2 := frozen_of HXb.out.bx 2; have j3 := frozen_of HXb.out.bx 3; obtain ⟨z0, z1, z2, z3⟩ := cells4 (show w8.heap[w.heap.size]? = some (.cells #[.int .i64 f, .int .i64 wt, .int .i64 l, .int .i64 x] 23) by exact HXb.out.m.box)))
        go_region
        go_wp2_with (first  | (at_builtin; have HX2 := Lib.hid ((((HXb.out.set 2 (.int .i64 l) ⟨f, wt, l, x⟩ rfl).set 3 (.int .i64 (x + p)) ⟨f, wt, l, (x + p)⟩ rfl).drew).on (below_alloc _ (C.obj ⟨f, wt, l, (x + p)⟩))); refine Mem.wpList_append_cells rfl _ _ _ rfl 23 4 _ _ 32 Try.underlying46 rfl rfl rfl rfl rfl b' a' cap' L1.length (flatC L1) rfl HX2.out.m.own _ 1 1 _ rfl (one_src (c := ⟨f, wt, l, (x + p)⟩) (alloc_here _ (by simp))) flatC_one (by omega) (by omega) ?_; intro b2 a2 cap2 w9 h2 h3 h4 h5; have HXc := Lib.hid (HX2.out.more (y := ⟨f, wt, l, (x + p)⟩) h2 h3 h4); clear h2 h3 h4 h5 HX2 HXb))
        go_roundw
        case rel => exact ⟨k + 1, b2, a2, cap2, by omega, by go_num, by rw [HN.out, HL1.out]; simp, by rw [HN.out]; have := HXc.out.m; rw [HL1.out, List.append_assoc] at this; rw [← HCC.out]; exact this⟩
        case measure => simp [intOf]; omega
      · have HN : Hid (stepsTo c (k + 1) = L ++ [⟨(f - pw k), wt, l, x⟩]) := by
          rw [show Hid (stepsTo c (k + 1) = L ++ [⟨(f - pw k), wt, l, x⟩]) = (stepsTo c (k + 1) = L ++ [⟨(f - pw k), wt, l, x⟩]) from rfl, HV.out, HO.out, e, val10 HC.out hlt e]
          rw [← HCC.out]
          rfl
        have hkn : kname (C.kind ⟨f, wt, l, x⟩ (k : Nat)) = ⟨#[102, 117, 108, 108]⟩ := by rw [HCC.out, HKk.out, e]; rfl
        clear HV HO HKk e hkd
        generalize pw k = p at *
        obtain ⟨v0, v1, v2, v3⟩ := cells4 (alloc_old (.cells #[.int .i64 f, .int .i64 wt, .int .i64 l, .int .i64 x] 23) (show wr.heap[w.heap.size]? = some (.cells #[.int .i64 f, .int .i64 wt, .int .i64 l, .int .i64 x] 23) by have := HM.out.box; rw [← HCC.out] at this; exact this))
        have HM' : Hid (MadeC w wr b a cap L ⟨f, wt, l, x⟩) := by rw [HCC.out]; exact HM.out
        go_wp2_with (first | (go_at_call 27; refine (rKind_any ⟨_, _, _, _⟩ _ _).mono ?_; rintro e wq ⟨rfl, hb⟩; rw [hkn]; have HXa := Lib.hid ((HM'.out.x ⟨f, wt, l, x⟩).on hb); clear hb; obtain ⟨x0, x1', x2', x3⟩ := cells4 HXa.out.bx; have g0 := frozen_of HXa.out.bx 0; have g1 := frozen_of HXa.out.bx 1; have g2 := frozen_of HXa.out.bx 2; have g3 := frozen_of HXa.out.bx 3) | (at_builtin; have HX1 := Lib.hid ((HXa.out.set 0 (.int .i64 (f - p)) ⟨(f - p), wt, l, x⟩ rfl).on (below_alloc _ (C.obj ⟨(f - p), wt, l, x⟩))); refine Mem.wpList_append_cells rfl _ _ _ rfl 23 4 _ _ 32 Try.underlying46 rfl rfl rfl rfl rfl b a cap L.length (flatC L) rfl HX1.out.m.own _ 1 1 _ rfl (one_src (c := ⟨(f - p), wt, l, x⟩) (alloc_here _ (by simp))) flatC_one (by omega) (by omega) ?_; intro b' a' cap' w8 h2 h3 h4 h5; have HXb := Lib.hid (HX1.out.more (y := ⟨(f - p), wt, l, x⟩) h2 h3 h4); clear h2 h3 h4 h5 HX1 HXa))
        go_roundw
        case rel => exact ⟨k + 1, b', a', cap', by omega, by go_num, by rw [HN.out]; simp, by rw [HN.out]; rw [← HCC.out]; exact HXb.out.m⟩
        case measure => simp [intOf]; omega
      · have HN : Hid (stepsTo c (k + 1) = L ++ [⟨f, (wt - pw k), l, x⟩]) := by
          rw [show Hid (stepsTo c (k + 1) = L ++ [⟨f, (wt - pw k), l, x⟩]) = (stepsTo c (k + 1) = L ++ [⟨f, (wt - pw k), l, x⟩]) from rfl, HV.out, HO.out, e, val20 HC.out hlt e]
          rw [← HCC.out]
          rfl
        have hkn : kname (C.kind ⟨f, wt, l, x⟩ (k : Nat)) = ⟨#[119, 105, 116]⟩ := by rw [HCC.out, HKk.out, e]; rfl
        clear HV HO HKk e hkd
        generalize pw k = p at *
        obtain ⟨v0, v1, v2, v3⟩ := cells4 (alloc_old (.cells #[.int .i64 f, .int .i64 wt, .int .i64 l, .int .i64 x] 23) (show wr.heap[w.heap.size]? = some (.cells #[.int .i64 f, .int .i64 wt, .int .i64 l, .int .i64 x] 23) by have := HM.out.box; rw [← HCC.out] at this; exact this))
        have HM' : Hid (MadeC w wr b a cap L ⟨f, wt, l, x⟩) := by rw [HCC.out]; exact HM.out
        go_wp2_with (first | (go_at_call 27; refine (rKind_any ⟨_, _, _, _⟩ _ _).mono ?_; rintro e wq ⟨rfl, hb⟩; rw [hkn]; have HXa := Lib.hid ((HM'.out.x ⟨f, wt, l, x⟩).on hb); clear hb; obtain ⟨x0, x1', x2', x3⟩ := cells4 HXa.out.bx; have g0 := frozen_of HXa.out.bx 0; have g1 := frozen_of HXa.out.bx 1; have g2 := frozen_of HXa.out.bx 2; have g3 := frozen_of HXa.out.bx 3) | (at_builtin; have HX1 := Lib.hid ((HXa.out.set 1 (.int .i64 (wt - p)) ⟨f, (wt - p), l, x⟩ rfl).on (below_alloc _ (C.obj ⟨f, (wt - p), l, x⟩))); refine Mem.wpList_append_cells rfl _ _ _ rfl 23 4 _ _ 32 Try.underlying46 rfl rfl rfl rfl rfl b a cap L.length (flatC L) rfl HX1.out.m.own _ 1 1 _ rfl (one_src (c := ⟨f, (wt - p), l, x⟩) (alloc_here _ (by simp))) flatC_one (by omega) (by omega) ?_; intro b' a' cap' w8 h2 h3 h4 h5; have HXb := Lib.hid (HX1.out.more (y := ⟨f, (wt - p), l, x⟩) h2 h3 h4); clear h2 h3 h4 h5 HX1 HXa))
        go_roundw
        case rel => exact ⟨k + 1, b', a', cap', by omega, by go_num, by rw [HN.out]; simp, by rw [HN.out]; rw [← HCC.out]; exact HXb.out.m⟩
        case measure => simp [intOf]; omega
      · have HN : Hid (stepsTo c (k + 1) = L ++ [⟨f, wt, (l - pw k), x⟩, ⟨(f + pw k), wt, (l - pw k), x⟩]) := by
          rw [show Hid (stepsTo c (k + 1) = L ++ [⟨f, wt, (l - pw k), x⟩, ⟨(f + pw k), wt, (l - pw k), x⟩]) = (stepsTo c (k + 1) = L ++ [⟨f, wt, (l - pw k), x⟩, ⟨(f + pw k), wt, (l - pw k), x⟩]) from rfl, HV.out, HO.out, e, val30 HC.out hlt e, val31 HC.out hlt e]
          rw [← HCC.out]
          rfl
        have hkn : kname (C.kind ⟨f, wt, l, x⟩ (k : Nat)) = ⟨#[108, 101, 97, 114, 110]⟩ := by rw [HCC.out, HKk.out, e]; rfl
        clear HV HO HKk e hkd
        generalize pw k = p at *
        obtain ⟨v0, v1, v2, v3⟩ := cells4 (alloc_old (.cells #[.int .i64 f, .int .i64 wt, .int .i64 l, .int .i64 x] 23) (show wr.heap[w.heap.size]? = some (.cells #[.int .i64 f, .int .i64 wt, .int .i64 l, .int .i64 x] 23) by have := HM.out.box; rw [← HCC.out] at this; exact this))
        have HM' : Hid (MadeC w wr b a cap L ⟨f, wt, l, x⟩) := by rw [HCC.out]; exact HM.out
        go_wp2_with (first | (go_at_call 27; refine (rKind_any ⟨_, _, _, _⟩ _ _).mono ?_; rintro e wq ⟨rfl, hb⟩; rw [hkn]; have HXa := Lib.hid ((HM'.out.x ⟨f, wt, l, x⟩).on hb); clear hb; obtain ⟨x0, x1', x2', x3⟩ := cells4 HXa.out.bx; have g0 := frozen_of HXa.out.bx 0; have g1 := frozen_of HXa.out.bx 1; have g2 := frozen_of HXa.out.bx 2; have g3 := frozen_of HXa.out.bx 3) | (at_builtin; have HX1 := Lib.hid ((HXa.out.set 2 (.int .i64 (l - p)) ⟨f, wt, (l - p), x⟩ rfl).on (below_alloc _ (C.obj ⟨f, wt, (l - p), x⟩))); refine Mem.wpList_append_cells rfl _ _ _ rfl 23 4 _ _ 32 Try.underlying46 rfl rfl rfl rfl rfl b a cap L.length (flatC L) rfl HX1.out.m.own _ 1 1 _ rfl (one_src (c := ⟨f, wt, (l - p), x⟩) (alloc_here _ (by simp))) flatC_one (by omega) (by omega) ?_; intro b' a' cap' w8 h2 h3 h4 h5; have HXb := Lib.hid (HX1.out.more (y := ⟨f, wt, (l - p), x⟩) h2 h3 h4); clear h2 h3 h4 h5 HX1 HXa; obtain ⟨L1, hL1⟩ : ∃ L1, L1 = L ++ [⟨f, wt, (l - p), x⟩] := ⟨_, rfl⟩; rw [← hL1] at HXb; have hn : L.length + 1 = L1.length := (by rw [hL1]; simp); rw [hn]; have HL1 := Lib.hid hL1; have HLn := Lib.hid hn; have hL1' : L1.length ≤ 15 := (by omega); clear hL1 hn; obtain ⟨y0, y1, y2, y3⟩ := cells4 HXb.out.bx; have j0 := frozen_of HXb.out.bx 0; have j1 := frozen_of HXb.out.bx 1; have j2 := frozen_of HXb.out.bx 2; have j3 := frozen_of HXb.out.bx 3) | (at_builtin; have HX2 := Lib.hid ((HXb.out.set 0 (.int .i64 (f + p)) ⟨(f + p), wt, (l - p), x⟩ rfl).on (below_alloc _ (C.obj ⟨(f + p), wt, (l - p), x⟩))); refine Mem.wpList_append_cells rfl _ _ _ rfl 23 4 _ _ 32 Try.underlying46 rfl rfl rfl rfl rfl b' a' cap' L1.length (flatC L1) rfl HX2.out.m.own _ 1 1 _ rfl (one_src (c := ⟨(f + p), wt, (l - p), x⟩) (alloc_here _ (by simp))) flatC_one (by omega) (by omega) ?_; intro b2 a2 cap2 w9 h2 h3 h4 h5; have HXc := Lib.hid (HX2.out.more (y := ⟨(f + p), wt, (l - p), x⟩) h2 h3 h4); clear h2 h3 h4 h5 HX2 HXb))
        go_roundw
        case rel => exact ⟨k + 1, b2, a2, cap2, by omega, by go_num, by rw [HN.out, HL1.out]; simp, by rw [HN.out]; have := HXc.out.m; rw [HL1.out, List.append_assoc] at this; rw [← HCC.out]; exact this⟩
        case measure => simp [intOf]; omega
      · have HN : Hid (stepsTo c (k + 1) = L ++ [⟨f, wt, l, (x - pw k)⟩, ⟨f, (wt + pw k), l, (x - pw k)⟩]) := by
          rw [show Hid (stepsTo c (k + 1) = L ++ [⟨f, wt, l, (x - pw k)⟩, ⟨f, (wt + pw k), l, (x - pw k)⟩]) = (stepsTo c (k + 1) = L ++ [⟨f, wt, l, (x - pw k)⟩, ⟨f, (wt + pw k), l, (x - pw k)⟩]) from rfl, HV.out, HO.out, e, val40 HC.out hlt e, val42 HC.out hlt e]
          rw [← HCC.out]
          rfl
        have hkn : kname (C.kind ⟨f, wt, l, x⟩ (k : Nat)) = ⟨#[108, 101, 97, 114, 110, 119, 105, 116]⟩ := by rw [HCC.out, HKk.out, e]; rfl
        clear HV HO HKk e hkd
        generalize pw k = p at *
        obtain ⟨v0, v1, v2, v3⟩ := cells4 (alloc_old (.cells #[.int .i64 f, .int .i64 wt, .int .i64 l, .int .i64 x] 23) (show wr.heap[w.heap.size]? = some (.cells #[.int .i64 f, .int .i64 wt, .int .i64 l, .int .i64 x] 23) by have := HM.out.box; rw [← HCC.out] at this; exact this))
        have HM' : Hid (MadeC w wr b a cap L ⟨f, wt, l, x⟩) := by rw [HCC.out]; exact HM.out
        go_wp2_with (first | (go_at_call 27; refine (rKind_any ⟨_, _, _, _⟩ _ _).mono ?_; rintro e wq ⟨rfl, hb⟩; rw [hkn]; have HXa := Lib.hid ((HM'.out.x ⟨f, wt, l, x⟩).on hb); clear hb; obtain ⟨x0, x1', x2', x3⟩ := cells4 HXa.out.bx; have g0 := frozen_of HXa.out.bx 0; have g1 := frozen_of HXa.out.bx 1; have g2 := frozen_of HXa.out.bx 2; have g3 := frozen_of HXa.out.bx 3) | (at_builtin; have HX1 := Lib.hid ((HXa.out.set 3 (.int .i64 (x - p)) ⟨f, wt, l, (x - p)⟩ rfl).on (below_alloc _ (C.obj ⟨f, wt, l, (x - p)⟩))); refine Mem.wpList_append_cells rfl _ _ _ rfl 23 4 _ _ 32 Try.underlying46 rfl rfl rfl rfl rfl b a cap L.length (flatC L) rfl HX1.out.m.own _ 1 1 _ rfl (one_src (c := ⟨f, wt, l, (x - p)⟩) (alloc_here _ (by simp))) flatC_one (by omega) (by omega) ?_; intro b' a' cap' w8 h2 h3 h4 h5; have HXb := Lib.hid (HX1.out.more (y := ⟨f, wt, l, (x - p)⟩) h2 h3 h4); clear h2 h3 h4 h5 HX1 HXa; obtain ⟨L1, hL1⟩ : ∃ L1, L1 = L ++ [⟨f, wt, l, (x - p)⟩] := ⟨_, rfl⟩; rw [← hL1] at HXb; have hn : L.length + 1 = L1.length := (by rw [hL1]; simp); rw [hn]; have HL1 := Lib.hid hL1; have HLn := Lib.hid hn; have hL1' : L1.length ≤ 15 := (by omega); clear hL1 hn; obtain ⟨y0, y1, y2, y3⟩ := cells4 HXb.out.bx; have j0 := frozen_of HXb.out.bx 0; have j1 := frozen_of HXb.out.bx 1; have j2 := frozen_of HXb.out.bx 2; have j3 := frozen_of HXb.out.bx 3) | (at_builtin; have HX2 := Lib.hid ((HXb.out.set 1 (.int .i64 (wt + p)) ⟨f, (wt + p), l, (x - p)⟩ rfl).on (below_alloc _ (C.obj ⟨f, (wt + p), l, (x - p)⟩))); refine Mem.wpList_append_cells rfl _ _ _ rfl 23 4 _ _ 32 Try.underlying46 rfl rfl rfl rfl rfl b' a' cap' L1.length (flatC L1) rfl HX2.out.m.own _ 1 1 _ rfl (one_src (c := ⟨f, (wt + p), l, (x - p)⟩) (alloc_here _ (by simp))) flatC_one (by omega) (by omega) ?_; intro b2 a2 cap2 w9 h2 h3 h4 h5; have HXc := Lib.hid (HX2.out.more (y := ⟨f, (wt + p), l, (x - p)⟩) h2 h3 h4); clear h2 h3 h4 h5 HX2 HXb))
        go_roundw
        case rel => exact ⟨k + 1, b2, a2, cap2, by omega, by go_num, by rw [HN.out, HL1.out]; simp, by rw [HN.out]; have := HXc.out.m; rw [HL1.out, List.append_assoc] at this; rw [← HCC.out]; exact this⟩
        case measure => simp [intOf]; omega
    · obtain rfl : k = 7 := by omega
      go_wp2_with fail
      go_ret
      exact ⟨b, a, cap, ret_val (by rw [HCC.out]; rfl), by rw [HCC.out]; exact HM.out⟩
end Go.Proofs.Ytakaflbfhpalhaa.Cn
