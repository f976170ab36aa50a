/- A walk of the reference's conf: Near. -/
import Derived.Test.YtakaflbfhpalhaaConfS
namespace Go.Proofs.Ytakaflbfhpalhaa.Cn
open Go Go.RowKit Bh
attribute [local irreducible] wpQuiet

theorem cells_of {w : World} {b : Nat} {a : Option Addr} {cap : Nat} {L : List C} (h : Mem.OwnC 23 4 w b a cap L.length (flatC L)) {k : Nat} (hk : k < L.length) :
    a = some ⟨b, 0, none⟩ ∧ w.cell? ⟨b, k * 4, none⟩ = some (.int .i64 (L.getD k C.zero).f) ∧ w.cell? ⟨b, k * 4 + 1, none⟩ = some (.int .i64 (L.getD k C.zero).w) ∧ w.cell? ⟨b, k * 4 + 2, none⟩ = some (.int .i64 (L.getD k C.zero).l) ∧ w.cell? ⟨b, k * 4 + 3, none⟩ = some (.int .i64 (L.getD k C.zero).x) := by
  have hl := flatC_length L
  have g : ∀ j, (hj : j < 4) → ∃ h1 : k * 4 + j < (flatC L).length, some (flatC L)[k * 4 + j] = (L.getD k C.zero).cells[j]? := fun j hj => by
    have h1 : k * 4 + j < (flatC L).length := by omega
    exact ⟨h1, by rw [← flatC_get hk j hj, List.getElem?_eq_getElem h1]⟩
  obtain ⟨h0, e0⟩ := g 0 (by omega)
  obtain ⟨h1, e1⟩ := g 1 (by omega)
  obtain ⟨h2, e2⟩ := g 2 (by omega)
  obtain ⟨h3, e3⟩ := g 3 (by omega)
  obtain ⟨a0, c0, _⟩ := h.cell h0
  obtain ⟨_, c1, _⟩ := h.cell h1
  obtain ⟨_, c2, _⟩ := h.cell h2
  obtain ⟨_, c3, _⟩ := h.cell h3
  exact ⟨a0, c0.trans e0, c1.trans e1, c2.trans e2, c3.trans e3⟩
theorem any_no {L : List C} {b : C} (h : ∀ j, j < L.length → decide (L.getD j C.zero = b) = false) : L.any (fun m => decide (m = b)) = false := by
  rw [List.any_eq_false]
  intro m hm
  obtain ⟨j, hj, rfl⟩ := List.mem_iff_getElem.1 hm
  have := h j hj
  rw [List.getD_eq_getElem?_getD, List.getElem?_eq_getElem hj] at this
  simpa using this
theorem any_yes {L : List C} {b : C} {j : Nat} (hj : j < L.length) (h : decide (L.getD j C.zero = b) = true) : L.any (fun m => decide (m = b)) = true := by
  rw [List.any_eq_true]
  refine ⟨L[j], List.getElem_mem hj, ?_⟩
  rw [List.getD_eq_getElem?_getD, List.getElem?_eq_getElem hj] at h
  exact h
set_option maxHeartbeats 1600000 in
theorem rNear_not (a b : C) (w : World) (h : a.right = false ∨ a.right = true ∧ b.right = false) :
    Calls Try.prog 16 #[a.val, b.val] w fun e w' => e = .returned (.bool (nearM a b)) ∧ Below w.heap.size w w' := by
  rcases h with hr | ⟨hr, hm⟩
  · have HN := Lib.hid (show nearM a b = false by unfold nearM; rw [hr]; rfl)
    generalize nearM a b = N at *
    obtain ⟨f, wt, l, x⟩ := a
    obtain ⟨f', wt', l', x'⟩ := b
    have HB := Lib.hid (Two.start w (.cells #[.int .i64 f, .int .i64 wt, .int .i64 l, .int .i64 x] 23) (.cells #[.int .i64 f', .int .i64 wt', .int .i64 l', .int .i64 x'] 23))
    go_enter Try.func16, Try.ntmps16
    go_wp2_with (first | (go_at_call 25; refine (rConf_any ⟨_, _, _, _⟩ _).mono ?_; rintro e wq ⟨rfl, hb⟩; rw [hr]; have HB := Lib.hid (HB.out.on hb); clear hb))
    go_ret
    exact ⟨ret_bool HN.out.symm, HB.out.beh⟩
  · have HN := Lib.hid (show nearM a b = false by unfold nearM; rw [hr, hm]; rfl)
    generalize nearM a b = N at *
    obtain ⟨f, wt, l, x⟩ := a
    obtain ⟨f', wt', l', x'⟩ := b
    have HB := Lib.hid (Two.start w (.cells #[.int .i64 f, .int .i64 wt, .int .i64 l, .int .i64 x] 23) (.cells #[.int .i64 f', .int .i64 wt', .int .i64 l', .int .i64 x'] 23))
    go_enter Try.func16, Try.ntmps16
    go_wp2_with (first | (go_at_call 25; refine (rConf_any ⟨_, _, _, _⟩ _).mono ?_; rintro e wq ⟨rfl, hb⟩; (first | rw [hr] | rw [hm]); have HB := Lib.hid (HB.out.on hb); clear hb; obtain ⟨c0, c1, c2, c3⟩ := cells4 HB.out.a; obtain ⟨d0, d1, d2, d3⟩ := cells4 HB.out.b))
    go_ret
    exact ⟨ret_bool HN.out.symm, HB.out.beh⟩
set_option maxRecDepth 20000 in
set_option maxHeartbeats 3200000 in
theorem rNear_yes (a b : C) (w : World) (hr : a.right = true) (hm : b.right = true) :
    Calls Try.prog 16 #[a.val, b.val] w fun e w' => e = .returned (.bool (nearM a b)) ∧ Below w.heap.size w w' := by
  have HN := Lib.hid (near_eq (right_iff.1 hr) (right_iff.1 hm))
  have HST := Lib.hid (fun W => rSteps_any a (right_iff.1 hr) W)
  have HL := Lib.hid (stepsTo_len a 7)
  generalize stepsTo a 7 = L at *
  have hL : L.length ≤ 14 := HL.out
  have HY : Hid (∀ k, k < L.length → decide (L.getD k C.zero = b) = true → nearM a b = true) := fun k hk h => by rw [← HN.out, any_yes hk h]; rfl
  have HO : Hid ((∀ k, k < L.length → decide (L.getD k C.zero = b) = false) → nearM a b = decide (a = b)) := fun h => by rw [← HN.out, any_no h, Bool.false_or]
  generalize nearM a b = N at *
  clear HL HN
  have HK := Lib.hid (fun (m : C) W => keepConf_any m b W)
  obtain ⟨f', wt', l', x'⟩ := b
  generalize hac : a = ac at HST HO
  obtain ⟨f, wt, l, x⟩ := a
  subst hac
  have HB := Lib.hid (Two.start w (.cells #[.int .i64 f, .int .i64 wt, .int .i64 l, .int .i64 x] 23) (.cells #[.int .i64 f', .int .i64 wt', .int .i64 l', .int .i64 x'] 23))
  go_enter Try.func16, Try.ntmps16
  go_wp2_with (first | (go_at_call 25; refine (rConf_any ⟨_, _, _, _⟩ _).mono ?_; rintro e wq ⟨rfl, hb⟩; (first | rw [hr] | rw [hm]); have HB := Lib.hid (HB.out.on hb); clear hb; obtain ⟨c0, c1, c2, c3⟩ := cells4 HB.out.a; obtain ⟨d0, d1, d2, d3⟩ := cells4 HB.out.b))
  refine Calls.mono (HST.out _) ?_
  rintro e w2 ⟨bL, aL, capL, rfl, hM⟩
  have HB := Lib.hid (HB.out.on hM.beh)
  have HW := Lib.hid hM.own
  have HLS := Lib.hid (fun (W : World) (h : Beh w2 W) (k : Nat) (hk : k < L.length) => cells_of (L := L) (HW.out.kept (Mem.Kept.of_below h) (fun _ h => h)) hk)
  clear hM HW c0 c1 c2 c3 d0 d1 d2 d3
  go_wp2_with fail
  go_loopw [6] (fun i wr => ∃ k : Nat, k ≤ L.length ∧ i = .int .i64 k ∧ Hid (∀ j, j < k → decide (L.getD j C.zero = C.mk f' wt' l' x') = false) ∧ Hid (Beh w2 wr)) (fun i _ => L.length - (intOf i).toNat)
  case atStart => exact ⟨0, by omega, rfl, fun j hj => absurd hj (by omega), Beh.start _⟩
  case round =>
    obtain ⟨k, hk, rfl, hs, HR⟩ := hrel
    by_cases hlt : k < L.length
    · have HLk : Hid (∀ W, Beh w2 W → aL = some ⟨bL, 0, none⟩ ∧ W.cell? ⟨bL, k * 4, none⟩ = some (.int .i64 (L.getD k C.zero).f) ∧ W.cell? ⟨bL, k * 4 + 1, none⟩ = some (.int .i64 (L.getD k C.zero).w) ∧ W.cell? ⟨bL, k * 4 + 2, none⟩ = some (.int .i64 (L.getD k C.zero).l) ∧ W.cell? ⟨bL, k * 4 + 3, none⟩ = some (.int .i64 (L.getD k C.zero).x)) := fun W h => HLS.out W h k hlt
      obtain ⟨rfl, _⟩ := HLk.out _ (Beh.start _)
      cases hq : decide (L.getD k C.zero = C.mk f' wt' l' x')
      · have HQk := Lib.hid hq
        generalize hm2 : L.getD k C.zero = m at hq HLk
        clear hm2
        obtain ⟨mf, mw, ml, mx⟩ := m
        go_wp2_with fail
        refine wp_region_quiet (C := Beh w2) (by kernel_rfl) (by kernel_rfl) HR.out.drew ?_
        repeat (first
          | (refine BigFrame.wpQuiet_skip (by exact Eq.refl false) ?_
             ((try simp only [Act.put]); (try simp only [List.setIfInBounds_toArray]); (try simp only [List.set_cons_zero, List.set_cons_succ])))
          | (refine BigFrame.wpQuiet_want (by exact Eq.refl true) (fun K hK => ?_)
             first
             | (refine quiet_move2 _ rfl (by go_simp; rfl) ?_; refine hK _ ?_)
             | (apply Exists.intro
                refine ⟨fun wq hq => ?_, hK _ ?_⟩
                · ((obtain ⟨_, c0, c1, c2, c3⟩ := HLk.out _ (by assumption)); (obtain ⟨d0, d1, d2, d3⟩ := cells4 (box_on HB.out.b (by assumption)))
                   have HQ := Lib.hid hq
                   clear hq
                   unfold Oper.quietAt
                   go_simp
                   first
                   | rfl
                   | (go_at_call 10; exact (keepConf_any ⟨_, _, _, _⟩ ⟨_, _, _, _⟩ _).mono (fun e w' ⟨he, hb⟩ => ⟨he, HQ.out.on hb⟩))))
             clear hK K
             ((try simp only [Act.put]); (try simp only [List.setIfInBounds_toArray]); (try simp only [List.set_cons_zero, List.set_cons_succ]); (try simp only [hq]))))
        refine wpQuiet_nil ?_
        intro wz hz
        have HR := Lib.hid hz
        clear hz
        go_wp2_with fail
        go_roundw
        case rel => exact ⟨k + 1, by omega, by go_num, fun j hj => if h : j = k then h ▸ HQk.out else hs.out j (by omega), HR.out⟩
        case measure => simp [intOf]; omega
      · have HNk := Lib.hid (HY.out k hlt hq)
        generalize hm2 : L.getD k C.zero = m at hq HLk
        clear hm2
        obtain ⟨mf, mw, ml, mx⟩ := m
        go_wp2_with fail
        refine wp_region_quiet (C := Beh w2) (by kernel_rfl) (by kernel_rfl) HR.out.drew ?_
        repeat (first
          | (refine BigFrame.wpQuiet_skip (by exact Eq.refl false) ?_
             ((try simp only [Act.put]); (try simp only [List.setIfInBounds_toArray]); (try simp only [List.set_cons_zero, List.set_cons_succ])))
          | (refine BigFrame.wpQuiet_want (by exact Eq.refl true) (fun K hK => ?_)
             first
             | (refine quiet_move2 _ rfl (by go_simp; rfl) ?_; refine hK _ ?_)
             | (apply Exists.intro
                refine ⟨fun wq hq => ?_, hK _ ?_⟩
                · ((obtain ⟨_, c0, c1, c2, c3⟩ := HLk.out _ (by assumption)); (obtain ⟨d0, d1, d2, d3⟩ := cells4 (box_on HB.out.b (by assumption)))
                   have HQ := Lib.hid hq
                   clear hq
                   unfold Oper.quietAt
                   go_simp
                   first
                   | rfl
                   | (go_at_call 10; exact (keepConf_any ⟨_, _, _, _⟩ ⟨_, _, _, _⟩ _).mono (fun e w' ⟨he, hb⟩ => ⟨he, HQ.out.on hb⟩))))
             clear hK K
             ((try simp only [Act.put]); (try simp only [List.setIfInBounds_toArray]); (try simp only [List.set_cons_zero, List.set_cons_succ]); (try simp only [hq]))))
        refine wpQuiet_nil ?_
        intro wz hz
        have HR := Lib.hid hz
        clear hz
        go_wp2_with fail
        go_ret
        exact ⟨ret_bool HNk.out.symm, HB.out.beh.on HR.out⟩
    · obtain rfl : k = L.length := by omega
      obtain ⟨Q, hQ⟩ : ∃ Q, Q = decide (C.mk f wt l x = C.mk f' wt' l' x') := ⟨_, rfl⟩
      have HNk : Hid (N = Q) := by rw [hQ]; exact HO.out hs.out
      have HQ := Lib.hid hQ
      clear hQ
      have HB := Lib.hid (HB.out.on HR.out)
      obtain ⟨c0, c1, c2, c3⟩ := cells4 HB.out.a
      obtain ⟨d0, d1, d2, d3⟩ := cells4 HB.out.b
      go_wp2_with (first | (go_at_call 10; refine (keepConf_any ⟨_, _, _, _⟩ ⟨_, _, _, _⟩ _).mono ?_; rintro e wq ⟨rfl, hb⟩; rw [← HQ.out]; have HB := Lib.hid (HB.out.on hb); clear hb))
      go_ret
      exact ⟨ret_bool HNk.out.symm, HB.out.beh⟩
theorem rNear_any (a b : C) (w : World) :
    Calls Try.prog 16 #[a.val, b.val] w fun e w' => e = .returned (.bool (nearM a b)) ∧ Below w.heap.size w w' := by
  cases hr : a.right
  · exact rNear_not a b w (.inl hr)
  · cases hm : b.right
    · exact rNear_not a b w (.inr ⟨hr, hm⟩)
    · exact rNear_yes a b w hr hm
end Go.Proofs.Ytakaflbfhpalhaa.Cn
