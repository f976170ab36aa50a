/- NumMax's walk. -/
import Derived.Test.YtagofgadijeglaaDoorWakes
import Derived.Test.YtagofgadijeglaaDoorNumMore
namespace Go.Proofs.YtagofgadijeglaaDoor.Nm
open Go Go.RowKit

theorem Tab16.drewX {w : World} (h : Tab16 w) (n : Nat) : Tab16 (w.drewN n) := h.below (below_drewN (Below.refl _ _) n)
/-- the ways of the law's second half -/
theorem span_ways (a b c : Nat) (ha : a < 18446744073709551616) (hb : b < 18446744073709551616) (hc : c < 18446744073709551616) :
    less b a = true ∨ (less b a = false ∧ isNaN a = true) ∨ (less b a = false ∧ isNaN a = false ∧ isNaN b = true) ∨
    ((less b a = false ∧ isNaN a = false ∧ isNaN b = false) ∧ (less (clampF c a b) a = false ∧ less b (clampF c a b) = false ∧ clampF c a b < 18446744073709551616) ∧
      (isNaN c = true ∨ (isNaN c = false ∧ less c a = true) ∨ (isNaN c = false ∧ less c a = false ∧ less b c = true) ∨ (isNaN c = false ∧ less c a = false ∧ less b c = false ∧ same (clampF c a b) c = true))) := by
  cases h1 : less b a
  · cases h2 : isNaN a
    · cases h3 : isNaN b
      · refine .inr (.inr (.inr ⟨⟨rfl, rfl, rfl⟩, ?_, ?_⟩))
        · have r : rank a ≤ rank b := by unfold less at h1; rw [decide_eq_false_iff_not] at h1; omega
          obtain ⟨c1, ⟨c2, c3⟩, _⟩ := clamp_rank hc ha hb h2 h3 r
          unfold less
          simp only [decide_eq_false_iff_not]
          cases h4 : isNaN c
          · have := c3 h4; exact ⟨by omega, by omega, c1⟩
          · have := c2 h4; exact ⟨by omega, by omega, c1⟩
        · have r : rank a ≤ rank b := by unfold less at h1; rw [decide_eq_false_iff_not] at h1; omega
          have c4 := (clamp_rank hc ha hb h2 h3 r).2.2
          cases h4 : isNaN c
          · cases h5 : less c a
            · cases h6 : less b c
              · rw [c4 h4 h5 h6]; exact .inr (.inr (.inr ⟨rfl, rfl, rfl, same_refl c⟩))
              · exact .inr (.inr (.inl ⟨rfl, rfl, rfl⟩))
            · exact .inr (.inl ⟨rfl, rfl⟩)
          · exact .inl rfl
      · exact .inr (.inr (.inl ⟨rfl, rfl, rfl⟩))
    · exact .inr (.inl ⟨rfl, rfl⟩)
  · exact .inl rfl
set_option maxHeartbeats 1000000 in
theorem NumMax_any (a b c : Nat) (w : World) (ha : a < 18446744073709551616) (hb : b < 18446744073709551616) (hc : c < 18446744073709551616) (h0 : Tab16 w) :
    Calls Tryd.prog 8 #[.float .f64 a, .float .f64 b, .float .f64 c] w fun e w' => e = .returned (.bool true) ∧ Below w.heap.size w w' := by
  obtain ⟨m1, m2, m3, m4, m5⟩ := max_facts ha hb hc
  have l1 := (rank_max ha hb).2
  have l2 := (rank_max hb hc).2
  have sc := same_refl (sumC a b)
  have hsc := Lib.hid (sumC_comm b a)
  rcases m3 with m3 | ⟨m3, m6⟩
  all_goals
    rcases span_ways a b c ha hb hc with h1 | ⟨h1, h2⟩ | ⟨h1, h2, h3⟩ | ⟨⟨h1, h2, h3⟩, ⟨h4, h5, h6⟩, h7⟩
  all_goals (try rcases h7 with h7 | ⟨h7, h8⟩ | ⟨h7, h8, h9⟩ | ⟨h7, h8, h9, h10⟩)
  all_goals (try have h2' : (FloatKind.f64.format.order a a != some .eq) = _ := h2)
  all_goals (try have h3' : (FloatKind.f64.format.order b b != some .eq) = _ := h3)
  all_goals (try have h7' : (FloatKind.f64.format.order c c != some .eq) = _ := h7)
  all_goals
    go_enter Tryd.func8, Tryd.ntmps8
    go_wp2_with (first | (go_at_call 12; refine (Canon_any _ _).mono ?_; rintro e w' ⟨rfl, rfl⟩) | (go_at_call 13; refine (refCanon_any _ _).mono ?_; rintro e w' ⟨rfl, rfl⟩) | (go_at_call 11; refine (bits_any _ _ _).mono ?_; rintro e w' ⟨rfl, rfl⟩) | (go_at_call 14; refine (Same_any _ _ _).mono ?_; rintro e w' ⟨rfl, rfl⟩) | (go_at_call 15; refine (refSame_any _ _ (by assumption) (by assumption) _).mono ?_; rintro e w' ⟨rfl, rfl⟩) | (go_at_call 16; refine (Less_any _ _ (by assumption) (by assumption) _).mono ?_; rintro e w' ⟨rfl, rfl⟩) | (go_at_call 17; refine (refLess_any _ _ (by assumption) (by assumption) _).mono ?_; rintro e w' ⟨rfl, rfl⟩) | (go_at_call 20; refine (Max_any _ _ (by assumption) (by assumption) _).mono ?_; rintro e w' ⟨rfl, rfl⟩) | (go_at_call 21; refine (refMax_any _ _ (by assumption) (by assumption) _).mono ?_; rintro e w' ⟨rfl, rfl⟩) | (go_at_call 22; refine (Clamp_any _ _ _ (by assumption) (by assumption) (by assumption) _).mono ?_; rintro e w' ⟨rfl, rfl⟩) | (go_at_call 23; refine (refClamp_any _ _ _ (by assumption) (by assumption) (by assumption) _).mono ?_; rintro e w' ⟨rfl, rfl⟩) | (go_at_call 18; refine (Add_any _ _ _).mono ?_; (try rw [hsc.out]); rintro e w' ⟨rfl, n, rfl⟩) | (go_at_call 24; refine (wakes_any _ (by repeat (first | exact h0 | apply Tab16.drewX))).mono ?_; rintro e w' ⟨rfl, hbel⟩))
    go_ret
    exact ⟨rfl, Below.trans (by repeat (first | exact Below.refl _ _ | refine below_drewN ?_ _)) hbel⟩
theorem NumMax_law (a b c : Nat) (W : World) (wa : (Lit.float .f64 a).wf = true) (wb : (Lit.float .f64 b).wf = true) (wc : (Lit.float .f64 c).wf = true) (hL : laidMetH Tryd.prog Rows.numMaxRow.laid W) :
    Calls Tryd.prog 8 #[.float .f64 a, .float .f64 b, .float .f64 c] W fun e w' => e = .returned (.bool true) ∧ Below W.heap.size W w' :=
  NumMax_any a b c W (float_lt wa) (float_lt wb) (float_lt wc) (tab16_of hL)
end Go.Proofs.YtagofgadijeglaaDoor.Nm
