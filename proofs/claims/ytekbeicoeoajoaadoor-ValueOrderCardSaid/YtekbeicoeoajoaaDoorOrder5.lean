/- ValueOrder's walk. -/
import Derived.Test.YtekbeicoeoajoaaDoorTwo5
import Derived.Test.YtekbeicoeoajoaaDoorValLaw
import Derived.Test.YtekbeicoeoajoaaDoorRows
import Derived.Deep.Quiet
import Derived.Deep.QuietTactic
import Derived.BigQuiet
namespace Go.Proofs.YtekbeicoeoajoaaDoor.Vl
open Go Go.RowKit Go.Proofs.YtekbeicoeoajoaaDoor.Nm
attribute [local go_sem] run_bits run_frombits run_store_float

/-- three values, kept -/
structure Three (w : World) (A B C : Obj) (w' : World) : Prop where
  a : w'.heap[w.heap.size]? = some A
  b : w'.heap[w.heap.size + 1]? = some B
  c : w'.heap[w.heap.size + 1 + 1]? = some C
  below : Below w.heap.size w w'
theorem Three.start (w : World) (A B C : Obj) : Three w A B C (((w.alloc A).alloc B).alloc C) :=
  ⟨old_alloc C (old_alloc B (alloc_here A rfl)), old_alloc C (by rw [← size_alloc w A]; exact alloc_here B rfl), alloc_here C (by simp), below3 w A B C⟩
theorem Three.on {w w1 w2 : World} {A B C : Obj} (h : Three w A B C w1) (k : Below w1.heap.size w1 w2) : Three w A B C w2 := ⟨box_on h.a k, box_on h.b k, box_on h.c k, blw h.below k⟩
theorem Three.alloc {w w1 : World} {A B C : Obj} (h : Three w A B C w1) (o : Obj) : Three w A B C (w1.alloc o) := h.on (below_alloc _ _)
theorem Three.drew {w w1 : World} {A B C : Obj} (h : Three w A B C w1) : Three w A B C { w1 with drawn := w1.drawn + 1 } := h.on (below_drewN (Below.refl _ _) 1)
def boxOf (v : V) : Obj := .cells #[.int .i64 v.kind, .float .f64 v.num, .string v.text] 24
set_option maxRecDepth 20000 in
set_option maxHeartbeats 8000000 in
theorem ValueOrder_any (a b c : V) (ha : a.Came) (hb : b.Came) (hc : c.Came) (w : World) (h0 : Tab16 w) :
    Calls Tryd.prog 6 #[a.val, b.val, c.val] w fun e w' => e = .returned (.bool true) ∧ Below w.heap.size w w' := by
  obtain ⟨k, x, s⟩ := a
  obtain ⟨l, y, t⟩ := b
  obtain ⟨m, z, u⟩ := c
  have hx : x < 18446744073709551616 := ha.num
  have hy : y < 18446744073709551616 := hb.num
  have hz : z < 18446744073709551616 := hc.num
  have HT0 := Lib.hid (Three.start w (.cells #[.int .i64 k, .float .f64 x, .string s] 24) (.cells #[.int .i64 l, .float .f64 y, .string t] 24) (.cells #[.int .i64 m, .float .f64 z, .string u] 24))
  cases h1 : decide (2000 < s.size)
  case true =>
    go_enter Tryd.func6, Tryd.ntmps6
    go_wp2_with (first | (go_at_call 8; refine (heavy_any ⟨_, _, _⟩ true (by assumption) _).mono ?_; rintro e w' ⟨rfl, o, rfl⟩))
    go_ret
    exact ⟨rfl, (HT0.out.alloc _).below⟩
  case false =>
    cases h2 : decide (2000 < t.size)
    case true =>
      go_enter Tryd.func6, Tryd.ntmps6
      go_wp2_with (first | (go_at_call 8; refine (heavy_any ⟨_, _, _⟩ _ (by assumption) _).mono ?_; rintro e w' ⟨rfl, o, rfl⟩))
      go_ret
      exact ⟨rfl, ((HT0.out.alloc _).alloc _).below⟩
    case false =>
      cases h3 : decide (2000 < u.size)
      case true =>
        go_enter Tryd.func6, Tryd.ntmps6
        go_wp2_with (first | (go_at_call 8; refine (heavy_any ⟨_, _, _⟩ _ (by assumption) _).mono ?_; rintro e w' ⟨rfl, o, rfl⟩))
        go_ret
        exact ⟨rfl, (((HT0.out.alloc _).alloc _).alloc _).below⟩
      case false =>
        go_enter Tryd.func6, Tryd.ntmps6
        go_wp2_with (first | (go_at_call 8; refine (heavy_any ⟨_, _, _⟩ _ (by assumption) _).mono ?_; rintro e w' ⟨rfl, o, rfl⟩))
        refine wp_region_quiet (C := Three w (.cells #[.int .i64 k, .float .f64 x, .string s] 24) (.cells #[.int .i64 l, .float .f64 y, .string t] 24) (.cells #[.int .i64 m, .float .f64 z, .string u] 24)) (by kernel_rfl) (by kernel_rfl) (((HT0.out.alloc _).alloc _).alloc _).drew ?_
        rcases order_three (a := ⟨k, x, s⟩) (b := ⟨l, y, t⟩) hx hy with ⟨p, q, r⟩ | ⟨p, q, r⟩ | ⟨p, q, r⟩
        all_goals
          repeat (first
            | (refine BigFrame.wpQuiet_skip (by rfl) ?_
               simp only [Act.put, List.setIfInBounds_toArray, List.set_cons_zero, List.set_cons_succ])
            | (refine BigFrame.wpQuiet_want (by rfl) (fun K hK => ?_)
               first
               | (refine BigFrame.quiet_move _ rfl ?_; refine hK _ ?_)
               | (apply Exists.intro
                  refine ⟨fun wq hq => ?_, hK _ ?_⟩
                  · (obtain ⟨c0, c1, c2, d0, d1, d2⟩ := cells3 hq.a
                     obtain ⟨b0, b1, b2, e0, e1, e2⟩ := cells3 hq.b
                     have HQ := Lib.hid hq
                     clear hq
                     unfold Oper.quietAt
                     go_simp
                     first
                     | rfl
                     | (go_at_call 13; exact (Less_v ⟨_, _, _⟩ ⟨_, _, _⟩ (by assumption) (by assumption) _).mono (fun e w' ⟨he, hb⟩ => ⟨he, HQ.out.on hb⟩))
                     | (go_at_call 11; exact (Same_v ⟨_, _, _⟩ ⟨_, _, _⟩ _).mono (fun e w' ⟨he, hb⟩ => ⟨he, HQ.out.on hb⟩))))
               clear hK K
               simp only [Act.put, List.setIfInBounds_toArray, List.set_cons_zero, List.set_cons_succ, p, q, r]))
          refine wpQuiet_nil ?_
          intro wq hq
          have HQ := Lib.hid hq
          obtain ⟨a0, a1, a2, d0, d1, d2⟩ := cells3 hq.a
          obtain ⟨b0, b1, b2, e0, e1, e2⟩ := cells3 hq.b
          obtain ⟨c0, c1, c2, f0, f1, f2⟩ := cells3 hq.c
          clear hq q r
          cases bc : V.less ⟨l, y, t⟩ ⟨m, z, u⟩
        all_goals first | (have ac := order_trans hx hy hz p bc) | skip
        all_goals
          go_wp2_with (first | (go_at_call 13; refine (Less_v ⟨_, _, _⟩ ⟨_, _, _⟩ (by assumption) (by assumption) _).mono ?_; rintro e wq ⟨rfl, hb⟩; have HQ := Lib.hid (HQ.out.on hb); clear hb; obtain ⟨a0, a1, a2, d0, d1, d2⟩ := cells3 HQ.out.a; obtain ⟨b0, b1, b2, e0, e1, e2⟩ := cells3 HQ.out.b; obtain ⟨c0, c1, c2, f0, f1, f2⟩ := cells3 HQ.out.c))
        all_goals
          refine (wakes5 _ (h0.below HQ.out.below)).mono ?_
          rintro e w7 ⟨rfl, hb7⟩
          have HT7 := Lib.hid (HQ.out.on hb7)
          clear hb7
          go_wp2_with fail
          go_ret
          exact ⟨rfl, HT7.out.below⟩
theorem ValueOrder_law (a b c : V) (W : World) (ha : a.Came) (hb : b.Came) (hc : c.Came) (hL : laidMetH Tryd.prog Rows.valueOrderRow.laid W) :
    Calls Tryd.prog 6 #[a.val, b.val, c.val] W fun e w' => e = .returned (.bool true) ∧ Below W.heap.size W w' := by
  have hL2 : laidMet Tryd.prog Rows.valueOrderRow.laid W := hL
  exact ValueOrder_any a b c ha hb hc W (tab16_of hL2)
end Go.Proofs.YtekbeicoeoajoaaDoor.Vl
