/- ValueJoins' walk. -/
import Derived.Test.YtekbeicoeoajoaaDoorFour5
import Derived.Test.YtekbeicoeoajoaaDoorCode5b
import Derived.Test.YtekbeicoeoajoaaDoorValLaw
import Derived.Test.YtekbeicoeoajoaaDoorRows
namespace Go.Proofs.YtekbeicoeoajoaaDoor.Vl
open Go Go.RowKit Go.Proofs.YtekbeicoeoajoaaDoor.Nm
attribute [local go_sem] run_bits run_frombits run_store_float

/-- what is known of two values joined, both ways -/
structure JF (a b x y : V) (xe ye : Int) : Prop where
  right : xe = 0 → x.check = 0
  err : xe ≠ 0 → xe = 8
  none : a.kind = 0 → xe = 0 ∧ x.same b = true
  comm : xe = 0 → ye = 0 → a.kind = b.kind → x.same y = true
theorem gives_sum {a b : V} (ha : a.check = 0) (hb : b.check = 0) (na : a.num < 18446744073709551616) (nb : b.num < 18446744073709551616) :
    ∃ x y xe ye, Gives 15 a b x xe ∧ Gives 15 b a y ye ∧ JF a b x y xe ye := by
  have j := joins_sum ha hb
  exact ⟨_, _, _, _, fun W => Add_v a b na nb W, fun W => Add_v b a nb na W, j.right, j.err, j.none, j.comm⟩
theorem gives_max {a b : V} (ha : a.check = 0) (hb : b.check = 0) (na : a.num < 18446744073709551616) (nb : b.num < 18446744073709551616) :
    ∃ x y xe ye, Gives 17 a b x xe ∧ Gives 17 b a y ye ∧ JF a b x y xe ye := by
  have j := joins_max na nb ha hb
  exact ⟨_, _, _, _, fun W => Max_v a b na nb W, fun W => Max_v b a nb na W, j.right, j.err, j.none, j.comm⟩
/-- the four ways of a round's tests -/
theorem JF.ways {a b x y : V} {xe ye : Int} (h : JF a b x y xe ye) :
    (xe = 8 ∧ a.kind ≠ 0) ∨ (xe = 0 ∧ x.check = 0 ∧ (a.kind = 0 → x.same b = true) ∧ (ye ≠ 0 ∨ (ye = 0 ∧ (x.same y = true ∨ (x.same y = false ∧ a.kind ≠ b.kind))))) := by
  by_cases h0 : xe = 0
  · refine .inr ⟨h0, h.right h0, fun hk => (h.none hk).2, ?_⟩
    by_cases h1 : ye = 0
    · refine .inr ⟨h1, ?_⟩
      cases hs : x.same y
      · refine .inr ⟨rfl, fun hk => ?_⟩
        rw [h.comm h0 h1 hk] at hs
        cases hs
      · exact .inl rfl
    · exact .inl h1
  · exact .inl ⟨h.err h0, fun hk => h0 (h.none hk).1⟩
set_option maxRecDepth 20000 in
set_option maxHeartbeats 8000000 in
theorem ValueJoins_any (a b : V) (ha : a.Came) (hb : b.Came) (w : World) (h0 : Tab16 w) :
    Calls Tryd.prog 7 #[a.val, b.val] w fun e w' => e = .returned (.bool true) ∧ Below w.heap.size w w' := by
  obtain ⟨k, x, s⟩ := a
  obtain ⟨l, y, t⟩ := b
  have hx : x < 18446744073709551616 := ha.num
  have hy : y < 18446744073709551616 := hb.num
  have HT0 := Lib.hid (Two.start w (.cells #[.int .i64 k, .float .f64 x, .string s] 24) (.cells #[.int .i64 l, .float .f64 y, .string t] 24))
  cases h1 : decide (2000 < s.size)
  case true =>
    go_enter Tryd.func7, Tryd.ntmps7
    go_wp2_with (first | (go_at_call 8; refine (heavy_any ⟨_, _, _⟩ true (by assumption) _).mono ?_; rintro e w' ⟨rfl, o, rfl⟩))
    go_ret
    exact ⟨rfl, (HT0.out.alloc _).below⟩
  case false =>
    cases h2 : decide (2000 < t.size)
    case true =>
      go_enter Tryd.func7, Tryd.ntmps7
      go_wp2_with (first | (go_at_call 8; refine (heavy_any ⟨_, _, _⟩ _ (by assumption) _).mono ?_; rintro e w' ⟨rfl, o, rfl⟩))
      go_ret
      exact ⟨rfl, ((HT0.out.alloc _).alloc _).below⟩
    case false =>
      by_cases hc : (V.mk k x s).check = 0
      case neg =>
        have c1 := int_nbne hc
        clear hc
        go_enter Tryd.func7, Tryd.ntmps7
        go_wp2_with (first | (go_at_call 8; refine (heavy_any ⟨_, _, _⟩ _ (by assumption) _).mono ?_; rintro e w' ⟨rfl, o, rfl⟩) | (go_at_call 9; refine (Check_any ⟨_, _, _⟩ _).mono ?_; rintro e w' ⟨rfl, hb1⟩))
        go_ret
        exact ⟨rfl, (((HT0.out.alloc _).alloc _).on hb1).below⟩
      case pos =>
        have c1 := int_bne hc
        have HCA := Lib.hid hc
        clear hc
        by_cases hd : (V.mk l y t).check = 0
        case neg =>
          have c2 := int_nbne hd
          clear hd
          go_enter Tryd.func7, Tryd.ntmps7
          have HQ := Lib.hid (fun o1 o2 => (HT0.out.alloc o1).alloc o2)
          go_wp2_with (first | (go_at_call 8; refine (heavy_any ⟨_, _, _⟩ _ (by assumption) _).mono ?_; rintro e w' ⟨rfl, o, rfl⟩) | (go_at_call 9; refine (Check_any ⟨_, _, _⟩ _).mono ?_; rintro e w1 ⟨rfl, hb1⟩; (first | (have HQ := Lib.hid ((HQ.out _ _).on hb1)) | (have HQ := Lib.hid (HQ.out.on hb1))); clear hb1; obtain ⟨b0, b1, b2, e0, e1, e2⟩ := cells3 HQ.out.b))
          go_ret
          exact ⟨rfl, HQ.out.below⟩
        case pos =>
          have c2 := int_bne hd
          have HCB := Lib.hid hd
          clear hd
          go_enter Tryd.func7, Tryd.ntmps7
          have HQ := Lib.hid (fun o1 o2 => (HT0.out.alloc o1).alloc o2)
          go_wp2_with (first | (go_at_call 8; refine (heavy_any ⟨_, _, _⟩ _ (by assumption) _).mono ?_; rintro e w' ⟨rfl, o, rfl⟩) | (go_at_call 9; refine (Check_any ⟨_, _, _⟩ _).mono ?_; rintro e w1 ⟨rfl, hb1⟩; (first | (have HQ := Lib.hid ((HQ.out _ _).on hb1)) | (have HQ := Lib.hid (HQ.out.on hb1))); clear hb1; obtain ⟨b0, b1, b2, e0, e1, e2⟩ := cells3 HQ.out.b))
          have HQ1 := HQ
          obtain ⟨X0, Y0, xe0, ye0, G1, G2, J0⟩ := gives_sum HCA.out HCB.out hx hy
          obtain ⟨X1, Y1, xe1, ye1, G3, G4, J1⟩ := gives_max HCA.out HCB.out hx hy
          obtain ⟨x0k, x0n, x0s⟩ := X0
          obtain ⟨y0k, y0n, y0s⟩ := Y0
          obtain ⟨x1k, x1n, x1s⟩ := X1
          obtain ⟨y1k, y1n, y1s⟩ := Y1
          have HG1 := Lib.hid G1
          have HG2 := Lib.hid G2
          have HG3 := Lib.hid G3
          have HG4 := Lib.hid G4
          have HW0 := Lib.hid J0.ways
          have HW1 := Lib.hid J1.ways
          clear G1 G2 G3 G4 J0 J1 b0 b1 b2 e0 e1 e2 c1 c2 ha hb
          go_loopw [5] (fun v wr => ∃ q : Nat, q ≤ 2 ∧ v = .int .i64 q ∧ Hid (Two w (.cells #[.int .i64 k, .float .f64 x, .string s] 24) (.cells #[.int .i64 l, .float .f64 y, .string t] 24) wr)) (fun v _ => 2 - (intOf v).toNat)
          case atStart => exact ⟨0, by omega, rfl, HQ1⟩
          case round =>
            obtain ⟨q, hq, rfl, HR⟩ := hrel
            obtain rfl | rfl | rfl : q = 0 ∨ q = 1 ∨ q = 2 := by omega
            · obtain ⟨a0, a1, a2, d0, d1, d2⟩ := cells3 HR.out.a
              obtain ⟨b0, b1, b2, e0, e1, e2⟩ := cells3 HR.out.b
              go_wp2_with fail
              refine (HG1.out _).mono ?_
              rintro e w1 ⟨rfl, hb1⟩
              have HR1 := Lib.hid (HR.out.on hb1)
              clear hb1 a0 a1 a2 d0 d1 d2 b0 b1 b2 e0 e1 e2
              obtain ⟨a0, a1, a2, d0, d1, d2⟩ := cells3_on HR1.out.a
              obtain ⟨b0, b1, b2, e0, e1, e2⟩ := cells3_on HR1.out.b
              go_wp2_with fail
              refine (HG2.out _).mono ?_
              rintro e w2 ⟨rfl, hb2⟩
              have HF := Lib.hid (Four.mk ((HR1.out.alloc _).on hb2 |>.alloc (.cells #[.int .i64 y0k, .float .f64 y0n, .string y0s] 24)) (old_alloc _ (box_on (alloc_here (w := w1) (.cells #[.int .i64 x0k, .float .f64 x0n, .string x0s] 24) rfl) hb2)) (alloc_here (w := w2) _ rfl) HR1.out.size (by have := hb2.size; simp at this; omega))
              clear hb2 a0 a1 a2 d0 d1 d2 b0 b1 b2 e0 e1 e2
              obtain ⟨a0, a1, a2, d0, d1, d2⟩ := cells3 HF.out.two.a
              obtain ⟨b0, b1, b2, e0, e1, e2⟩ := cells3 HF.out.two.b
              obtain ⟨p0, p1, p2, f0, f1, f2⟩ := cells3 HF.out.x
              obtain ⟨q0, q1, q2, g0, g1, g2⟩ := cells3 HF.out.y
              rcases HW0.out with ⟨rfl, hk⟩ | ⟨rfl, hcx, hkn, hy2⟩
              · have t1 := int_nbeq hk
                clear hk
                go_wp2_with (first | (go_at_call 9; refine (Check_any ⟨_, _, _⟩ _).mono ?_; rintro e wq ⟨rfl, hb⟩; have HF := Lib.hid (HF.out.on hb); clear hb; obtain ⟨a0, a1, a2, d0, d1, d2⟩ := cells3 HF.out.two.a; obtain ⟨b0, b1, b2, e0, e1, e2⟩ := cells3 HF.out.two.b; obtain ⟨p0, p1, p2, f0, f1, f2⟩ := cells3 HF.out.x; obtain ⟨q0, q1, q2, g0, g1, g2⟩ := cells3 HF.out.y) | (go_at_call 11; refine (Same_v ⟨_, _, _⟩ ⟨_, _, _⟩ _).mono ?_; rintro e wq ⟨rfl, hb⟩; have HF := Lib.hid (HF.out.on hb); clear hb; obtain ⟨a0, a1, a2, d0, d1, d2⟩ := cells3 HF.out.two.a; obtain ⟨b0, b1, b2, e0, e1, e2⟩ := cells3 HF.out.two.b; obtain ⟨p0, p1, p2, f0, f1, f2⟩ := cells3 HF.out.x; obtain ⟨q0, q1, q2, g0, g1, g2⟩ := cells3 HF.out.y))
                go_roundw
                case rel => exact ⟨1, by omega, by go_num, HF.out.two⟩
                case measure => simp [intOf]
              · have t2 := int_bne hcx
                have t3 : k = 0 → (V.mk x0k x0n x0s).same ⟨l, y, t⟩ = true := hkn
                clear hkn hcx
                rcases hy2 with hy2 | ⟨rfl, hs | ⟨hs, hkl⟩⟩
                · have t4 := int_nbeq hy2
                  clear hy2
                  by_cases hk : k = 0
                  · have t5 := t3 hk
                    have t6 := int_beq hk
                    clear t3 hk
                    go_wp2_with (first | (go_at_call 9; refine (Check_any ⟨_, _, _⟩ _).mono ?_; rintro e wq ⟨rfl, hb⟩; have HF := Lib.hid (HF.out.on hb); clear hb; obtain ⟨a0, a1, a2, d0, d1, d2⟩ := cells3 HF.out.two.a; obtain ⟨b0, b1, b2, e0, e1, e2⟩ := cells3 HF.out.two.b; obtain ⟨p0, p1, p2, f0, f1, f2⟩ := cells3 HF.out.x; obtain ⟨q0, q1, q2, g0, g1, g2⟩ := cells3 HF.out.y) | (go_at_call 11; refine (Same_v ⟨_, _, _⟩ ⟨_, _, _⟩ _).mono ?_; rintro e wq ⟨rfl, hb⟩; have HF := Lib.hid (HF.out.on hb); clear hb; obtain ⟨a0, a1, a2, d0, d1, d2⟩ := cells3 HF.out.two.a; obtain ⟨b0, b1, b2, e0, e1, e2⟩ := cells3 HF.out.two.b; obtain ⟨p0, p1, p2, f0, f1, f2⟩ := cells3 HF.out.x; obtain ⟨q0, q1, q2, g0, g1, g2⟩ := cells3 HF.out.y))
                    go_roundw
                    case rel => exact ⟨1, by omega, by go_num, HF.out.two⟩
                    case measure => simp [intOf]
                  · have t6 := int_nbeq hk
                    clear t3 hk
                    go_wp2_with (first | (go_at_call 9; refine (Check_any ⟨_, _, _⟩ _).mono ?_; rintro e wq ⟨rfl, hb⟩; have HF := Lib.hid (HF.out.on hb); clear hb; obtain ⟨a0, a1, a2, d0, d1, d2⟩ := cells3 HF.out.two.a; obtain ⟨b0, b1, b2, e0, e1, e2⟩ := cells3 HF.out.two.b; obtain ⟨p0, p1, p2, f0, f1, f2⟩ := cells3 HF.out.x; obtain ⟨q0, q1, q2, g0, g1, g2⟩ := cells3 HF.out.y) | (go_at_call 11; refine (Same_v ⟨_, _, _⟩ ⟨_, _, _⟩ _).mono ?_; rintro e wq ⟨rfl, hb⟩; have HF := Lib.hid (HF.out.on hb); clear hb; obtain ⟨a0, a1, a2, d0, d1, d2⟩ := cells3 HF.out.two.a; obtain ⟨b0, b1, b2, e0, e1, e2⟩ := cells3 HF.out.two.b; obtain ⟨p0, p1, p2, f0, f1, f2⟩ := cells3 HF.out.x; obtain ⟨q0, q1, q2, g0, g1, g2⟩ := cells3 HF.out.y))
                    go_roundw
                    case rel => exact ⟨1, by omega, by go_num, HF.out.two⟩
                    case measure => simp [intOf]
                · by_cases hk : k = 0
                  · have t5 := t3 hk
                    have t6 := int_beq hk
                    clear t3 hk
                    go_wp2_with (first | (go_at_call 9; refine (Check_any ⟨_, _, _⟩ _).mono ?_; rintro e wq ⟨rfl, hb⟩; have HF := Lib.hid (HF.out.on hb); clear hb; obtain ⟨a0, a1, a2, d0, d1, d2⟩ := cells3 HF.out.two.a; obtain ⟨b0, b1, b2, e0, e1, e2⟩ := cells3 HF.out.two.b; obtain ⟨p0, p1, p2, f0, f1, f2⟩ := cells3 HF.out.x; obtain ⟨q0, q1, q2, g0, g1, g2⟩ := cells3 HF.out.y) | (go_at_call 11; refine (Same_v ⟨_, _, _⟩ ⟨_, _, _⟩ _).mono ?_; rintro e wq ⟨rfl, hb⟩; have HF := Lib.hid (HF.out.on hb); clear hb; obtain ⟨a0, a1, a2, d0, d1, d2⟩ := cells3 HF.out.two.a; obtain ⟨b0, b1, b2, e0, e1, e2⟩ := cells3 HF.out.two.b; obtain ⟨p0, p1, p2, f0, f1, f2⟩ := cells3 HF.out.x; obtain ⟨q0, q1, q2, g0, g1, g2⟩ := cells3 HF.out.y))
                    go_roundw
                    case rel => exact ⟨1, by omega, by go_num, HF.out.two⟩
                    case measure => simp [intOf]
                  · have t6 := int_nbeq hk
                    clear t3 hk
                    go_wp2_with (first | (go_at_call 9; refine (Check_any ⟨_, _, _⟩ _).mono ?_; rintro e wq ⟨rfl, hb⟩; have HF := Lib.hid (HF.out.on hb); clear hb; obtain ⟨a0, a1, a2, d0, d1, d2⟩ := cells3 HF.out.two.a; obtain ⟨b0, b1, b2, e0, e1, e2⟩ := cells3 HF.out.two.b; obtain ⟨p0, p1, p2, f0, f1, f2⟩ := cells3 HF.out.x; obtain ⟨q0, q1, q2, g0, g1, g2⟩ := cells3 HF.out.y) | (go_at_call 11; refine (Same_v ⟨_, _, _⟩ ⟨_, _, _⟩ _).mono ?_; rintro e wq ⟨rfl, hb⟩; have HF := Lib.hid (HF.out.on hb); clear hb; obtain ⟨a0, a1, a2, d0, d1, d2⟩ := cells3 HF.out.two.a; obtain ⟨b0, b1, b2, e0, e1, e2⟩ := cells3 HF.out.two.b; obtain ⟨p0, p1, p2, f0, f1, f2⟩ := cells3 HF.out.x; obtain ⟨q0, q1, q2, g0, g1, g2⟩ := cells3 HF.out.y))
                    go_roundw
                    case rel => exact ⟨1, by omega, by go_num, HF.out.two⟩
                    case measure => simp [intOf]
                · have t7 : (k == l) = false := int_nbeq hkl
                  clear hkl
                  by_cases hk : k = 0
                  · have t5 := t3 hk
                    have t6 := int_beq hk
                    clear t3 hk
                    go_wp2_with (first | (go_at_call 9; refine (Check_any ⟨_, _, _⟩ _).mono ?_; rintro e wq ⟨rfl, hb⟩; have HF := Lib.hid (HF.out.on hb); clear hb; obtain ⟨a0, a1, a2, d0, d1, d2⟩ := cells3 HF.out.two.a; obtain ⟨b0, b1, b2, e0, e1, e2⟩ := cells3 HF.out.two.b; obtain ⟨p0, p1, p2, f0, f1, f2⟩ := cells3 HF.out.x; obtain ⟨q0, q1, q2, g0, g1, g2⟩ := cells3 HF.out.y) | (go_at_call 11; refine (Same_v ⟨_, _, _⟩ ⟨_, _, _⟩ _).mono ?_; rintro e wq ⟨rfl, hb⟩; have HF := Lib.hid (HF.out.on hb); clear hb; obtain ⟨a0, a1, a2, d0, d1, d2⟩ := cells3 HF.out.two.a; obtain ⟨b0, b1, b2, e0, e1, e2⟩ := cells3 HF.out.two.b; obtain ⟨p0, p1, p2, f0, f1, f2⟩ := cells3 HF.out.x; obtain ⟨q0, q1, q2, g0, g1, g2⟩ := cells3 HF.out.y))
                    go_roundw
                    case rel => exact ⟨1, by omega, by go_num, HF.out.two⟩
                    case measure => simp [intOf]
                  · have t6 := int_nbeq hk
                    clear t3 hk
                    go_wp2_with (first | (go_at_call 9; refine (Check_any ⟨_, _, _⟩ _).mono ?_; rintro e wq ⟨rfl, hb⟩; have HF := Lib.hid (HF.out.on hb); clear hb; obtain ⟨a0, a1, a2, d0, d1, d2⟩ := cells3 HF.out.two.a; obtain ⟨b0, b1, b2, e0, e1, e2⟩ := cells3 HF.out.two.b; obtain ⟨p0, p1, p2, f0, f1, f2⟩ := cells3 HF.out.x; obtain ⟨q0, q1, q2, g0, g1, g2⟩ := cells3 HF.out.y) | (go_at_call 11; refine (Same_v ⟨_, _, _⟩ ⟨_, _, _⟩ _).mono ?_; rintro e wq ⟨rfl, hb⟩; have HF := Lib.hid (HF.out.on hb); clear hb; obtain ⟨a0, a1, a2, d0, d1, d2⟩ := cells3 HF.out.two.a; obtain ⟨b0, b1, b2, e0, e1, e2⟩ := cells3 HF.out.two.b; obtain ⟨p0, p1, p2, f0, f1, f2⟩ := cells3 HF.out.x; obtain ⟨q0, q1, q2, g0, g1, g2⟩ := cells3 HF.out.y))
                    go_roundw
                    case rel => exact ⟨1, by omega, by go_num, HF.out.two⟩
                    case measure => simp [intOf]
            · obtain ⟨a0, a1, a2, d0, d1, d2⟩ := cells3 HR.out.a
              obtain ⟨b0, b1, b2, e0, e1, e2⟩ := cells3 HR.out.b
              go_wp2_with fail
              refine (HG1.out _).mono ?_
              rintro e w1 ⟨rfl, hb1⟩
              have HR1 := Lib.hid (HR.out.on hb1)
              clear hb1 a0 a1 a2 d0 d1 d2 b0 b1 b2 e0 e1 e2
              obtain ⟨a0, a1, a2, d0, d1, d2⟩ := cells3_on HR1.out.a
              obtain ⟨b0, b1, b2, e0, e1, e2⟩ := cells3_on HR1.out.b
              go_wp2_with fail
              refine (HG2.out _).mono ?_
              rintro e w2 ⟨rfl, hb2⟩
              have HF := Lib.hid (Four.mk ((HR1.out.alloc _).on hb2 |>.alloc (.cells #[.int .i64 y0k, .float .f64 y0n, .string y0s] 24)) (old_alloc _ (box_on (alloc_here (w := w1) (.cells #[.int .i64 x0k, .float .f64 x0n, .string x0s] 24) rfl) hb2)) (alloc_here (w := w2) _ rfl) HR1.out.size (by have := hb2.size; simp at this; omega))
              clear hb2 a0 a1 a2 d0 d1 d2 b0 b1 b2 e0 e1 e2
              obtain ⟨a0, a1, a2, d0, d1, d2⟩ := cells3 HF.out.two.a
              obtain ⟨b0, b1, b2, e0, e1, e2⟩ := cells3 HF.out.two.b
              obtain ⟨p0, p1, p2, f0, f1, f2⟩ := cells3 HF.out.x
              obtain ⟨q0, q1, q2, g0, g1, g2⟩ := cells3 HF.out.y
              go_wp2_with fail
              refine (HG3.out _).mono ?_
              rintro e w3 ⟨rfl, hb⟩
              have HF3 := Lib.hid (HF.out.on hb)
              clear hb
              clear a0 a1 a2 d0 d1 d2 b0 b1 b2 e0 e1 e2 p0 p1 p2 f0 f1 f2 q0 q1 q2 g0 g1 g2
              obtain ⟨p0, p1, p2, f0, f1, f2⟩ := cells3 HF3.out.x
              have HF := Lib.hid (HF3.out.setX (.int .i64 x1k) (.float .f64 x1n) (.string x1s))
              obtain ⟨a0, a1, a2, d0, d1, d2⟩ := cells3 HF.out.two.a
              obtain ⟨b0, b1, b2, e0, e1, e2⟩ := cells3 HF.out.two.b
              go_wp2_with fail
              refine (HG4.out _).mono ?_
              rintro e w4 ⟨rfl, hb⟩
              have HF4 := Lib.hid (HF.out.on hb)
              clear hb p0 p1 p2 f0 f1 f2 a0 a1 a2 d0 d1 d2 b0 b1 b2 e0 e1 e2
              obtain ⟨r0, r1, r2, i0, i1, i2⟩ := cells3 HF4.out.y
              have HF := Lib.hid (HF4.out.setY (.int .i64 y1k) (.float .f64 y1n) (.string y1s))
              obtain ⟨a0, a1, a2, d0, d1, d2⟩ := cells3 HF.out.two.a
              obtain ⟨b0, b1, b2, e0, e1, e2⟩ := cells3 HF.out.two.b
              obtain ⟨p0, p1, p2, f0, f1, f2⟩ := cells3 HF.out.x
              obtain ⟨q0, q1, q2, g0, g1, g2⟩ := cells3 HF.out.y
              rcases HW1.out with ⟨rfl, hk⟩ | ⟨rfl, hcx, hkn, hy2⟩
              · have t1 := int_nbeq hk
                clear hk
                go_wp2_with (first | (go_at_call 9; refine (Check_any ⟨_, _, _⟩ _).mono ?_; rintro e wq ⟨rfl, hb⟩; have HF := Lib.hid (HF.out.on hb); clear hb; obtain ⟨a0, a1, a2, d0, d1, d2⟩ := cells3 HF.out.two.a; obtain ⟨b0, b1, b2, e0, e1, e2⟩ := cells3 HF.out.two.b; obtain ⟨p0, p1, p2, f0, f1, f2⟩ := cells3 HF.out.x; obtain ⟨q0, q1, q2, g0, g1, g2⟩ := cells3 HF.out.y) | (go_at_call 11; refine (Same_v ⟨_, _, _⟩ ⟨_, _, _⟩ _).mono ?_; rintro e wq ⟨rfl, hb⟩; have HF := Lib.hid (HF.out.on hb); clear hb; obtain ⟨a0, a1, a2, d0, d1, d2⟩ := cells3 HF.out.two.a; obtain ⟨b0, b1, b2, e0, e1, e2⟩ := cells3 HF.out.two.b; obtain ⟨p0, p1, p2, f0, f1, f2⟩ := cells3 HF.out.x; obtain ⟨q0, q1, q2, g0, g1, g2⟩ := cells3 HF.out.y))
                go_roundw
                case rel => exact ⟨2, by omega, by go_num, HF.out.two⟩
                case measure => simp [intOf]
              · have t2 := int_bne hcx
                have t3 : k = 0 → (V.mk x1k x1n x1s).same ⟨l, y, t⟩ = true := hkn
                clear hkn hcx
                rcases hy2 with hy2 | ⟨rfl, hs | ⟨hs, hkl⟩⟩
                · have t4 := int_nbeq hy2
                  clear hy2
                  by_cases hk : k = 0
                  · have t5 := t3 hk
                    have t6 := int_beq hk
                    clear t3 hk
                    go_wp2_with (first | (go_at_call 9; refine (Check_any ⟨_, _, _⟩ _).mono ?_; rintro e wq ⟨rfl, hb⟩; have HF := Lib.hid (HF.out.on hb); clear hb; obtain ⟨a0, a1, a2, d0, d1, d2⟩ := cells3 HF.out.two.a; obtain ⟨b0, b1, b2, e0, e1, e2⟩ := cells3 HF.out.two.b; obtain ⟨p0, p1, p2, f0, f1, f2⟩ := cells3 HF.out.x; obtain ⟨q0, q1, q2, g0, g1, g2⟩ := cells3 HF.out.y) | (go_at_call 11; refine (Same_v ⟨_, _, _⟩ ⟨_, _, _⟩ _).mono ?_; rintro e wq ⟨rfl, hb⟩; have HF := Lib.hid (HF.out.on hb); clear hb; obtain ⟨a0, a1, a2, d0, d1, d2⟩ := cells3 HF.out.two.a; obtain ⟨b0, b1, b2, e0, e1, e2⟩ := cells3 HF.out.two.b; obtain ⟨p0, p1, p2, f0, f1, f2⟩ := cells3 HF.out.x; obtain ⟨q0, q1, q2, g0, g1, g2⟩ := cells3 HF.out.y))
                    go_roundw
                    case rel => exact ⟨2, by omega, by go_num, HF.out.two⟩
                    case measure => simp [intOf]
                  · have t6 := int_nbeq hk
                    clear t3 hk
                    go_wp2_with (first | (go_at_call 9; refine (Check_any ⟨_, _, _⟩ _).mono ?_; rintro e wq ⟨rfl, hb⟩; have HF := Lib.hid (HF.out.on hb); clear hb; obtain ⟨a0, a1, a2, d0, d1, d2⟩ := cells3 HF.out.two.a; obtain ⟨b0, b1, b2, e0, e1, e2⟩ := cells3 HF.out.two.b; obtain ⟨p0, p1, p2, f0, f1, f2⟩ := cells3 HF.out.x; obtain ⟨q0, q1, q2, g0, g1, g2⟩ := cells3 HF.out.y) | (go_at_call 11; refine (Same_v ⟨_, _, _⟩ ⟨_, _, _⟩ _).mono ?_; rintro e wq ⟨rfl, hb⟩; have HF := Lib.hid (HF.out.on hb); clear hb; obtain ⟨a0, a1, a2, d0, d1, d2⟩ := cells3 HF.out.two.a; obtain ⟨b0, b1, b2, e0, e1, e2⟩ := cells3 HF.out.two.b; obtain ⟨p0, p1, p2, f0, f1, f2⟩ := cells3 HF.out.x; obtain ⟨q0, q1, q2, g0, g1, g2⟩ := cells3 HF.out.y))
                    go_roundw
                    case rel => exact ⟨2, by omega, by go_num, HF.out.two⟩
                    case measure => simp [intOf]
                · by_cases hk : k = 0
                  · have t5 := t3 hk
                    have t6 := int_beq hk
                    clear t3 hk
                    go_wp2_with (first | (go_at_call 9; refine (Check_any ⟨_, _, _⟩ _).mono ?_; rintro e wq ⟨rfl, hb⟩; have HF := Lib.hid (HF.out.on hb); clear hb; obtain ⟨a0, a1, a2, d0, d1, d2⟩ := cells3 HF.out.two.a; obtain ⟨b0, b1, b2, e0, e1, e2⟩ := cells3 HF.out.two.b; obtain ⟨p0, p1, p2, f0, f1, f2⟩ := cells3 HF.out.x; obtain ⟨q0, q1, q2, g0, g1, g2⟩ := cells3 HF.out.y) | (go_at_call 11; refine (Same_v ⟨_, _, _⟩ ⟨_, _, _⟩ _).mono ?_; rintro e wq ⟨rfl, hb⟩; have HF := Lib.hid (HF.out.on hb); clear hb; obtain ⟨a0, a1, a2, d0, d1, d2⟩ := cells3 HF.out.two.a; obtain ⟨b0, b1, b2, e0, e1, e2⟩ := cells3 HF.out.two.b; obtain ⟨p0, p1, p2, f0, f1, f2⟩ := cells3 HF.out.x; obtain ⟨q0, q1, q2, g0, g1, g2⟩ := cells3 HF.out.y))
                    go_roundw
                    case rel => exact ⟨2, by omega, by go_num, HF.out.two⟩
                    case measure => simp [intOf]
                  · have t6 := int_nbeq hk
                    clear t3 hk
                    go_wp2_with (first | (go_at_call 9; refine (Check_any ⟨_, _, _⟩ _).mono ?_; rintro e wq ⟨rfl, hb⟩; have HF := Lib.hid (HF.out.on hb); clear hb; obtain ⟨a0, a1, a2, d0, d1, d2⟩ := cells3 HF.out.two.a; obtain ⟨b0, b1, b2, e0, e1, e2⟩ := cells3 HF.out.two.b; obtain ⟨p0, p1, p2, f0, f1, f2⟩ := cells3 HF.out.x; obtain ⟨q0, q1, q2, g0, g1, g2⟩ := cells3 HF.out.y) | (go_at_call 11; refine (Same_v ⟨_, _, _⟩ ⟨_, _, _⟩ _).mono ?_; rintro e wq ⟨rfl, hb⟩; have HF := Lib.hid (HF.out.on hb); clear hb; obtain ⟨a0, a1, a2, d0, d1, d2⟩ := cells3 HF.out.two.a; obtain ⟨b0, b1, b2, e0, e1, e2⟩ := cells3 HF.out.two.b; obtain ⟨p0, p1, p2, f0, f1, f2⟩ := cells3 HF.out.x; obtain ⟨q0, q1, q2, g0, g1, g2⟩ := cells3 HF.out.y))
                    go_roundw
                    case rel => exact ⟨2, by omega, by go_num, HF.out.two⟩
                    case measure => simp [intOf]
                · have t7 : (k == l) = false := int_nbeq hkl
                  clear hkl
                  by_cases hk : k = 0
                  · have t5 := t3 hk
                    have t6 := int_beq hk
                    clear t3 hk
                    go_wp2_with (first | (go_at_call 9; refine (Check_any ⟨_, _, _⟩ _).mono ?_; rintro e wq ⟨rfl, hb⟩; have HF := Lib.hid (HF.out.on hb); clear hb; obtain ⟨a0, a1, a2, d0, d1, d2⟩ := cells3 HF.out.two.a; obtain ⟨b0, b1, b2, e0, e1, e2⟩ := cells3 HF.out.two.b; obtain ⟨p0, p1, p2, f0, f1, f2⟩ := cells3 HF.out.x; obtain ⟨q0, q1, q2, g0, g1, g2⟩ := cells3 HF.out.y) | (go_at_call 11; refine (Same_v ⟨_, _, _⟩ ⟨_, _, _⟩ _).mono ?_; rintro e wq ⟨rfl, hb⟩; have HF := Lib.hid (HF.out.on hb); clear hb; obtain ⟨a0, a1, a2, d0, d1, d2⟩ := cells3 HF.out.two.a; obtain ⟨b0, b1, b2, e0, e1, e2⟩ := cells3 HF.out.two.b; obtain ⟨p0, p1, p2, f0, f1, f2⟩ := cells3 HF.out.x; obtain ⟨q0, q1, q2, g0, g1, g2⟩ := cells3 HF.out.y))
                    go_roundw
                    case rel => exact ⟨2, by omega, by go_num, HF.out.two⟩
                    case measure => simp [intOf]
                  · have t6 := int_nbeq hk
                    clear t3 hk
                    go_wp2_with (first | (go_at_call 9; refine (Check_any ⟨_, _, _⟩ _).mono ?_; rintro e wq ⟨rfl, hb⟩; have HF := Lib.hid (HF.out.on hb); clear hb; obtain ⟨a0, a1, a2, d0, d1, d2⟩ := cells3 HF.out.two.a; obtain ⟨b0, b1, b2, e0, e1, e2⟩ := cells3 HF.out.two.b; obtain ⟨p0, p1, p2, f0, f1, f2⟩ := cells3 HF.out.x; obtain ⟨q0, q1, q2, g0, g1, g2⟩ := cells3 HF.out.y) | (go_at_call 11; refine (Same_v ⟨_, _, _⟩ ⟨_, _, _⟩ _).mono ?_; rintro e wq ⟨rfl, hb⟩; have HF := Lib.hid (HF.out.on hb); clear hb; obtain ⟨a0, a1, a2, d0, d1, d2⟩ := cells3 HF.out.two.a; obtain ⟨b0, b1, b2, e0, e1, e2⟩ := cells3 HF.out.two.b; obtain ⟨p0, p1, p2, f0, f1, f2⟩ := cells3 HF.out.x; obtain ⟨q0, q1, q2, g0, g1, g2⟩ := cells3 HF.out.y))
                    go_roundw
                    case rel => exact ⟨2, by omega, by go_num, HF.out.two⟩
                    case measure => simp [intOf]
            · go_wp2_with fail
              refine (wakes5 _ (h0.below HR.out.below)).mono ?_
              rintro e w7 ⟨rfl, hb7⟩
              have HT7 := Lib.hid (HR.out.on hb7)
              clear hb7
              go_wp2_with fail
              go_ret
              exact ⟨rfl, HT7.out.below⟩
theorem ValueJoins_law (a b : V) (W : World) (ha : a.Came) (hb : b.Came) (hL : laidMetH Tryd.prog Rows.valueJoinsRow.laid W) :
    Calls Tryd.prog 7 #[a.val, b.val] W fun e w' => e = .returned (.bool true) ∧ Below W.heap.size W w' := by
  have hL2 : laidMet Tryd.prog Rows.valueJoinsRow.laid W := hL
  exact ValueJoins_any a b ha hb W (tab16_of hL2)
end Go.Proofs.YtekbeicoeoajoaaDoor.Vl
