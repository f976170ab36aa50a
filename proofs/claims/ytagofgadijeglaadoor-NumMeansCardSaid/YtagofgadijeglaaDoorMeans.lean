/- The mean of floats: the walks of both functions, and of the law. -/
import Derived.Test.YtagofgadijeglaaDoorWakes
import Derived.Test.YtagofgadijeglaaDoorNumMore
import Derived.Test.YtagofgadijeglaaDoorOpen
import Derived.Deep.QuietTactic
import Derived.BigQuiet
namespace Go.Proofs.YtagofgadijeglaaDoor.Nm
open Go Go.RowKit

/-- the sum so far: none: it is a NaN -/
def stepF (o : Option Nat) (x : Nat) : Option Nat := match o with | some r => addF r x | none => none
def accF : List Nat → Option Nat := fun l => l.foldl stepF (some 0)
theorem accF_snoc (l : List Nat) (x : Nat) : accF (l ++ [x]) = stepF (accF l) x := by
  unfold accF; rw [List.foldl_append]; rfl
/-- what a slot holds of it -/
def Sums (o : Option Nat) (s : Nat) : Prop := match o with | some r => s = r | none => isNaN s = true
def divF (a b : Nat) : Option Nat := FloatKind.f64.format.div a b
def meanF (l : List Nat) : Nat := if l.length = 0 then nanBits else match accF l with | some r => (match divF r (floatOfInt .f64 l.length) with | some q => canon q | none => nanBits) | none => nanBits

theorem read_isNaN {a : Nat} (h : isNaN a = true) : ∃ t, FloatKind.f64.format.read a = .nan (neg a) t := read_nan a (isNaN_true h)
theorem addF_nan {a : Nat} (h : isNaN a = true) (b : Nat) : addF a b = none := by
  obtain ⟨t, e⟩ := read_isNaN h
  unfold addF Ieee.Format.add
  rw [e]
  cases FloatKind.f64.format.read b <;> rfl
theorem divF_nan {a : Nat} (h : isNaN a = true) (b : Nat) : divF a b = none := by
  obtain ⟨t, e⟩ := read_isNaN h
  unfold divF Ieee.Format.div
  rw [e]
  cases FloatKind.f64.format.read b <;> rfl
/-- one step of the sum, as the walk takes it -/
theorem run_add_any (a b : Nat) (w : World) : ∃ s n, (∀ t, (binOp .add t (.float .f64 a) (.float .f64 b)).run Tryd.prog w = .ok (.float .f64 s) (w.drewN n)) ∧ Sums (addF a b) s := by
  cases h : addF a b
  · exact ⟨nanAt w a b, 1, fun t => run_add_none h t w, (nanAt_nan w a b).1⟩
  · rename_i r
    exact ⟨r, 0, fun t => run_add_some h t w, rfl⟩
theorem Sums.step {o : Option Nat} {s x s' : Nat} (h : Sums o s) (h2 : Sums (addF s x) s') : Sums (stepF o x) s' := by
  cases o with
  | some r => have : s = r := h; subst this; exact h2
  | none => rw [addF_nan h] at h2; exact h2
theorem run_div_some {a b r : Nat} (h : divF a b = some r) (t : TypeId) (w : World) : (binOp .quo t (.float .f64 a) (.float .f64 b)).run Tryd.prog w = .ok (.float .f64 r) w :=
  run_float_arith w .quo t .f64 a b r h
theorem run_div_none {a b : Nat} (h : divF a b = none) (t : TypeId) (w : World) : (binOp .quo t (.float .f64 a) (.float .f64 b)).run Tryd.prog w = .ok (.float .f64 (nanAt w a b)) w.drew := by
  unfold divF at h
  simp [binOp, Op.floatArith, h, nanAt, Question.forced]
theorem run_div_any (a b : Nat) (w : World) : ∃ s n, (∀ t, (binOp .quo t (.float .f64 a) (.float .f64 b)).run Tryd.prog w = .ok (.float .f64 s) (w.drewN n)) ∧ Sums (divF a b) s := by
  cases h : divF a b
  · exact ⟨nanAt w a b, 1, fun t => run_div_none h t w, (nanAt_nan w a b).1⟩
  · rename_i r
    exact ⟨r, 0, fun t => run_div_some h t w, rfl⟩
theorem Sums.mean {l : List Nat} {s q : Nat} (h : Sums (accF l) s) (h0 : ¬ l.length = 0) (h2 : Sums (divF s (floatOfInt .f64 l.length)) q) : canon q = meanF l := by
  unfold meanF
  rw [if_neg h0]
  cases ha : accF l with
  | some r =>
    rw [ha] at h
    have : s = r := h
    subst this
    cases hd : divF s (floatOfInt .f64 l.length) with
    | some r => rw [hd] at h2; have : q = r := h2; subst this; simp [hd]
    | none => rw [hd] at h2; simp [hd]; exact canon_nan h2
  | none =>
    rw [ha] at h
    rw [divF_nan h] at h2
    exact canon_nan h2

/-- the floats that a slice shows -/
def Floats (w : World) (a : Option Addr) (len : Nat) (l : List Nat) : Prop :=
  l.length = len ∧ (0 < len → ∃ b off, a = some ⟨b, off, none⟩ ∧ ∀ i, i < len → w.cell? ⟨b, off + i, none⟩ = some (.float .f64 (l.getD i 0)))
theorem take_snoc0 (l : List Nat) (k : Nat) (h : k < l.length) : l.take (k + 1) = l.take k ++ [l.getD k 0] := by
  rw [List.take_succ_eq_append_getElem h]; simp [h]
set_option maxHeartbeats 400000 in
theorem Mean_any (a : Option Addr) (len cap : Nat) (l : List Nat) (w : World) (hm : len ≤ 9223372036854775807) (h : Floats w a len l) :
    Calls Tryd.prog 25 #[.slice a len cap] w fun e w' => e = .returned (.float .f64 (meanF l)) ∧ ∃ n, w' = w.drewN n := by
  obtain ⟨hl, hcells⟩ := h
  by_cases h0 : len = 0
  · subst h0
    go_enter Tryd.func25, Tryd.ntmps25
    go_wp2_with (first | (go_at_call 40; refine (nan_any _).mono ?_; rintro e w' ⟨rfl, rfl⟩))
    go_ret
    exact ⟨ret_float (by unfold meanF; rw [if_pos hl]), 0, rfl⟩
  · obtain ⟨b, off, rfl, hc⟩ := hcells (by omega)
    have h0' : ((len : Int) == 0) = false := beq_eq_false_iff_ne.2 (by omega)
    have HC := Lib.hid hc
    have HL := Lib.hid hl
    clear hc hl hcells
    go_enter Tryd.func25, Tryd.ntmps25
    go_wp2
    go_loopw [3, 12] (fun s i wr => ∃ k sv n : Nat, k ≤ len ∧ i = .int .i64 k ∧ s = .float .f64 sv ∧ Sums (accF (l.take k)) sv ∧ wr = w.drewN n) (fun _ i _ => len - (intOf i).toNat)
    case atStart => exact ⟨0, 0, 0, by omega, rfl, rfl, rfl, rfl⟩
    case round =>
      obtain ⟨k, sv, n, hk, rfl, rfl, hs, rfl⟩ := hrel
      have HS := Lib.hid hs
      clear hs
      by_cases hlt : k < len
      · have hcell := HC.out k hlt
        have hsn : Hid (l.take (k + 1) = l.take k ++ [l.getD k 0]) := take_snoc0 l k (by rw [HL.out]; exact hlt)
        generalize l.getD k 0 = y at *
        obtain ⟨s2, m, hr, hs2⟩ := run_add_any sv y (w.drewN n)
        have HS2 := Lib.hid hs2
        clear hs2
        go_wp2
        go_roundw
        case rel => exact ⟨k + 1, s2, n + m, by omega, by go_num, rfl, by rw [hsn.out, accF_snoc]; exact HS.out.step HS2.out, by first | rfl | (rw [World.drewN_drewN])⟩
        case measure => simp [intOf]; omega
      · obtain rfl : k = len := by omega
        obtain ⟨q, m, hr, hq⟩ := run_div_any sv (floatOfInt .f64 k) (w.drewN n)
        have HQ := Lib.hid hq
        clear hq
        go_wp2_with (first | (go_at_call 12; refine (Canon_any _ _).mono ?_; rintro e w' ⟨rfl, rfl⟩))
        go_ret
        exact ⟨ret_float (by
          have hl := HL.out
          have h1 := HS.out
          rw [← hl, List.take_length] at h1
          have h2 := HQ.out
          rw [← hl] at h2
          exact h1.mean (by omega) h2), n + m, by first | rfl | (rw [World.drewN_drewN])⟩
set_option maxHeartbeats 400000 in
theorem refMean_any (a : Option Addr) (len cap : Nat) (l : List Nat) (w : World) (hm : len ≤ 9223372036854775807) (h : Floats w a len l) :
    Calls Tryd.prog 26 #[.slice a len cap] w fun e w' => e = .returned (.float .f64 (meanF l)) ∧ ∃ n, w' = w.drewN n := by
  obtain ⟨hl, hcells⟩ := h
  by_cases h0 : len = 0
  · subst h0
    go_enter Tryd.func26, Tryd.ntmps26
    go_wp2_with (first | (go_at_call 41; refine (refNaN_any _).mono ?_; rintro e w' ⟨rfl, rfl⟩))
    go_ret
    exact ⟨ret_float (by unfold meanF; rw [if_pos hl]), 0, rfl⟩
  · obtain ⟨b, off, rfl, hc⟩ := hcells (by omega)
    have h0' : ((len : Int) == 0) = false := beq_eq_false_iff_ne.2 (by omega)
    have HC := Lib.hid hc
    have HL := Lib.hid hl
    clear hc hl hcells
    go_enter Tryd.func26, Tryd.ntmps26
    go_wp2
    go_loopw [3, 4] (fun s i wr => ∃ k sv n : Nat, k ≤ len ∧ i = .int .i64 k ∧ s = .float .f64 sv ∧ Sums (accF (l.take k)) sv ∧ wr = w.drewN n) (fun _ i _ => len - (intOf i).toNat)
    case atStart => exact ⟨0, 0, 0, by omega, rfl, rfl, rfl, rfl⟩
    case round =>
      obtain ⟨k, sv, n, hk, rfl, rfl, hs, rfl⟩ := hrel
      have HS := Lib.hid hs
      clear hs
      by_cases hlt : k < len
      · have hcell := HC.out k hlt
        have hsn : Hid (l.take (k + 1) = l.take k ++ [l.getD k 0]) := take_snoc0 l k (by rw [HL.out]; exact hlt)
        generalize l.getD k 0 = y at *
        obtain ⟨s2, m, hr, hs2⟩ := run_add_any sv y (w.drewN n)
        have HS2 := Lib.hid hs2
        clear hs2
        go_wp2
        go_roundw
        case rel => exact ⟨k + 1, s2, n + m, by omega, by go_num, rfl, by rw [hsn.out, accF_snoc]; exact HS.out.step HS2.out, by first | rfl | (rw [World.drewN_drewN])⟩
        case measure => simp [intOf]; omega
      · obtain rfl : k = len := by omega
        obtain ⟨q, m, hr, hq⟩ := run_div_any sv (floatOfInt .f64 k) (w.drewN n)
        have HQ := Lib.hid hq
        clear hq
        go_wp2_with (first | (go_at_call 13; refine (refCanon_any _ _).mono ?_; rintro e w' ⟨rfl, rfl⟩))
        go_ret
        exact ⟨ret_float (by
          have hl := HL.out
          have h1 := HS.out
          rw [← hl, List.take_length] at h1
          have h2 := HQ.out
          rw [← hl] at h2
          exact h1.mean (by omega) h2), n + m, by first | rfl | (rw [World.drewN_drewN])⟩

theorem Floats.below {w w' : World} {a : Option Addr} {len : Nat} {l : List Nat} (h : Floats w a len l) (hb : Below w.heap.size w w') : Floats w' a len l :=
  ⟨h.1, fun h0 => by
    obtain ⟨b, off, e, hc⟩ := h.2 h0
    exact ⟨b, off, e, fun i hi => cell_later hb (hc i hi)⟩⟩
theorem infoFloat : (Tryd.prog.info? 22).map (fun i => (i.zero, i.size, i.bytes)) = some (some (.float .f64 0), 1, 8) := by kernel_rfl
theorem Floats.own {w : World} {B len : Nat} {v : Value} {l : List Nat} (h : w.ownsRow B 22 1 v len (l.map (Value.float .f64))) : ∃ a cap, v = .slice a len cap ∧ Floats w a len l := by
  obtain ⟨h1, h2⟩ := h
  have hl : l.length = len := by simpa using h1
  rcases h2 with ⟨rfl, rfl⟩ | ⟨g, cap, cur, rfl, hg, hb, hle, hm, hs, ht⟩
  · exact ⟨none, 0, rfl, hl, fun h => absurd h (by omega)⟩
  · refine ⟨_, cap, rfl, hl, fun _ => ⟨g, 0, rfl, fun i hi => ?_⟩⟩
    have hc : cur[i]? = some (.float .f64 (l.getD i 0)) := by
      have e : (cur.toList.take (len * 1))[i]? = (l.map (Value.float .f64))[i]? := by rw [ht]
      rw [List.getElem?_take_of_lt (by omega)] at e
      rw [← Array.getElem?_toList, e, List.getElem?_map, List.getElem?_eq_getElem (by omega)]
      simp [show i < l.length by omega]
    rw [Nat.zero_add]
    simp [World.cell?, hb, hc]
theorem bits_quiet (a b : Nat) (w : World) :
    Calls Tryd.prog 11 #[.float .f64 a, .float .f64 b] w fun e w' => e = .returned (.bool (decide (a = b))) ∧ w' = w :=
  (bits_any a b w).mono fun _ _ ⟨h1, h2⟩ => ⟨h1, h2.symm⟩
theorem Tab16.drewS {w : World} (h : Tab16 w) (n : Nat) : Tab16 (w.drewN n) := h.below (below_drewN (Below.refl _ _) n)

set_option maxHeartbeats 1000000 in
theorem NumMeans_some (x : Addr) (len cap : Nat) (l : List Nat) (w : World) (hc0 : ∀ i, i < len → w.cell? (x.add i) = some (.float .f64 (l.getD i 0))) (hm : len ≤ 9223372036854775807) (h : Floats w (some x) len l) (h0 : Tab16 w) :
    Calls Tryd.prog 4 #[.slice (some x) len cap] w fun e w' => e = .returned (.bool true) ∧ Below w.heap.size w w' := by
  by_cases hbig : 1000 < len
  · clear hc0
    go_enter Tryd.func4, Tryd.ntmps4
    go_wp2
    go_ret
    exact ⟨rfl, Below.refl _ _⟩
  · obtain ⟨i0, hi, hz0, hz1, hz2⟩ := info_parts infoFloat
    have HF := Lib.hid h
    have HC := Lib.hid hc0
    have HL := Lib.hid h.1
    have hown : w.ownsRow w.heap.size 22 1 (.slice none 0 0) 0 [] := ⟨rfl, .inl ⟨rfl, rfl⟩⟩
    clear h hc0
    go_enter Tryd.func4, Tryd.ntmps4
    go_wp2_with (at_builtin; refine wpList_append_own _ rfl _ _ 29 rfl w.heap.size 22 i0 (.float .f64 0) 1 8 Tryd.underlying29 hi hz0 hz1 hz2 rfl (by decide) _ _ _ rfl hown x len cap (l.map (Value.float .f64)) rfl ?c1 ?c2 ?c3 ?c4 ?c5 ?c6 ?_)
    case c1 => rw [List.length_map, HL.out, Nat.mul_one]
    case c2 =>
      intro j u hj
      rw [List.getElem?_map] at hj
      obtain ⟨y, hy, rfl⟩ := Option.map_eq_some_iff.1 hj
      have hjl := (List.getElem?_eq_some_iff.1 hy).1
      rw [HC.out j (by rw [← HL.out]; exact hjl)]
      simp [hy]
    case c3 =>
      intro u hu
      obtain ⟨y, _, rfl⟩ := List.mem_map.1 hu
      rfl
    case c4 => unfold maxLen; omega
    case c5 => omega
    case c6 => exact Nat.le_refl _
    intro v1 w1 hown1 hgrow hnil
    try simp only [Nat.zero_add, List.nil_append] at hown1
    clear hnil hown
    have B1 : Below w.heap.size w w1 := (Below.refl _ _).grown hgrow (Nat.le_refl _) (by intro k hk; cases hk)
    obtain ⟨a1, cap1, rfl, hF1⟩ := Floats.own hown1
    have T1 := h0.below B1
    have hF2 := HF.out.below B1
    clear hgrow hown1
    have HF1 := Lib.hid hF1
    have HF2 := Lib.hid hF2
    clear hF1 hF2
    go_wp2_with fail
    refine (Mean_any _ _ _ l _ hm HF1.out).mono ?_
    rintro e w2 ⟨rfl, n, rfl⟩
    go_wp2_with fail
    refine (refMean_any _ _ _ l _ hm (HF2.out.below (below_drewN (Below.refl _ _) n))).mono ?_
    rintro e w2 ⟨rfl, n2, rfl⟩
    go_wp2_with (first | (go_at_call 11; refine (bits_any _ _ _).mono ?_; rintro e w' ⟨rfl, rfl⟩))
    go_loopw [4] (fun i wr => ∃ k m : Nat, k ≤ len ∧ i = .int .i64 k ∧ wr = w1.drewN m) (fun i _ => len - (intOf i).toNat)
    case atStart => exact ⟨0, n + n2, by omega, rfl, rfl⟩
    case round =>
      obtain ⟨k, m, hk, rfl, hwr⟩ := hrel
      by_cases hlt : k < len
      · obtain ⟨b1, o1, rfl, c1⟩ := HF1.out.2 (by omega)
        obtain ⟨b2, o2, e2, c2⟩ := HF2.out.2 (by omega)
        obtain rfl : x = ⟨b2, o2, none⟩ := Option.some.inj e2
        have d1 : wr.cell? ⟨b1, o1 + k, none⟩ = some (.float .f64 (l.getD k 0)) := by rw [hwr, World.cell?_drewN]; exact c1 k hlt
        have d2 : wr.cell? ⟨b2, o2 + k, none⟩ = some (.float .f64 (l.getD k 0)) := by rw [hwr, World.cell?_drewN]; exact c2 k hlt
        clear c1 c2 e2
        have HW := Lib.hid hwr
        clear hwr
        generalize l.getD k 0 = y at *
        have hbq : ∀ w, Calls Tryd.prog 11 #[.float .f64 y, .float .f64 y] w fun e w' => e = .returned (.bool true) ∧ w' = w := fun w => by
          have := bits_quiet y y w
          simpa using this
        go_wp2
        go_quiet ((go_at_call 11; exact Calls.quiet_of_same (hbq _)))
        go_wp2
        go_roundw
        case rel => exact ⟨k + 1, m + nq, by omega, by go_num, by first | (subst hw''; rw [HW.out, World.drewN_drewN]) | (rw [HW.out, World.drewN_drewN])⟩
        case measure => simp [intOf]; omega
      · subst hwr
        go_wp2_with (first | (go_at_call 24; refine (wakes_any _ (T1.drewS _)).mono ?_; rintro e w' ⟨rfl, hbel⟩))
        go_ret
        exact ⟨rfl, (below_drewN B1 m).trans (hbel.mono (below_drewN B1 m).size)⟩
set_option maxHeartbeats 1000000 in
theorem NumMeans_nil (w : World) (h0 : Tab16 w) :
    Calls Tryd.prog 4 #[.slice none 0 0] w fun e w' => e = .returned (.bool true) ∧ Below w.heap.size w w' := by
  have hF : ∀ w, Floats w none 0 [] := fun _ => ⟨rfl, fun h => absurd h (by omega)⟩
  have HF := Lib.hid hF
  clear hF
  go_enter Tryd.func4, Tryd.ntmps4
  go_wp2_with fail
  refine (Mean_any _ _ _ [] _ (by omega) (HF.out _)).mono ?_
  rintro e w2 ⟨rfl, n, rfl⟩
  go_wp2_with fail
  refine (refMean_any _ _ _ [] _ (by omega) (HF.out _)).mono ?_
  rintro e w2 ⟨rfl, n2, rfl⟩
  go_wp2_with (first | (go_at_call 11; refine (bits_any _ _ _).mono ?_; rintro e w' ⟨rfl, rfl⟩))
  refine wp_loop_rounds 1 ?_
  rw [rounds_succ]
  go_wp2_with (first | (go_at_call 24; refine (wakes_any _ (h0.drewS _)).mono ?_; rintro e w' ⟨rfl, hbel⟩))
  go_ret
  exact ⟨rfl, Below.trans (by repeat (first | exact Below.refl _ _ | refine below_drewN ?_ _)) hbel⟩
theorem NumMeans_law (a : Option Addr) (len cap : Nat) (W : World) (h : FloatsIn W a len cap) (hL : laidMetH Tryd.prog Rows.numMeansRow.laid W) :
    Calls Tryd.prog 4 #[.slice a len cap] W fun e w' => e = .returned (.bool true) ∧ Below W.heap.size W w' := by
  rcases h with ⟨rfl, rfl, rfl⟩ | ⟨x, l, rfl, hm, hl, hc⟩
  · exact NumMeans_nil W (tab16_of hL)
  · refine NumMeans_some x len cap l W hc (by unfold maxLen at hm; exact hm) ⟨hl, fun h0 => ?_⟩ (tab16_of hL)
    obtain ⟨b, off, spot⟩ := x
    have hspot : spot = none := by simpa [Addr.add] using World.cell?_spot (hc 0 h0)
    subst hspot
    exact ⟨b, off, rfl, fun j hj => by rw [← Go.WideShapes.add_plain]; exact hc j hj⟩
end Go.Proofs.YtagofgadijeglaaDoor.Nm
