/- Walks of strconv.FormatUint at base 16. -/
import Derived.Test.YtekbeicoeoajoaaDoorNumWalks
namespace Go.Proofs.YtekbeicoeoajoaaDoor.Nm
open Go Go.RowKit

set_option maxHeartbeats 400000 in
theorem isPow_16 (w : World) : Calls Tryd.prog 73 #[.int .i64 16] w fun e w' => e = .returned (.bool true) ∧ w = w' := by
  go_enter Tryd.func73, Tryd.ntmps73
  go_wp2
  go_ret
  exact ⟨rfl, rfl⟩

/-- the one cell of the library's table that base 16 reads -/
def Tab16 (w : World) : Prop := w.cell? ⟨6, 15, none⟩ = some (.int .u8 4)
set_option maxHeartbeats 400000 in
theorem tz64_16 (w : World) (h0 : Tab16 w) : Calls Tryd.prog 83 #[.int .u64 16] w fun e w' => e = .returned (.int .i64 4) ∧ w = w' := by
  have h : w.cell? ⟨6, 15, none⟩ = some (.int .u8 4) := h0
  have e : IntKind.u64.wrap (bits BinOp.and IntKind.u64 16 (IntKind.u64.wrap (-16)) * 285870213051353865) / 288230376151711744 = 15 := by kernel_rfl
  go_enter Tryd.func83, Tryd.ntmps83
  go_wp2
  go_ret
  exact ⟨rfl, rfl⟩
set_option maxHeartbeats 400000 in
theorem tz_16 (w : World) (h0 : Tab16 w) : Calls Tryd.prog 74 #[.int .u64 16] w fun e w' => e = .returned (.int .i64 4) ∧ w = w' := by
  go_enter Tryd.func74, Tryd.ntmps74
  go_wp2_with (first | (go_at_call 83; refine (tz64_16 _ (by assumption)).mono ?_; rintro e w' ⟨rfl, rfl⟩))
  go_ret
  exact ⟨rfl, rfl⟩

theorem Tab16.below {w w' : World} (h : Tab16 w) (hb : Below w.heap.size w w') : Tab16 w' := cell_later hb h
theorem Tab16.alloc {w : World} (h : Tab16 w) (o : Obj) : Tab16 (w.alloc o) := h.below ((Below.refl _ _).alloc (Nat.le_refl _) _)

theorem and_15 (q : Nat) (hq : q < 18446744073709551616) : bits .and .u64 (q : Int) 15 = ((q % 16 : Nat) : Int) := by
  have := u64_and_nat q 15 hq (by omega)
  rw [show (15 : Int) = ((15 : Nat) : Int) from rfl, this]
  congr 1
  exact Nat.and_two_pow_sub_one_eq_mod q 4

/-- a digit's byte -/
def hexd (d : Nat) : Nat := if d < 10 then 48 + d else 87 + d
/-- the cells that k rounds have filled -/
def Filled (u k : Nat) (C : Array Value) : Prop := C.size = 65 ∧ ∀ j, j < k → C[64 - j]? = some (.int .u8 (hexd (u / 16 ^ j % 16)))

theorem dig_all : ∀ d : Fin 16, ∀ h : d.val < (⟨#[48, 49, 50, 51, 52, 53, 54, 55, 56, 57, 97, 98, 99, 100, 101, 102, 103, 104, 105, 106, 107, 108, 109, 110, 111, 112, 113, 114, 115, 116, 117, 118, 119, 120, 121, 122]⟩ : ByteArray).size,
    ((⟨#[48, 49, 50, 51, 52, 53, 54, 55, 56, 57, 97, 98, 99, 100, 101, 102, 103, 104, 105, 106, 107, 108, 109, 110, 111, 112, 113, 114, 115, 116, 117, 118, 119, 120, 121, 122]⟩ : ByteArray)[d.val]'h).toNat = hexd d.val := by decide +kernel
theorem dig_lit (d : Nat) (hd : d < 16) (h : d < (⟨#[48, 49, 50, 51, 52, 53, 54, 55, 56, 57, 97, 98, 99, 100, 101, 102, 103, 104, 105, 106, 107, 108, 109, 110, 111, 112, 113, 114, 115, 116, 117, 118, 119, 120, 121, 122]⟩ : ByteArray).size) :
    ((⟨#[48, 49, 50, 51, 52, 53, 54, 55, 56, 57, 97, 98, 99, 100, 101, 102, 103, 104, 105, 106, 107, 108, 109, 110, 111, 112, 113, 114, 115, 116, 117, 118, 119, 120, 121, 122]⟩ : ByteArray)[d]'h).toNat = hexd d := dig_all ⟨d, hd⟩ h

theorem Filled.next {u k q : Nat} {C : Array Value} (h : Filled u k C) (hk : k ≤ 15) (hq : u / 16 ^ k = q) {v : Value} (hv : v = .int .u8 (hexd (q % 16))) :
    Filled u (k + 1) (C.setIfInBounds (65 - k - 1) v) := by
  refine ⟨by rw [Array.size_setIfInBounds]; exact h.1, fun j hj => ?_⟩
  rw [Array.getElem?_setIfInBounds]
  by_cases e : j = k
  · subst e
    rw [if_pos (by omega), if_pos (by rw [h.1]; omega), hv, hq]
  · rw [if_neg (by omega)]
    exact h.2 j (by omega)

theorem few_rounds {u k q : Nat} (hu : u < 18446744073709551616) (hq : u / 16 ^ k = q) (h : 16 ≤ q) : k + 1 ≤ 15 := by
  have h1 : q * 16 ^ k ≤ u := by rw [← hq]; exact Nat.div_mul_le_self _ _
  have h2 : 16 * 16 ^ k ≤ q * 16 ^ k := Nat.mul_le_mul_right _ h
  rcases Nat.lt_or_ge k 15 with h3 | h3
  · exact h3
  · have : 16 ^ 15 ≤ 16 ^ k := Nat.pow_le_pow_right (by omega) h3
    omega
/-- n digits, the highest first -/
def hexs : Nat → Nat → List UInt8
  | 0, _ => []
  | n + 1, u => hexs n (u / 16) ++ [UInt8.ofNat (hexd (u % 16))]
theorem hexs_length (n u : Nat) : (hexs n u).length = n := by
  induction n generalizing u with
  | zero => rfl
  | succ n ih => unfold hexs; rw [List.length_append, ih]; rfl
theorem hexs_get (n u j : Nat) (h : j < n) : (hexs n u)[j]? = some (UInt8.ofNat (hexd (u / 16 ^ (n - 1 - j) % 16))) := by
  induction n generalizing u with
  | zero => omega
  | succ n ih =>
    unfold hexs
    by_cases hj : j < n
    · rw [List.getElem?_append_left (by rw [hexs_length]; exact hj), ih _ hj, Nat.div_div_eq_div_mul, ← Nat.pow_succ']
      congr 6; omega
    · have e : j = n := by omega
      subst e
      rw [List.getElem?_append_right (by rw [hexs_length]; omega), hexs_length, Nat.sub_self]
      simp
theorem hexd_lt (d : Nat) (h : d < 16) : hexd d < 256 := by unfold hexd; split <;> omega
theorem hexs_pad (n u : Nat) (h : u < 16 ^ n) : hexs (n + 1) u = 48 :: hexs n u := by
  induction n generalizing u with
  | zero => have : u = 0 := by omega
            subst this; rfl
  | succ n ih =>
    have h1 : u / 16 < 16 ^ n := by
      rw [Nat.div_lt_iff_lt_mul (by omega)]; rw [Nat.pow_succ] at h; exact h
    rw [hexs, ih _ h1]
    rfl

/-- what is told of a number's digits -/
def HexTold (u : Nat) (w : World) (e : Ending) (w' : World) : Prop :=
  ∃ n, 1 ≤ n ∧ n ≤ 16 ∧ u < 16 ^ n ∧ e = .returned (.tuple #[.slice none 0 0, .string ⟨(hexs n u).toArray⟩]) ∧ Below w.heap.size w w'

theorem Filled.row {u k : Nat} {C : Array Value} (h : Filled u (k + 1) C) (hk : k ≤ 15) (w : World) :
    ∀ j (hj : j < (hexs (k + 1) u).length), (w.alloc (.cells C 81)).cell? ((⟨w.heap.size, 64 - k, none⟩ : Addr).add j) = some (.int .u8 ((hexs (k + 1) u)[j].toNat : Int)) := by
  intro j hj
  have hj2 : j < k + 1 := by rw [hexs_length] at hj; exact hj
  have e := hexs_get (k + 1) u j hj2
  rw [List.getElem?_eq_getElem hj, Option.some.injEq] at e
  rw [e]
  have hc := h.2 (k - j) (by omega)
  rw [show 64 - (k - j) = 64 - k + j by omega] at hc
  rw [show k + 1 - 1 - j = k - j by omega]
  have hlt := hexd_lt (u / 16 ^ (k - j) % 16) (Nat.mod_lt _ (by omega))
  rw [UInt8.toNat_ofNat', Nat.mod_eq_of_lt (by omega)]
  rw [← hc]
  have ea : (⟨w.heap.size, 64 - k, none⟩ : Addr).add j = ⟨w.heap.size, 64 - k + j, none⟩ := by simp [Addr.add]
  rw [ea]
  exact World.cell?_alloc_at C _ _ _ rfl

set_option maxHeartbeats 400000 in
theorem fb_16 (u : Nat) (hu : u < 18446744073709551616) (w : World) (h0 : Tab16 w) :
   Calls Tryd.prog 65 #[.slice none 0 0, .int .u64 u, .int .i64 16, .bool false, .bool false] w (HexTold u w) := by
  go_enter Tryd.func65, Tryd.ntmps65
  go_wp2_with (first | (go_at_call 73; refine (isPow_16 _).mono ?_; rintro e w' ⟨rfl, rfl⟩) | (go_at_call 74; refine (tz_16 _ (h0.alloc _)).mono ?_; rintro e w' ⟨rfl, rfl⟩))
  go_loopw [1, 13] (fun x i wr => ∃ k q : Nat, ∃ C, k ≤ 15 ∧ u / 16 ^ k = q ∧ x = .int .u64 q ∧ i = .int .i64 (65 - (k : Int)) ∧ wr = w.alloc (.cells C 81) ∧ Filled u k C) (fun x _ _ => (intOf x).toNat)
  case atStart => exact ⟨0, u, _, by omega, by simp, rfl, rfl, rfl, by kernel_rfl, by intro j hj; omega⟩
  case round =>
    obtain ⟨k, q, C, hk, hq, rfl, rfl, rfl, hC⟩ := hrel
    have hqu : q < 18446744073709551616 := Nat.lt_of_le_of_lt (hq ▸ Nat.div_le_self _ _) hu
    obtain ⟨v0, hv0⟩ : ∃ v, C[65 - k - 1]? = some v := ⟨_, Array.getElem?_eq_getElem (by rw [hC.1]; omega)⟩
    have HQ := Lib.hid hq
    have HC := Lib.hid hC
    have HU := Lib.hid hu
    clear hq hC hu
    by_cases h16 : 16 ≤ q
    · have ea := and_15 q hqu
      have eb : q % 16 < 16 := by omega
      go_wp2
      go_roundw
      case rel =>
        refine ⟨k + 1, q / 16, _, ?_, ?_, ?_, ?_, rfl, HC.out.next hk HQ.out ?_⟩
        · exact few_rounds HU.out HQ.out h16
        · rw [← HQ.out, Nat.div_div_eq_div_mul, Nat.pow_succ]
        · go_num
        · go_num
        · rw [dig_lit _ eb]
      case measure => simp [intOf]; omega
    · have hsl : ∀ W, (Instr.sliceAt 81 (.pointer (some ⟨w.heap.size, 0, none⟩)) (some (.int .i64 (65 - (k : Int) - 1))) none none).run Tryd.prog W = .ok (.slice (some ⟨w.heap.size, 64 - k, none⟩) (k + 1) (k + 1)) W := fun W => by
        have hal : Tryd.prog.arrayLen 81 = 65 := by kernel_rfl
        have hel : Tryd.prog.elem 81 = 5 := by kernel_rfl
        rw [run_sliceAt_array_l W 81 ⟨w.heap.size, 0, none⟩ (by kernel_rfl) .i64 (65 - (k : Int) - 1) (by omega) (by rw [hal]; omega), hal, hel]
        have hs : (sizeOf 5).run Tryd.prog W = .ok 1 W := by kernel_rfl
        rw [hs]
        have e1 : (65 - (k : Int) - 1).toNat = 64 - k := by omega
        unfold slicedAt
        rw [e1]
        show Result.ok _ W = _
        rw [if_neg (by omega), show 65 - (64 - k) = k + 1 by omega]
        simp [Addr.add]; omega
      have hlt : u < 16 ^ (k + 1) := by
        have h1 := HQ.out
        rw [Nat.pow_succ', ← Nat.div_lt_iff_lt_mul (Nat.pow_pos (by omega)), h1]; omega
      have hF : ∀ h, Filled u (k + 1) (C.setIfInBounds (65 - k - 1) (Value.int .u8 (((⟨#[48, 49, 50, 51, 52, 53, 54, 55, 56, 57, 97, 98, 99, 100, 101, 102, 103, 104, 105, 106, 107, 108, 109, 110, 111, 112, 113, 114, 115, 116, 117, 118, 119, 120, 121, 122]⟩ : ByteArray)[q]'h).toNat : Int))) := fun h =>
        HC.out.next hk HQ.out (by rw [dig_lit q (by omega)]; congr 2; congr 1; omega)
      have hcv : ∀ h, (convert 58 9 (.slice (some ⟨w.heap.size, 64 - k, none⟩) (k + 1) (k + 1))).run Tryd.prog (w.alloc (.cells (C.setIfInBounds (65 - k - 1) (Value.int .u8 (((⟨#[48, 49, 50, 51, 52, 53, 54, 55, 56, 57, 97, 98, 99, 100, 101, 102, 103, 104, 105, 106, 107, 108, 109, 110, 111, 112, 113, 114, 115, 116, 117, 118, 119, 120, 121, 122]⟩ : ByteArray)[q]'h).toNat : Int))) 81)) =
          .ok (.string ⟨(hexs (k + 1) u).toArray⟩) (w.alloc (.cells (C.setIfInBounds (65 - k - 1) (Value.int .u8 (((⟨#[48, 49, 50, 51, 52, 53, 54, 55, 56, 57, 97, 98, 99, 100, 101, 102, 103, 104, 105, 106, 107, 108, 109, 110, 111, 112, 113, 114, 115, 116, 117, 118, 119, 120, 121, 122]⟩ : ByteArray)[q]'h).toNat : Int))) 81)) := fun h => by
        have h2 := run_convert_bytes_back (P := Tryd.prog) (w.alloc (.cells (C.setIfInBounds (65 - k - 1) (Value.int .u8 (((⟨#[48, 49, 50, 51, 52, 53, 54, 55, 56, 57, 97, 98, 99, 100, 101, 102, 103, 104, 105, 106, 107, 108, 109, 110, 111, 112, 113, 114, 115, 116, 117, 118, 119, 120, 121, 122]⟩ : ByteArray)[q]'h).toNat : Int))) 81)) 58 9 5 ⟨w.heap.size, 64 - k, none⟩ (k + 1) (hexs (k + 1) u) Tryd.underlying58 Tryd.underlying5 Tryd.underlying9 ((hF h).row hk w)
        rw [hexs_length] at h2
        exact h2
      clear hF
      have HL := Lib.hid hlt
      clear hlt
      go_wp2
      go_ret2
      exact ⟨k + 1, by omega, by omega, HL.out, rfl, (Below.refl _ _).alloc (Nat.le_refl _) _⟩
set_option maxHeartbeats 400000 in
theorem iFormatUint_16 (u : Nat) (hu : u < 18446744073709551616) (w : World) (h0 : Tab16 w) :
   Calls Tryd.prog 58 #[.int .u64 u, .int .i64 16] w fun e w' => ∃ n, 1 ≤ n ∧ n ≤ 16 ∧ u < 16 ^ n ∧ e = .returned (.string ⟨(hexs n u).toArray⟩) ∧ Below w.heap.size w w' := by
  go_enter Tryd.func58, Tryd.ntmps58
  go_wp2_with (first | (go_at_call 65; refine (fb_16 u (by assumption) _ (by assumption)).mono ?_; rintro e w' ⟨n, h1, h2, h3, rfl, h4⟩))
  go_ret
  exact ⟨n, h1, h2, h3, rfl, h4⟩
attribute [local go_sem] run_bits run_frombits
set_option maxHeartbeats 400000 in
theorem FormatUint_16 (u : Nat) (hu : u < 18446744073709551616) (w : World) (h0 : Tab16 w) :
   Calls Tryd.prog 50 #[.int .u64 u, .int .i64 16] w fun e w' => ∃ n, 1 ≤ n ∧ n ≤ 16 ∧ u < 16 ^ n ∧ e = .returned (.string ⟨(hexs n u).toArray⟩) ∧ Below w.heap.size w w' := by
  go_enter Tryd.func50, Tryd.ntmps50
  go_wp2_with (first | (go_at_call 58; refine (iFormatUint_16 u (by assumption) _ (by assumption)).mono ?_; rintro e w' ⟨n, h1, h2, h3, rfl, h4⟩))
  go_ret
  exact ⟨n, h1, h2, h3, rfl, h4⟩
/-- how many bytes a slot's text has -/
def slen : Value → Nat | .string s => s.size | _ => 0
/-- a float's text -/
def textF (a : Nat) : List UInt8 := hexs 16 (canon a)
set_option maxHeartbeats 400000 in
theorem Text_any (a : Nat) (ha : a < 18446744073709551616) (w : World) (h0 : Tab16 w) :
   Calls Tryd.prog 37 #[.float .f64 a] w fun e w' => e = .returned (.string ⟨(textF a).toArray⟩) ∧ Below w.heap.size w w' := by
  have hc := canon_lt ha
  go_enter Tryd.func37, Tryd.ntmps37
  go_wp2_with (first | (go_at_call 44; refine (Canon_any _ _).mono ?_; rintro e w' ⟨rfl, rfl⟩) | (go_at_call 50; refine (FormatUint_16 (canon a) (by assumption) _ (by assumption)).mono ?_; rintro e w' ⟨n, h1, h2, h3, rfl, h4⟩))
  generalize hcc : canon a = c at *
  have HC := Lib.hid hcc
  clear hcc
  go_loop [3] (fun v => ∃ m, m ≤ 16 ∧ c < 16 ^ m ∧ v = .string ⟨(hexs m c).toArray⟩) (fun v => 16 - slen v)
  case atStart => exact ⟨n, h2, h3, rfl⟩
  case round =>
    obtain ⟨m, h5, h6, rfl⟩ := hrel
    have hp := Lib.hid (hexs_pad m c h6)
    have hl := hexs_length m c
    have H6 := Lib.hid h6
    clear h6 h3
    by_cases h7 : m < 16
    · go_wp2
      go_round
      case rel => exact ⟨m + 1, by omega, Nat.lt_of_lt_of_le H6.out (Nat.pow_le_pow_right (by omega) (by omega)), by rw [hp.out]; rfl⟩
      case measure =>
        have e1 : slen (Value.string ⟨(hexs m c).toArray⟩) = m := hl
        have e2 : slen (Value.string ((⟨#[48]⟩ : ByteArray) ++ ⟨(hexs m c).toArray⟩)) = m + 1 := by
          show ((⟨#[48]⟩ : ByteArray) ++ ⟨(hexs m c).toArray⟩).size = m + 1
          rw [ByteArray.size_append]
          show 1 + (hexs m c).length = m + 1
          omega
        rw [e1, e2]; omega
    · obtain rfl : m = 16 := by omega
      go_wp2
      go_ret
      exact ⟨by unfold textF; rw [HC.out]; rfl, h4⟩
set_option maxHeartbeats 400000 in
theorem refText_any (a : Nat) (ha : a < 18446744073709551616) (w : World) (h0 : Tab16 w) :
   Calls Tryd.prog 39 #[.float .f64 a] w fun e w' => e = .returned (.string ⟨(textF a).toArray⟩) ∧ Below w.heap.size w w' := by
  have hc := canon_lt ha
  go_enter Tryd.func39, Tryd.ntmps39
  go_wp2_with (first | (go_at_call 51; refine (refCanon_any _ _).mono ?_; rintro e w' ⟨rfl, rfl⟩) | (go_at_call 50; refine (FormatUint_16 (canon a) (by assumption) _ (by assumption)).mono ?_; rintro e w' ⟨n, h1, h2, h3, rfl, h4⟩))
  generalize hcc : canon a = c at *
  have HC := Lib.hid hcc
  clear hcc
  go_loop [3] (fun v => ∃ m, m ≤ 16 ∧ c < 16 ^ m ∧ v = .string ⟨(hexs m c).toArray⟩) (fun v => 16 - slen v)
  case atStart => exact ⟨n, h2, h3, rfl⟩
  case round =>
    obtain ⟨m, h5, h6, rfl⟩ := hrel
    have hp := Lib.hid (hexs_pad m c h6)
    have hl := hexs_length m c
    have H6 := Lib.hid h6
    clear h6 h3
    by_cases h7 : m < 16
    · go_wp2
      go_round
      case rel => exact ⟨m + 1, by omega, Nat.lt_of_lt_of_le H6.out (Nat.pow_le_pow_right (by omega) (by omega)), by rw [hp.out]; rfl⟩
      case measure =>
        have e1 : slen (Value.string ⟨(hexs m c).toArray⟩) = m := hl
        have e2 : slen (Value.string ((⟨#[48]⟩ : ByteArray) ++ ⟨(hexs m c).toArray⟩)) = m + 1 := by
          show ((⟨#[48]⟩ : ByteArray) ++ ⟨(hexs m c).toArray⟩).size = m + 1
          rw [ByteArray.size_append]
          show 1 + (hexs m c).length = m + 1
          omega
        rw [e1, e2]; omega
    · obtain rfl : m = 16 := by omega
      go_wp2
      go_ret
      exact ⟨by unfold textF; rw [HC.out]; rfl, h4⟩
end Go.Proofs.YtekbeicoeoajoaaDoor.Nm
