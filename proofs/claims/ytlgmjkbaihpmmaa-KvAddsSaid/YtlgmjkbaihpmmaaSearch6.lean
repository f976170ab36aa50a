/- The search of a key: strings.Compare, slices.BinarySearchFunc over pairs. -/
import Derived.Test.YtlgmjkbaihpmmaaBeh
import Derived.Lib.Bytealg
namespace Go.Proofs.Ytlgmjkbaihpmmaa.Kv
open Go Go.RowKit Vl Nm Mem
attribute [local go_sem] run_bits run_frombits run_store_float

/-- -1, 0, 1 -/
def cmp (s t : ByteArray) : Int := Lib.compareBytes s.data.toList t.data.toList
theorem compare_told (s t : List UInt8) : (Lib.compareBytes s t < 0 ↔ s < t) ∧ (Lib.compareBytes s t = 0 ↔ s = t) := by
  induction s generalizing t with
  | nil =>
    cases t with
    | nil => exact ⟨⟨fun h => by simp [Lib.compareBytes] at h, fun h => by cases h⟩, by simp [Lib.compareBytes]⟩
    | cons b t => exact ⟨by simp [Lib.compareBytes], by simp [Lib.compareBytes]⟩
  | cons a s ih =>
    cases t with
    | nil => exact ⟨⟨fun h => by simp [Lib.compareBytes] at h, fun h => by cases h⟩, by simp [Lib.compareBytes]⟩
    | cons b t =>
      rw [List.cons_lt_cons_iff]
      unfold Lib.compareBytes
      by_cases h : a < b
      · rw [if_pos h]
        exact ⟨by simp [h], by simp; intro e; subst e; exact absurd h (UInt8.lt_irrefl a)⟩
      · rw [if_neg h]
        by_cases h2 : b < a
        · rw [if_pos h2]
          exact ⟨by simp [h]; intro e; subst e; exact absurd h2 (UInt8.lt_irrefl a), by simp; intro e; subst e; exact absurd h2 (UInt8.lt_irrefl a)⟩
        · rw [if_neg h2]
          have e : a = b := UInt8.le_antisymm (UInt8.not_lt.1 h2) (UInt8.not_lt.1 h)
          subst e
          exact ⟨by simp [h, (ih t).1], by simp [(ih t).2]⟩
theorem cmp_lt (s t : ByteArray) : cmp s t < 0 ↔ klt s t := (compare_told _ _).1
theorem cmp_eq (s t : ByteArray) : cmp s t = 0 ↔ s = t := (compare_told _ _).2.trans key_eq.symm
theorem run_cmpstring (s t : ByteArray) (w : World) : (callFunc 87 #[.string s, .string t]).run Try.prog w = .ok (.value (.int .i64 (cmp s t))) w := by
  rw [run_callFunc_extern (fn := Try.f87) (e := Extern.BytealgCompare.compare) Try.func87 (by kernel_rfl) (by kernel_rfl) (by kernel_rfl) (by kernel_rfl)]
  rw [Lib.run_compareString]
  rfl
set_option maxHeartbeats 400000 in
set_option maxRecDepth 100000 in
theorem Compare_any (s t : ByteArray) (w : World) :
    Calls Try.prog 66 #[.string s, .string t] w fun e w' => e = .returned (.int .i64 (cmp s t)) ∧ w = w' := by
  have HC : ∀ w, (callFunc 87 #[.string s, .string t]).run Try.prog w = .ok (.value (.int .i64 (cmp s t))) w := run_cmpstring s t
  go_enter Try.func66, Try.ntmps66
  go_wp2
  go_ret
  exact ⟨rfl, rfl⟩
set_option maxHeartbeats 400000 in
set_option maxRecDepth 100000 in
theorem with1_any (p : Pr) (key : ByteArray) (w : World) :
    Calls Try.prog 65 #[p.agg, .string key] w fun e w' => e = .returned (.int .i64 (cmp p.key key)) ∧ Below w.heap.size w w' := by
  obtain ⟨ley, ⟨vk, vn, vs⟩⟩ := p
  go_enter Try.func65, Try.ntmps65
  go_wp2_with (first | (go_at_call 66; refine (Compare_any _ _ _).mono ?_; rintro e w' ⟨rfl, rfl⟩))
  go_ret
  exact ⟨rfl, below_alloc _ _⟩
/-- where a key stands, or would stand -/
structure Stands (L : List Pr) (key : ByteArray) (n : Nat) (f : Bool) : Prop where
  le : n ≤ L.length
  lt : ∀ q, q < n → klt (L.getD q Pr.zero).key key
  ge : ∀ q, n ≤ q → q < L.length → ¬ klt (L.getD q Pr.zero).key key
  found : f = true ↔ n < L.length ∧ (L.getD n Pr.zero).key = key
set_option maxHeartbeats 1600000 in
set_option maxRecDepth 100000 in
theorem search_any (a : Option Addr) (cap : Nat) (L : List Pr) (key : ByteArray) (w : World) (h : PairsAt w a cap L) (hs : L.Pairwise (fun p q => klt p.key q.key)) (hl : L.length ≤ 100000) :
    Calls Try.prog 64 #[.slice a L.length cap, .string key, .func (.func 65) #[] #[]] w fun e w' => ∃ (n : Nat) (f : Bool), e = .returned (.tuple #[.int .i64 (n : Int), .bool f]) ∧ Stands L key n f ∧ Below w.heap.size w w' := by
  have HI := Lib.hid h
  have HS : Hid (∀ i j, i < j → j < L.length → klt (L.getD i Pr.zero).key (L.getD j Pr.zero).key) := fun i j h1 h2 => by
    have := List.pairwise_iff_getElem.1 hs i j (by omega) h2 h1
    rw [getD_lt h2, getD_lt (by omega)]; exact this
  clear h hs
  go_enter Try.func64, Try.ntmps64
  go_wp2
  go_loopw [9, 10, 11] (fun i j _ wr => ∃ lo hi : Nat, lo ≤ hi ∧ hi ≤ L.length ∧ i = .int .i64 lo ∧ j = .int .i64 hi ∧ Hid (∀ q, q < lo → klt (L.getD q Pr.zero).key key) ∧ Hid (∀ q, hi ≤ q → q < L.length → ¬ klt (L.getD q Pr.zero).key key) ∧ Hid (Beh w wr)) (fun i j _ _ => (intOf j).toNat - (intOf i).toNat)
  case atStart => exact ⟨0, L.length, by omega, by omega, rfl, rfl, fun q hq => by omega, fun q h1 h2 => by omega, Beh.start _⟩
  case round =>
    obtain ⟨lo, hi, hle, hhi, rfl, rfl, HL, HH, HB⟩ := hrel
    by_cases hlt : lo < hi
    · have hm3 : (lo + hi) / 2 < L.length := by omega
      obtain ⟨b, off, rfl, hc⟩ := (HI.out.below HB.out.below).at_ (by omega)
      obtain ⟨h1, h2, h3, h4⟩ := hc ((lo + hi) / 2) hm3
      clear hc
      have HS1 : Hid (klt (L.getD ((lo + hi) / 2) Pr.zero).key key → ∀ q, q < (lo + hi) / 2 + 1 → klt (L.getD q Pr.zero).key key) := fun hk q hq => by
        rcases Nat.lt_or_ge q ((lo + hi) / 2) with h | h
        · exact klt_trans (HS.out q _ h hm3) hk
        · obtain rfl : q = (lo + hi) / 2 := by omega
          exact hk
      have HS2 : Hid (¬ klt (L.getD ((lo + hi) / 2) Pr.zero).key key → ∀ q, (lo + hi) / 2 ≤ q → q < L.length → ¬ klt (L.getD q Pr.zero).key key) := fun hk q hq hq2 h => by
        rcases Nat.lt_or_ge ((lo + hi) / 2) q with h5 | h5
        · exact hk (klt_trans (HS.out _ q h5 hq2) h)
        · obtain rfl : q = (lo + hi) / 2 := by omega
          exact hk h
      generalize L.getD ((lo + hi) / 2) Pr.zero = p at *
      obtain ⟨ley, ⟨vk, vn, vs⟩⟩ := p
      have HC := Lib.hid (cmp_lt ley key)
      by_cases hcmp : cmp ley key < 0
      · have d1 : decide (cmp ley key < 0) = true := decide_eq_true hcmp
        have hcmp2 := Lib.hid hcmp
        go_wp2_with (first | (go_at_call 65; refine (with1_any ⟨_, ⟨_, _, _⟩⟩ _ _).mono ?_; rintro e w' ⟨rfl, hb⟩; (have HB := Lib.hid (HB.out.on hb)); clear hb))
        go_roundw
        case rel => exact ⟨(lo + hi) / 2 + 1, hi, by omega, by omega, by go_num, rfl, HS1.out (HC.out.1 hcmp2.out), HH.out, HB.out⟩
        case measure => simp [intOf]; omega
      · have d1 : decide (cmp ley key < 0) = false := decide_eq_false hcmp
        have hcmp2 := Lib.hid hcmp
        go_wp2_with (first | (go_at_call 65; refine (with1_any ⟨_, ⟨_, _, _⟩⟩ _ _).mono ?_; rintro e w' ⟨rfl, hb⟩; (have HB := Lib.hid (HB.out.on hb)); clear hb))
        go_roundw
        case rel => exact ⟨lo, (lo + hi) / 2, by omega, by omega, rfl, by go_num, HL.out, HS2.out (fun h => by have h1 := HC.out.2 h; have h2 := hcmp2.out; omega), HB.out⟩
        case measure => simp [intOf]; omega
    · obtain rfl : lo = hi := by omega
      by_cases hend : lo < L.length
      · obtain ⟨b, off, rfl, hc⟩ := (HI.out.below HB.out.below).at_ (by omega)
        obtain ⟨h1, h2, h3, h4⟩ := hc lo hend
        clear hc
        have HST : Hid (∀ f, (f = true ↔ (L.getD lo Pr.zero).key = key) → Stands L key lo f) := fun f hf => ⟨hhi, HL.out, HH.out, by rw [hf]; exact ⟨fun h => ⟨hend, h⟩, fun h => h.2⟩⟩
        generalize L.getD lo Pr.zero = p at *
        obtain ⟨ley, ⟨vk, vn, vs⟩⟩ := p
        have HC := Lib.hid (cmp_eq ley key)
        go_wp2_with (first | (go_at_call 65; refine (with1_any ⟨_, ⟨_, _, _⟩⟩ _ _).mono ?_; rintro e w' ⟨rfl, hb⟩; (have HB := Lib.hid (HB.out.on hb)); clear hb))
        go_ret2
        exact ⟨lo, (cmp ley key == 0), rfl, HST.out _ (by rw [← HC.out, beq_iff_eq]), HB.out.below⟩
      · have HST : Hid (Stands L key lo false) := ⟨hhi, HL.out, HH.out, by simp [hend]⟩
        have d1 : decide ((lo : Int) < (L.length : Int)) = false := decide_eq_false (by omega)
        go_wp2_with fail
        go_ret2
        exact ⟨lo, _, rfl, HST.out, HB.out.below⟩
end Go.Proofs.Ytlgmjkbaihpmmaa.Kv
