/- Walks of strconv.ParseUint at base 16, 64 bits: just so much as a float's text wants: sixteen digits as they are written lead back to their number; of any other text: some number, or an error. -/
import Derived.Test.YtekbeicoeoajoaaDoorHex
import Derived.Lib.ConvBytes
import Derived.Lib.AtoiErrMem
namespace Go.Proofs.YtekbeicoeoajoaaDoor.Nm
open Go Go.RowKit

set_option maxHeartbeats 400000 in
theorem lower_any (c : Int) (w : World) : Calls Tryd.prog 75 #[.int .u8 c] w fun e w' => e = .returned (.int .u8 (bits .or .u8 c 32)) ∧ w = w' := by
  go_enter Tryd.func75, Tryd.ntmps75
  go_wp2
  go_ret
  exact ⟨rfl, rfl⟩

theorem or_32 (d : Nat) (h : d < 16) (h2 : ¬ d < 10) : bits .or .u8 ((87 + d : Nat) : Int) 32 = ((87 + d : Nat) : Int) := by
  have : ∀ d : Fin 16, ¬ d.val < 10 → bits .or .u8 ((87 + d.val : Nat) : Int) 32 = ((87 + d.val : Nat) : Int) := by decide +kernel
  exact this ⟨d, h⟩ h2

/-- the text is c's sixteen digits -/
def Is16 (l : List UInt8) (c : Nat) : Prop := c < 18446744073709551616 ∧ l = hexs 16 c
theorem Is16.byte {l : List UInt8} {c : Nat} (h : Is16 l c) {k : Nat} (hk : k < 16) : (l.getD k 0).toNat = hexd (c / 16 ^ (15 - k) % 16) := by
  rw [h.2]
  have := hexs_get 16 c k hk
  rw [List.getD, this]
  have hlt := hexd_lt (c / 16 ^ (15 - k) % 16) (Nat.mod_lt _ (by omega))
  rw [show 16 - 1 - k = 15 - k by omega]
  simp only [Option.getD_some]
  rw [UInt8.toNat_ofNat', Nat.mod_eq_of_lt (by omega)]
/-- what the rounds have gathered of such a text -/
def Gathered (l : List UInt8) (k : Nat) (a : Int) : Prop := ∀ c, Is16 l c → k ≤ 16 ∧ a = ((c / 16 ^ (16 - k) : Nat) : Int)
theorem Gathered.small {l : List UInt8} {k : Nat} {a : Int} (h : Gathered l k a) (hk : k < 16) {c : Nat} (hc : Is16 l c) : a < 1152921504606846976 := by
  obtain ⟨_, rfl⟩ := h c hc
  have h2 := hc.1
  have h3 : c / 16 ^ (16 - k) ≤ c / 16 ^ 1 := Nat.div_le_div_left (Nat.pow_le_pow_right (by omega) (by omega)) (by omega)
  omega
theorem Gathered.next {l : List UInt8} {k : Nat} {a : Int} (h : Gathered l k a) (hk : k < l.length) {d : Int} (hd : ∀ c, Is16 l c → d = ((c / 16 ^ (15 - k) % 16 : Nat) : Int)) : Gathered l (k + 1) (a * 16 + d) := by
  intro c hc
  have hl : l.length = 16 := by rw [hc.2, hexs_length]
  obtain ⟨h1, h2⟩ := h c hc
  refine ⟨by omega, ?_⟩
  rw [h2, hd c hc, show 16 - (k + 1) = 15 - k by omega, show 16 - k = (15 - k) + 1 by omega, Nat.pow_succ, ← Nat.div_div_eq_div_mul]
  omega

/-- what is told -/
def UintTold (s : ByteArray) (w : World) (e : Ending) (w' : World) : Prop :=
  ∃ (n : Nat) (err : Value), e = .returned (.tuple #[.int .u64 n, err]) ∧ n < 18446744073709551616 ∧ (err = .nilIface ∨ err = .iface 84 (.int .i64 2) ∨ err = .iface 84 (.int .i64 1)) ∧
    (∀ c, Is16 s.data.toList c → n = c ∧ err = .nilIface) ∧ Below w.heap.size w w'
theorem told_error {s : ByteArray} {w w' : World} (n : Nat) (hn : n < 18446744073709551616) (k : Int) (hk : k = 2 ∨ k = 1) (hno : ∀ c, ¬ Is16 s.data.toList c) (hb : Below w.heap.size w w') :
    UintTold s w (.returned (.tuple #[.int .u64 n, .iface 84 (.int .i64 k)])) w' :=
  ⟨n, _, rfl, hn, by rcases hk with rfl | rfl <;> simp, fun c hc => absurd hc (hno c), hb⟩

set_option maxHeartbeats 4000000 in
set_option maxRecDepth 100000 in
theorem iParseUint_16 (t : ByteArray) (hmax : t.size ≤ 9223372036854775806) (w : World) :
    Calls Tryd.prog 67 #[.string t, .int .i64 16, .int .i64 64] w (UintTold t w) := by
  by_cases hne : t.size = 0
  · have ht : t = ⟨#[]⟩ := by
      obtain ⟨⟨l⟩⟩ := t
      cases l with
      | nil => rfl
      | cons _ _ => simp [ByteArray.size] at hne
    subst ht
    go_enter Tryd.func67, Tryd.ntmps67
    go_wp2
    go_ret2
    exact told_error 0 (by omega) 2 (.inl rfl) (fun c hc => by have := congrArg List.length hc.2; rw [hexs_length] at this; cases this) (Below.refl _ _)
  · have hemp : t.toList.isEmpty = false := by
      rw [← decide_eq_emptyBytes]
      exact decide_eq_false (fun h => hne (by rw [h]; rfl))
    have hcv := Lib.run_convert_string_bytes (P := Tryd.prog) w 9 58 5 t (u := .string) Tryd.underlying9 Tryd.underlying58 Tryd.underlying5
    have hB : ∀ j, j < t.size → (Lib.bytesWorld w 5 t).cell? ⟨w.heap.size, j, none⟩ = some (.int .u8 (t.data.toList.getD j 0).toNat) := fun j hj => Lib.bytesWorld_cell w 5 t j hj
    have hbel : Below w.heap.size w (Lib.bytesWorld w 5 t) := Lib.bytesWorld_below w 5 t
    have hlen : t.data.toList.length = t.size := by rw [Array.length_toList]; rfl
    obtain ⟨W1, hW1⟩ : ∃ W1, W1 = Lib.bytesWorld w 5 t := ⟨_, rfl⟩
    rw [← hW1] at hcv hB hbel
    clear hW1
    obtain ⟨bs, hL⟩ : ∃ bs, bs = t.data.toList := ⟨_, rfl⟩
    rw [← hL] at hB hlen
    have HL := Lib.hid hL
    have HLN := Lib.hid hlen
    have HB := Lib.hid hB
    clear hL hlen hB
    have hmv : IntKind.u64.wrap (IntKind.u64.wrap 18446744073709551616 - 1) = 18446744073709551615 := by
      rw [IntKind.wrap_u64, IntKind.wrap_u64]
      decide
    go_enter Tryd.func67, Tryd.ntmps67
    go_wp2
    go_loop [12, 13, 101] (fun vu vn vi => ∃ (k : Nat) (a : Int), vu = .bool false ∧ vn = .int .u64 a ∧ vi = .int .i64 k ∧ k ≤ t.size ∧ 0 ≤ a ∧ a < 18446744073709551616 ∧ Hid (Gathered bs k a))
      (fun _ _ vi => t.size - (intOf vi).toNat)
    case atStart => exact ⟨0, 0, rfl, rfl, rfl, by omega, by omega, by omega, fun c hc => ⟨by omega, by have := hc.1; have : c / 16 ^ (16 - 0) = 0 := Nat.div_eq_of_lt (by omega); rw [this]; rfl⟩⟩
    case round =>
      obtain ⟨k, a, rfl, rfl, rfl, hk, ha0, ha1, HG⟩ := hrel
      by_cases hkn : k < t.size
      · have hc := HB.out k hkn
        have HD : Hid (∀ cc, Is16 bs cc → k < 16 ∧ (bs.getD k 0).toNat = hexd (cc / 16 ^ (15 - k) % 16)) := fun cc h => by
          have hl : bs.length = 16 := by rw [h.2, hexs_length]
          have hk16 : k < 16 := by have := HLN.out; omega
          exact ⟨hk16, h.byte hk16⟩
        have hc256 : (bs.getD k 0).toNat < 256 := (bs.getD k 0).toNat_lt
        generalize hcc : (((bs.getD k 0).toNat : Nat) : Int) = ci at hc
        have HCI := Lib.hid hcc
        have c0 : 0 ≤ ci := by omega
        have c1 : ci < 256 := by omega
        clear hcc hc256
        by_cases hdig : 48 ≤ ci ∧ ci ≤ 57
        · obtain ⟨hd0, hd1⟩ := hdig
          by_cases hcut : 1152921504606846976 ≤ a
          · have HN : Hid (∀ cc, ¬ Is16 bs cc) := fun cc h => by have := HG.out.small (HD.out cc h).1 h; omega
            go_wp2
            go_ret2
            exact told_error 18446744073709551615 (by omega) 1 (.inr rfl) (by rw [← HL.out]; exact HN.out) hbel
          · have HN : Hid (Gathered bs (k + 1) (a * 16 + (ci - 48))) := HG.out.next (by have := HLN.out; omega) (fun cc h => by
              obtain ⟨h1, h2⟩ := HD.out cc h
              have h3 := HCI.out
              have h4 : cc / 16 ^ (15 - k) % 16 < 16 := Nat.mod_lt _ (by omega)
              generalize cc / 16 ^ (15 - k) % 16 = dg at *
              unfold hexd at h2
              split at h2 <;> omega)
            have icut : a < 1152921504606846976 := by omega
            clear hcut
            go_wp2
            refine ⟨⟨k + 1, a * 16 + (ci - 48), rfl, (by first | rfl | (congr 1; omega)), (by first | rfl | (congr 1; omega)), by omega, by omega, by omega, HN⟩, by simp [intOf]; omega⟩
        · obtain ⟨lc, hlc⟩ : ∃ lc, lc = bits .or .u8 ci 32 := ⟨_, rfl⟩
          have hv0 := bits_lo_u8 .or ci 32
          have hv1 := bits_hi_u8 .or ci 32
          rw [← hlc] at hv0 hv1
          have HLC := Lib.hid hlc
          have HLO : Hid (∀ W, Calls Tryd.prog 75 #[.int .u8 ci] W fun e w' => e = .returned (.int .u8 lc) ∧ W = w') := fun W => by rw [hlc]; exact lower_any ci W
          clear hlc
          have HH : Hid (∀ cc, Is16 bs cc → 97 ≤ lc ∧ lc ≤ 102 ∧ lc - 87 = ((cc / 16 ^ (15 - k) % 16 : Nat) : Int)) := fun cc h => by
            obtain ⟨h1, h2⟩ := HD.out cc h
            have h3 := HCI.out
            have h4 : cc / 16 ^ (15 - k) % 16 < 16 := Nat.mod_lt _ (by omega)
            generalize cc / 16 ^ (15 - k) % 16 = dg at *
            unfold hexd at h2
            split at h2
            · omega
            · have h5 := or_32 dg h4 (by assumption)
              have h6 := HLC.out
              rw [← h3, h2, h5] at h6
              omega
          have hdig2 : ¬ (48 ≤ ci ∧ ci ≤ 57) := hdig
          clear hdig
          cases h95 : (ci == 95)
          all_goals
            by_cases hlet : 97 ≤ lc ∧ lc ≤ 122
            · obtain ⟨l0, l1⟩ := hlet
              by_cases hbig : 103 ≤ lc
              · have HN : Hid (∀ cc, ¬ Is16 bs cc) := fun cc h => by have := HH.out cc h; omega
                go_wp2_with (go_at_call 75; refine (HLO.out _).mono ?_; rintro e w' ⟨rfl, rfl⟩)
                all_goals go_ret2
                all_goals exact told_error 0 (by omega) 2 (.inl rfl) (by rw [← HL.out]; exact HN.out) hbel
              · by_cases hcut : 1152921504606846976 ≤ a
                · have HN : Hid (∀ cc, ¬ Is16 bs cc) := fun cc h => by have := HG.out.small (HD.out cc h).1 h; omega
                  go_wp2_with (go_at_call 75; refine (HLO.out _).mono ?_; rintro e w' ⟨rfl, rfl⟩)
                  all_goals go_ret2
                  all_goals exact told_error 18446744073709551615 (by omega) 1 (.inr rfl) (by rw [← HL.out]; exact HN.out) hbel
                · have HN : Hid (Gathered bs (k + 1) (a * 16 + (lc - 87))) := HG.out.next (by have := HLN.out; omega) (fun cc h => (HH.out cc h).2.2)
                  have icut : a < 1152921504606846976 := by omega
                  clear hcut
                  go_wp2_with (go_at_call 75; refine (HLO.out _).mono ?_; rintro e w' ⟨rfl, rfl⟩)
                  all_goals refine ⟨⟨k + 1, a * 16 + (lc - 87), rfl, (by first | rfl | (congr 1; omega)), (by first | rfl | (congr 1; omega)), by omega, by omega, by omega, HN⟩, by simp [intOf]; omega⟩
            · have HN : Hid (∀ cc, ¬ Is16 bs cc) := fun cc h => by have := HH.out cc h; omega
              go_wp2_with (go_at_call 75; refine (HLO.out _).mono ?_; rintro e w' ⟨rfl, rfl⟩)
              all_goals go_ret2
              all_goals exact told_error 0 (by omega) 2 (.inl rfl) (by rw [← HL.out]; exact HN.out) hbel
      · obtain ⟨an, rfl⟩ := Int.eq_ofNat_of_zero_le ha0
        go_wp2
        go_ret2
        refine ⟨an, _, rfl, by omega, .inl rfl, fun c hc => ⟨?_, rfl⟩, hbel⟩
        rw [← HL.out] at hc
        have h1 := HG.out c hc
        have h2 : bs.length = 16 := by rw [hc.2, hexs_length]
        have h3 := HLN.out
        have h4 : k = 16 := by omega
        have h5 := h1.2
        rw [h4, Nat.sub_self, Nat.pow_zero, Nat.div_one] at h5
        omega
end Go.Proofs.YtekbeicoeoajoaaDoor.Nm
