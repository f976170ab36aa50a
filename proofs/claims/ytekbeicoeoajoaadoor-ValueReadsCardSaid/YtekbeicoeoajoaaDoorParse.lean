/- Walks of Parse, the program's and the reference's. -/
import Derived.Test.YtekbeicoeoajoaaDoorParseUint
import Derived.Test.YtekbeicoeoajoaaDoorShelf
import Derived.Test.YtekbeicoeoajoaaDoorNumTab
namespace Go.Proofs.YtekbeicoeoajoaaDoor.Nm
open Go Go.RowKit
attribute [local go_sem] run_bits run_frombits

/-- what the library's two errors' variables hold: whatever it is, an interface value -/
def OneErr (w : World) (g : Nat) : Prop := ∃ ev, w.cell? ⟨g, 0, none⟩ = some ev ∧ (ev = .nilIface ∨ ∃ te pe, ev = .iface te pe)
def ErrVars (w : World) : Prop := OneErr w 2 ∧ OneErr w 3
theorem OneErr.below {w w' : World} {g : Nat} (h : OneErr w g) (hb : Below w.heap.size w w') : OneErr w' g := by
  obtain ⟨ev, h1, h2⟩ := h
  exact ⟨ev, cell_later hb h1, h2⟩
theorem ErrVars.below {w w' : World} (h : ErrVars w) (hb : Below w.heap.size w w') : ErrVars w' := ⟨h.1.below hb, h.2.below hb⟩

/-- what is told of strconv.ParseUint -/
def PubTold (s : ByteArray) (w : World) (e : Ending) (w' : World) : Prop :=
  ∃ (n : Nat) (err : Value), e = .returned (.tuple #[.int .u64 n, err]) ∧ n < 18446744073709551616 ∧ (err = .nilIface ∨ ∃ te pe, err = .iface te pe) ∧
    (∀ c, Is16 s.data.toList c → n = c ∧ err = .nilIface) ∧ Below w.heap.size w w'
theorem pub_ok {s : ByteArray} {w w' : World} (n : Nat) (hn : n < 18446744073709551616) (hc : ∀ c, Is16 s.data.toList c → n = c) (hb : Below w.heap.size w w') :
    PubTold s w (.returned (.tuple #[.int .u64 n, .nilIface])) w' := ⟨n, _, rfl, hn, .inl rfl, fun c h => ⟨hc c h, rfl⟩, hb⟩
theorem pub_err {s : ByteArray} {w w' : World} (n : Nat) (hn : n < 18446744073709551616) (te : TypeId) (pe : Value) (hno : ∀ c, ¬ Is16 s.data.toList c) (hb : Below w.heap.size w w') :
    PubTold s w (.returned (.tuple #[.int .u64 n, .iface te pe])) w' := ⟨n, _, rfl, hn, .inr ⟨_, _, rfl⟩, fun c h => absurd h (hno c), hb⟩
set_option maxHeartbeats 400000 in
theorem ParseUint_16 (t : ByteArray) (hmax : t.size ≤ 281474976710656) (w : World) (hv : ErrVars w) :
    Calls Tryd.prog 60 #[.string t, .int .i64 16, .int .i64 64] w (PubTold t w) := by
  have hmax2 : t.size ≤ 9223372036854775806 := by omega
  go_enter Tryd.func60, Tryd.ntmps60
  go_wp2_with fail
  refine (iParseUint_16 t hmax2 _).mono ?_
  rintro e w1 ⟨n, err, rfl, hn, herr, hc, hb⟩
  have hv1 := hv.below hb
  have HO : Hid (err = .nilIface → ∀ c, Is16 t.data.toList c → n = c) := fun _ c h => (hc c h).1
  have HN : Hid (err ≠ .nilIface → ∀ c, ¬ Is16 t.data.toList c) := fun hne c h => hne (hc c h).2
  clear hc
  obtain ⟨⟨es, hs, hs2⟩, ⟨er, hr, hr2⟩⟩ := hv1
  have HS := Lib.hid hs
  have HR := Lib.hid hr
  clear hs hr
  rcases herr with rfl | rfl | rfl
  · go_wp2_with fail
    go_ret2
    exact pub_ok n hn (HO.out (by trivial)) hb
  · go_wp2_with fail
    refine (Tryd.strconv_toError_syntax _ _ _ _ es _ hmax HS.out hs2).mono ?_
    rintro e w2 ⟨N, rfl, _, _, hb2⟩
    go_wp2_with fail
    go_ret2
    exact pub_err n hn _ _ (HN.out (fun h => by cases h)) (hb.trans (hb2.mono hb.size))
  · go_wp2_with fail
    refine (Tryd.strconv_toError_range _ _ _ _ er _ hmax HR.out hr2).mono ?_
    rintro e w2 ⟨N, rfl, _, _, hb2⟩
    go_wp2_with fail
    go_ret2
    exact pub_err n hn _ _ (HN.out (fun h => by cases h)) (hb.trans (hb2.mono hb.size))

theorem is16_text (y : Nat) (hy : y < 18446744073709551616) {l : List UInt8} (h : l = textF y) : Is16 l (canon y) := ⟨canon_lt hy, h⟩
/-- what is told of Parse: the float of a text, or none -/
def Parsed (l : List UInt8) (x : Nat) (ok : Bool) : Prop :=
  (ok = true ∧ x < 18446744073709551616 ∧ l = textF x ∧ canon x = x) ∨ (ok = false ∧ x = 0 ∧ ∀ y, y < 18446744073709551616 → l ≠ textF y)
theorem toList_data (s : ByteArray) : s.toList = s.data.toList := ByteArray.toList_eq s
theorem text_of_num {n : Nat} (hn : n < 18446744073709551616) {l : List UInt8} (hc : ∀ c, Is16 l c → n = c) :
    (textF n = l → Parsed l n true) ∧ (textF n ≠ l → Parsed l 0 false) := by
  constructor
  · intro h
    have h2 := hc _ (is16_text n hn h.symm)
    exact .inl ⟨rfl, hn, h.symm, h2.symm⟩
  · intro h
    refine .inr ⟨rfl, rfl, fun y hy e => h ?_⟩
    have h2 := hc _ (is16_text y hy e)
    rw [e, h2]
    unfold textF
    rw [canon_canon]
set_option maxHeartbeats 400000 in
theorem Parse_any (s : ByteArray) (hmax : s.size ≤ 281474976710656) (w : World) (h0 : Tab16 w) (hv : ErrVars w) :
    Calls Tryd.prog 53 #[.string s] w fun e w' => ∃ x ok, e = .returned (.tuple #[.float .f64 x, .int .i64 (if ok = true then 0 else 3)]) ∧ Parsed s.data.toList x ok ∧ Below w.heap.size w w' := by
  go_enter Tryd.func53, Tryd.ntmps53
  go_wp2_with fail
  refine (ParseUint_16 s hmax _ hv).mono ?_
  rintro e w1 ⟨n, err, rfl, hn, herr, hc, hb⟩
  have T1 := h0.below hb
  have HO : Hid (err = .nilIface → ∀ c, Is16 s.data.toList c → n = c) := fun _ c h => (hc c h).1
  have HN : Hid (err ≠ .nilIface → ∀ c, ¬ Is16 s.data.toList c) := fun hne c h => hne (hc c h).2
  clear hc
  rcases herr with rfl | ⟨te, pe, rfl⟩
  · go_wp2_with fail
    refine (Text_any n hn _ T1).mono ?_
    rintro e w2 ⟨rfl, hb2⟩
    have HP := Lib.hid (text_of_num hn (HO.out (by trivial)))
    have HB : Hid (Below w.heap.size w w2) := hb.trans (hb2.mono hb.size)
    by_cases heq : textF n = s.data.toList
    · have hq : (textF n == s.toList) = true := by rw [toList_data, beq_iff_eq]; exact heq
      have HP2 := Lib.hid (HP.out.1 heq)
      clear heq
      go_wp2_with fail
      go_ret2
      exact ⟨n, true, rfl, HP2.out, HB.out⟩
    · have hq : (textF n == s.toList) = false := by rw [toList_data, beq_eq_false_iff_ne]; exact heq
      have HP2 := Lib.hid (HP.out.2 heq)
      clear heq
      go_wp2_with fail
      go_ret2
      exact ⟨0, false, rfl, HP2.out, HB.out⟩
  · go_wp2_with fail
    go_ret2
    exact ⟨0, false, rfl, .inr ⟨rfl, rfl, fun y hy h => HN.out (fun h => by cases h) _ (is16_text y hy h)⟩, hb⟩

/-! The reference's own. -/
def digB (c : Nat) : Int := if 48 ≤ c ∧ c ≤ 57 then (c : Int) - 48 else if 97 ≤ c ∧ c ≤ 102 then (c : Int) - 87 else -1
set_option maxHeartbeats 400000 in
theorem Digit_any (c : Nat) (hc : c < 256) (w : World) : Calls Tryd.prog 55 #[.int .u8 c] w fun e w' => e = .returned (.int .i64 (digB c)) ∧ w = w' := by
  by_cases h1 : 48 ≤ c ∧ c ≤ 57
  · have hd : digB c = (c : Int) - 48 := by unfold digB; rw [if_pos h1]
    have HD := Lib.hid hd
    obtain ⟨h2, h3⟩ := h1
    clear hd
    go_enter Tryd.func55, Tryd.ntmps55
    go_wp2
    go_ret
    exact ⟨ret_int HD.out.symm, rfl⟩
  · by_cases h2 : 97 ≤ c ∧ c ≤ 102
    · have hd : digB c = (c : Int) - 87 := by unfold digB; rw [if_neg h1, if_pos h2]
      have HD := Lib.hid hd
      obtain ⟨h3, h4⟩ := h2
      clear hd h1
      go_enter Tryd.func55, Tryd.ntmps55
      go_wp2
      all_goals go_ret
      all_goals exact ⟨ret_int HD.out.symm, rfl⟩
    · have hd : digB c = -1 := by unfold digB; rw [if_neg h1, if_neg h2]
      have HD := Lib.hid hd
      clear hd
      go_enter Tryd.func55, Tryd.ntmps55
      go_wp2
      all_goals go_ret
      all_goals exact ⟨ret_int HD.out.symm, rfl⟩
theorem digB_lt (c : Nat) (h : 0 ≤ digB c) : digB c < 16 := by
  unfold digB at *
  split
  · omega
  · split
    · omega
    · rename_i h1 h2; rw [if_neg h1, if_neg h2] at h; omega
theorem hexd_digB (c : Nat) (h : 0 ≤ digB c) : hexd (digB c).toNat = c := by
  unfold digB at *
  unfold hexd
  by_cases h1 : 48 ≤ c ∧ c ≤ 57
  · rw [if_pos h1] at *; rw [if_pos (by omega)]; omega
  · rw [if_neg h1] at *
    by_cases h2 : 97 ≤ c ∧ c ≤ 102
    · rw [if_pos h2] at *; rw [if_neg (by omega)]; omega
    · rw [if_neg h2] at h; omega
theorem digB_hexd (d : Nat) (h : d < 16) : digB (hexd d) = d := by
  unfold hexd
  split
  · unfold digB; rw [if_pos (by omega)]; omega
  · unfold digB; rw [if_neg (by omega), if_pos (by omega)]; omega
theorem hexs_div (n u : Nat) : hexs (n + 1) u = hexs n (u / 16) ++ [UInt8.ofNat (hexd (u % 16))] := rfl
theorem or_low (b d : Nat) (hb : b < 1152921504606846976) (hd : d < 16) : bits .or .u64 ((b * 16 : Nat) : Int) (d : Int) = ((b * 16 + d : Nat) : Int) := by
  rw [u64_or_nat _ _ (by omega) (by omega)]
  congr 1
  have := Nat.two_pow_add_eq_or_of_lt (i := 4) (b := d) hd b
  rw [Nat.mul_comm b 16]
  exact this.symm

/-- what the reference's rounds have gathered -/
def RefGot (l : List UInt8) (k b : Nat) : Prop := l.take k = hexs k b ∧ b < 16 ^ k
theorem RefGot.next {l : List UInt8} {k b : Nat} (h : RefGot l k b) (hk : k < l.length) {d : Nat} (hd : digB (l.getD k 0).toNat = (d : Int)) : RefGot l (k + 1) (b * 16 + d) := by
  have h0 : 0 ≤ digB (l.getD k 0).toNat := by omega
  have h16 := digB_lt _ h0
  have hc := hexd_digB _ h0
  rw [hd] at h16 hc
  have hd16 : d < 16 := by omega
  refine ⟨?_, ?_⟩
  · rw [hexs_div, show (b * 16 + d) / 16 = b by omega, show (b * 16 + d) % 16 = d by omega, ← h.1, List.take_succ_eq_append_getElem hk]
    congr 2
    have e : (l.getD k 0) = l[k] := by simp [hk]
    rw [e] at hc
    have : hexd d = l[k].toNat := by simpa using hc
    rw [this]; simp
  · have := h.2; rw [Nat.pow_succ]; omega
theorem few_sixteen {k b : Nat} (hk : k < 16) (h : b < 16 ^ k) : b < 1152921504606846976 := by
  have : 16 ^ k ≤ 16 ^ 15 := Nat.pow_le_pow_right (by omega) (by omega)
  omega

theorem hexs_inj (n u v : Nat) (hu : u < 16 ^ n) (hv : v < 16 ^ n) (h : hexs n u = hexs n v) : u = v := by
  induction n generalizing u v with
  | zero => omega
  | succ n ih =>
    rw [hexs_div, hexs_div] at h
    have hlen : (hexs n (u / 16)).length = (hexs n (v / 16)).length := by rw [hexs_length, hexs_length]
    obtain ⟨h1, h2⟩ := List.append_inj h hlen
    have du : u / 16 < 16 ^ n := by rw [Nat.div_lt_iff_lt_mul (by omega), ← Nat.pow_succ]; exact hu
    have dv : v / 16 < 16 ^ n := by rw [Nat.div_lt_iff_lt_mul (by omega), ← Nat.pow_succ]; exact hv
    have e1 := ih _ _ du dv h1
    have e2 : UInt8.ofNat (hexd (u % 16)) = UInt8.ofNat (hexd (v % 16)) := List.cons.inj h2 |>.1
    have e3 := congrArg UInt8.toNat e2
    have lu := hexd_lt (u % 16) (Nat.mod_lt _ (by omega))
    have lv := hexd_lt (v % 16) (Nat.mod_lt _ (by omega))
    rw [UInt8.toNat_ofNat', UInt8.toNat_ofNat', Nat.mod_eq_of_lt (show hexd (u % 16) < 2 ^ 8 from lu), Nat.mod_eq_of_lt (show hexd (v % 16) < 2 ^ 8 from lv)] at e3
    have e4 := digB_hexd (u % 16) (Nat.mod_lt _ (by omega))
    rw [e3, digB_hexd (v % 16) (Nat.mod_lt _ (by omega))] at e4
    omega
set_option maxHeartbeats 1000000 in
theorem refParse_any (s : ByteArray) (w : World) (h0 : Tab16 w) :
    Calls Tryd.prog 42 #[.string s] w fun e w' => ∃ x ok, e = .returned (.tuple #[.float .f64 x, .bool ok]) ∧ Parsed s.data.toList x ok ∧ Below w.heap.size w w' := by
  have hlen : s.data.toList.length = s.size := by rw [Array.length_toList]; rfl
  by_cases hs : s.size = 16
  · obtain ⟨l, hl⟩ : ∃ l, l = s.data.toList := ⟨_, rfl⟩
    have hget : ∀ k (hk : k < s.size), s[k].toNat = (l.getD k 0).toNat := fun k hk => by
      rw [hl]
      have hk2 : k < s.data.toList.length := by rw [hlen]; exact hk
      show _ = ((s.data.toList[k]?).getD 0).toNat
      rw [List.getElem?_eq_getElem hk2, Array.getElem_toList]
      rfl
    rw [← hl] at hlen
    have HL := Lib.hid hl
    have HLN := Lib.hid hlen
    have HG := Lib.hid hget
    have HS := Lib.hid hs
    have hb16 : ((s.size : Int) != 16) = false := by simp [hs]
    clear hl hlen hget hs
    go_enter Tryd.func42, Tryd.ntmps42
    go_wp2
    go_loop [4, 5] (fun vb vi => ∃ k b : Nat, k ≤ 16 ∧ vi = .int .i64 k ∧ vb = .int .u64 b ∧ Hid (RefGot l k b)) (fun _ vi => 16 - (intOf vi).toNat)
    case atStart => exact ⟨0, 0, by omega, rfl, rfl, rfl, by omega⟩
    case round =>
      obtain ⟨k, b, hk, rfl, rfl, HR⟩ := hrel
      by_cases hlt : k < 16
      · have hks : k < s.size := by have := HS.out; omega
        have hbyte := HG.out k hks
        have hc256 : (l.getD k 0).toNat < 256 := (l.getD k 0).toNat_lt
        have HB := Lib.hid hbyte
        have hb60 := few_sixteen hlt HR.out.2
        by_cases hneg : digB (l.getD k 0).toNat < 0
        · have HN : Hid (Parsed s.data.toList 0 false) := .inr ⟨rfl, rfl, fun y hy e => by
            rw [← HL.out] at e
            have := (is16_text y hy e).byte hlt
            rw [this, digB_hexd _ (Nat.mod_lt _ (by omega))] at hneg
            omega⟩
          generalize (l.getD k 0).toNat = c at *
          go_wp2_with (go_at_call 55; refine (Digit_any _ (by assumption) _).mono ?_; rintro e w' ⟨rfl, rfl⟩)
          go_ret2
          exact ⟨0, false, rfl, HN.out, Below.refl _ _⟩
        · obtain ⟨d, hd⟩ := Int.eq_ofNat_of_zero_le (show 0 ≤ digB (l.getD k 0).toNat by omega)
          have hd16 := digB_lt _ (show 0 ≤ digB (l.getD k 0).toNat by omega)
          have HN : Hid (RefGot l (k + 1) (b * 16 + d)) := HR.out.next (by have := HLN.out; have := HS.out; omega) hd
          have hor := or_low b d hb60 (by omega)
          have hdd : d < 16 := by omega
          generalize (l.getD k 0).toNat = c at *
          have HD : Hid (∀ W, Calls Tryd.prog 55 #[.int .u8 c] W fun e w' => e = .returned (.int .i64 (d : Int)) ∧ W = w') := fun W => by rw [← hd]; exact Digit_any c hc256 W
          clear hd hd16 hneg
          go_wp2_with (go_at_call 55; refine (HD.out _).mono ?_; rintro e w' ⟨rfl, rfl⟩)
          refine ⟨⟨k + 1, b * 16 + d, by omega, by go_num, by rw [← hor, Int.natCast_mul]; rfl, HN⟩, by simp [intOf]; omega⟩
      · obtain rfl : k = 16 := by omega
        have hI : Is16 l b := by
          have h1 := HR.out
          have h2 := HLN.out
          have h3 := HS.out
          rw [RefGot, List.take_of_length_le (by omega)] at h1
          exact ⟨h1.2, h1.1⟩
        have hb : b < 18446744073709551616 := hI.1
        have HP := Lib.hid (text_of_num hb (fun c hc => hexs_inj 16 b c hI.1 hc.1 (hI.2.symm.trans hc.2)))
        have HLL := HL.out
        clear hI
        go_wp2_with fail
        refine (refText_any b hb _ h0).mono ?_
        rintro e w2 ⟨rfl, hb2⟩
        by_cases heq : textF b = l
        · have hq : (textF b == s.toList) = true := by rw [toList_data, beq_iff_eq, ← HL.out]; exact heq
          have HP2 := Lib.hid (HP.out.1 heq)
          clear heq HLL
          go_wp2_with fail
          go_ret2
          exact ⟨b, true, rfl, by rw [← HL.out]; exact HP2.out, hb2⟩
        · have hq : (textF b == s.toList) = false := by rw [toList_data, beq_eq_false_iff_ne, ← HL.out]; exact heq
          have HP2 := Lib.hid (HP.out.2 heq)
          clear heq HLL
          go_wp2_with fail
          go_ret2
          exact ⟨0, false, rfl, by rw [← HL.out]; exact HP2.out, hb2⟩
  · have hb16 : ((s.size : Int) != 16) = true := by rw [bne_iff_ne]; omega
    have HN : Hid (Parsed s.data.toList 0 false) := .inr ⟨rfl, rfl, fun y _ e => by
      have := congrArg List.length e
      unfold textF at this
      rw [hexs_length] at this
      omega⟩
    clear hs hlen
    go_enter Tryd.func42, Tryd.ntmps42
    go_wp2
    go_ret2
    exact ⟨0, false, rfl, HN.out, Below.refl _ _⟩

/-- two parses of one text are one -/
theorem Parsed.one {l : List UInt8} {x y : Nat} {a b : Bool} (h : Parsed l x a) (k : Parsed l y b) : x = y ∧ a = b := by
  rcases h with ⟨rfl, hx, hl, cx⟩ | ⟨rfl, rfl, hn⟩
  · rcases k with ⟨rfl, hy, kl, cy⟩ | ⟨rfl, rfl, kn⟩
    · refine ⟨?_, rfl⟩
      have := hexs_inj 16 (canon x) (canon y) (canon_lt hx) (canon_lt hy) (hl.symm.trans kl)
      rw [← cx, ← cy, this]
    · exact absurd hl (kn x hx)
  · rcases k with ⟨rfl, hy, kl, cy⟩ | ⟨rfl, rfl, kn⟩
    · exact absurd kl (hn y hy)
    · exact ⟨rfl, rfl⟩
end Go.Proofs.YtekbeicoeoajoaaDoor.Nm
