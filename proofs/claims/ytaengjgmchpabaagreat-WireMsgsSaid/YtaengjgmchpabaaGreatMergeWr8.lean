import Derived.Test.YtaengjgmchpabaaGreatMergeWr7
import Derived.Deep.QuietTactic
import Derived.BigQuiet
section
/- The reference's Reader in memory; its None and Done. -/
namespace Go.Proofs.YtaengjgmchpabaaGreat.Ss
open Go Go.RowKit Vl Kv Mem Nm
attribute [local go_sem] run_bits run_frombits run_store_float

/-- the reference's Reader: its bytes' slice, where it stands, the error that it keeps -/
def RBox (w : World) (br : Nat) (a : Option Addr) (cap n at_ : Nat) (bad : Int) : Prop := w.heap[br]? = some (.cells #[.slice a n cap, .int .i64 at_, .int .i64 bad] 56)
set_option maxHeartbeats 800000 in
set_option maxRecDepth 100000 in
theorem refNone_any {w : World} {br : Nat} {a : Option Addr} {cap n at_ : Nat} {bad : Int} (h : RBox w br a cap n at_ bad) (e : Int) :
    Calls Tryz.prog 28 #[.pointer (some ⟨br, 0, none⟩), .int .i64 e] w fun x w' => x = .returned (.tuple #[]) ∧ RBox w' br a cap n at_ (if bad = 0 then e else bad) ∧ Kept (Only br) w w' := by
  have H := Lib.hid h
  have hlt := lt_of_heap h
  obtain ⟨c0, c1, c2, _, _, f2⟩ := cells3 h
  unfold RBox at h
  clear h
  by_cases hb : bad = 0
  · subst hb
    go_enter Tryz.func28, Tryz.ntmps28
    go_wp2
    go_end0
    exact ⟨rfl, Pk.heap_set H.out 2 _, (Kept.refl (Only br) w).setAt (.inl rfl) _ _⟩
  · have d1 : (bad == 0) = false := by simpa using hb
    rw [if_neg hb]
    go_enter Tryz.func28, Tryz.ntmps28
    go_wp2
    go_end0
    exact ⟨rfl, H.out, Kept.refl _ _⟩
set_option maxHeartbeats 800000 in
set_option maxRecDepth 100000 in
theorem refDone_any {w : World} {br : Nat} {a : Option Addr} {cap n at_ : Nat} {bad : Int} (h : RBox w br a cap n at_ bad) :
    Calls Tryz.prog 61 #[.pointer (some ⟨br, 0, none⟩)] w fun x w' => x = .returned (.int .i64 (if bad = 0 ∧ at_ < n then 3 else bad)) ∧ ∃ nd, w' = w.drewN nd := by
  obtain ⟨c0, c1, c2, _⟩ := cells3 h
  clear h
  by_cases hb : bad = 0
  · subst hb
    by_cases hlt : at_ < n
    · have d1 : decide ((at_ : Int) < (n : Int)) = true := decide_eq_true (by omega)
      rw [if_pos ⟨rfl, hlt⟩]
      go_enter Tryz.func61, Tryz.ntmps61
      go_wp2_with fail
      go_quiet (fail)
      go_wp2
      go_ret
      exact ⟨rfl, _, rfl⟩
    · have d1 : decide ((at_ : Int) < (n : Int)) = false := decide_eq_false (by omega)
      rw [if_neg (fun h => hlt h.2)]
      go_enter Tryz.func61, Tryz.ntmps61
      go_wp2_with fail
      go_quiet (fail)
      go_wp2
      go_ret
      exact ⟨rfl, _, rfl⟩
  · have d1 : (bad == 0) = false := by simpa using hb
    rw [if_neg (fun h => hb h.1)]
    go_enter Tryz.func61, Tryz.ntmps61
    go_wp2_with fail
    go_quiet (fail)
    go_wp2
    go_ret
    exact ⟨rfl, _, rfl⟩
end Go.Proofs.YtaengjgmchpabaaGreat.Ss
end
section
/- The reference's Reader: Int. -/
namespace Go.Proofs.YtaengjgmchpabaaGreat.Ss
open Go Go.RowKit Vl Kv Mem Nm
attribute [local go_sem] run_bits run_frombits run_store_float

/-- the reference's Reader: of the bytes F these are left: l; the error e -/
def RR (w : World) (br b : Nat) (a : Option Addr) (cap : Nat) (F l : List Nat) (e : Int) : Prop :=
  ∃ at_ : Nat, at_ ≤ F.length ∧ RBox w br a cap F.length at_ e ∧ Src w b a cap F ∧ B8 F ∧ (F ≠ [] → b ≠ br) ∧ (e = 0 → F.drop at_ = l) ∧ (e ≠ 0 → l = [])
theorem acc_add {k Z y : Nat} (hk : k ≤ 9) (hZ : Z < 128 ^ k) (hy : k = 9 → y ≤ 1) : Z + 128 ^ k * (y % 128) < 128 ^ (k + 1) ∧ Z + 128 ^ k * (y % 128) < 18446744073709551616 ∧ IntKind.u64.wrap (((y % 128 : Nat) : Int) * 2 ^ (7 * k)) = ((128 ^ k * (y % 128) : Nat) : Int) := by
  have h := Pk.acc_next hk hZ hy
  have hp : (2 : Nat) ^ (7 * k) = 128 ^ k := by rw [Nat.pow_mul]
  refine ⟨h.2.1, h.2.2, ?_⟩
  have e3 : ((y % 128 : Nat) : Int) * 2 ^ (7 * k) = ((2 ^ (7 * k) * (y % 128) : Nat) : Int) := by
    rw [Int.natCast_mul, Int.natCast_pow, Int.mul_comm]; rfl
  rw [e3, hp]
  have hT : 128 ^ k * (y % 128) < 18446744073709551616 := by omega
  generalize 128 ^ k * (y % 128) = T at hT
  simp [IntKind.wrap, IntKind.bits, IntKind.signed]
  omega
/-- what Int tells -/
def RIntTold (w : World) (br b : Nat) (a : Option Addr) (cap : Nat) (F l : List Nat) (e : Int) (x : Ending) (w' : World) : Prop :=
  x = .returned (.int .i64 (Pk.intOut l e).1) ∧ RR w' br b a cap F (Pk.intOut l e).2.1 (Pk.intOut l e).2.2 ∧ Kept (Only br) w w'
theorem intOut_none {l : List Nat} {e : Int} (h : Pk.dec 0 0 l = none) : Pk.intOut l e = (0, [], Pk.keep e 3) := by
  unfold Pk.intOut Pk.rdInt; rw [h]
theorem intOut_some {l r : List Nat} {z : Nat} {e : Int} (h : Pk.dec 0 0 l = some (z, r)) : Pk.intOut l e = (Pk.unzig z, r, e) := by
  unfold Pk.intOut Pk.rdInt; rw [h]
/-- an error that is kept: nothing is left -/
theorem RR.fell {w w' : World} {br b : Nat} {a : Option Addr} {cap : Nat} {F : List Nat} {at_ : Nat} {e : Int} (h : RBox w' br a cap F.length at_ e) (ha : at_ ≤ F.length) (hs : Src w b a cap F) (h8 : B8 F) (hne : F ≠ [] → b ≠ br) (hk : Kept (Only br) w w') (he : e ≠ 0) : RR w' br b a cap F [] e :=
  ⟨at_, ha, h, hs.kept hk (fun hF hb => hne hF hb), h8, hne, fun h => absurd h he, fun _ => rfl⟩
theorem RR.done {w wr : World} {br b : Nat} {a : Option Addr} {cap : Nat} {F l : List Nat} {at_ m n Y : Nat} {v : Int} (hb : RBox wr br a cap F.length at_ 0) (hk : Kept (Only br) w wr) (hs : Src w b a cap F) (h8 : B8 F) (hne : F ≠ [] → b ≠ br)
    (hm : m < F.length) (ho : Pk.intOut l 0 = (Pk.unzig Y, F.drop (m + 1), 0)) (hv : Pk.unzig Y = v) : RIntTold w br b a cap F l 0 (.returned (.int .i64 v)) ((wr.drewN n).setCell ⟨br, 1, none⟩ (.int .i64 ((m : Int) + 1))) := by
  have hk2 : Kept (Only br) w ((wr.drewN n).setCell ⟨br, 1, none⟩ (.int .i64 ((m : Int) + 1))) := (hk.drewN n).setAt (.inl rfl) 1 _
  unfold RIntTold
  rw [ho]
  refine ⟨by rw [hv], ⟨m + 1, hm, ?_, hs.kept hk2 (fun hF hb => hne hF hb), h8, hne, fun _ => rfl, fun h => absurd rfl h⟩, hk2⟩
  exact Pk.heap_set (w := wr.drewN n) hb 1 _
set_option maxHeartbeats 3200000 in
set_option maxRecDepth 100000 in
theorem refInt_any {w : World} {br b : Nat} {a : Option Addr} {cap : Nat} {F l : List Nat} {e : Int} (h : RR w br b a cap F l e) (hF : F.length ≤ 100000) :
    Calls Tryz.prog 27 #[.pointer (some ⟨br, 0, none⟩)] w (RIntTold w br b a cap F l e) := by
  obtain ⟨at_, ha, hB, hs, h8, hne, h0, h1⟩ := h
  by_cases he : e = 0
  · subst he
    obtain rfl := (h0 rfl).symm
    have HB := Lib.hid hB
    have HS := Lib.hid hs
    have H8 := Lib.hid h8
    have HNE := Lib.hid hne
    obtain ⟨c0, c1, c2, f0, f1, f2⟩ := cells3 hB
    unfold RBox at hB
    clear hB hs h8 hne h0 h1
    have HN : Hid (∀ wr, RBox wr br a cap F.length at_ 0 → Kept (Only br) w wr → Pk.dec 0 0 (F.drop at_) = none → Calls Tryz.prog 28 #[.pointer (some ⟨br, 0, none⟩), .int .i64 3] wr fun x w' => x = .returned (.tuple #[]) ∧ RIntTold w br b a cap F (F.drop at_) 0 (.returned (.int .i64 0)) w') := fun wr hb hk hd => by
      refine (refNone_any hb 3).mono ?_
      rintro x w' ⟨rfl, hb2, hk2⟩
      refine ⟨rfl, ?_⟩
      have hb3 : RBox w' br a cap F.length at_ 3 := hb2
      unfold RIntTold
      rw [intOut_none hd]
      exact ⟨rfl, RR.fell hb3 ha HS.out H8.out HNE.out (hk.trans hk2) (by decide), hk.trans hk2⟩
    go_enter Tryz.func27, Tryz.ntmps27
    go_wp2
    go_loopw [3, 4] (fun z i wr => ∃ k Z : Nat, k ≤ 9 ∧ i = .int .i64 k ∧ z = .int .u64 Z ∧ Hid (Z < 128 ^ k ∧ Pk.dec 0 0 (F.drop at_) = Pk.dec k Z (F.drop (at_ + k)) ∧ RBox wr br a cap F.length at_ 0 ∧ Kept (Only br) w wr)) (fun _ i _ => 10 - (intOf i).toNat)
    case atStart => exact ⟨0, 0, by omega, rfl, rfl, by decide, rfl, HB.out, Kept.refl _ _⟩
    case round =>
      obtain ⟨k, Z, hk9, rfl, rfl, hz⟩ := hrel
      obtain ⟨d0, d1, d2, g0, g1, g2⟩ := cells3 hz.out.2.2.1
      by_cases hlt : at_ + k < F.length
      · -- ROUND
        obtain ⟨off, rfl, hc⟩ := (HS.out.kept hz.out.2.2.2 (fun hF hb => HNE.out hF hb)).at_ (by omega)
        obtain ⟨m, hm⟩ : ∃ m : Nat, m = at_ + k := ⟨_, rfl⟩
        have hcell := hc m (by omega)
        have m1 : (at_ : Int) + (k : Int) = (m : Int) := by omega
        have m2 : IntKind.i64.wrap (m : Int) = (m : Int) := by simp [IntKind.wrap, IntKind.bits, IntKind.signed]; omega
        have m3 : decide ((F.length : Int) ≤ (m : Int)) = false := decide_eq_false (by omega)
        have hd0 := Lib.hid (Pk.drop_get hlt)
        have hy := H8.out.get m
        rw [← hm] at hd0
        generalize F.getD m 0 = y at *
        have hZ := hz.out.1
        have hdec := Lib.hid hz.out.2.1
        rw [← hm] at hdec
        have Hm := Lib.hid hm
        have mlt : m < F.length := by omega
        clear hc hm
        have HDN : Hid (∀ b r, k = 9 ∧ 1 < b → Pk.dec k Z (b :: r) = none) := fun b r h => by rw [Pk.dec, if_pos h]
        have HDZ : Hid (∀ b r, b = 0 ∧ 0 < k → Pk.dec k Z (b :: r) = none) := fun b r h => by rw [Pk.dec, if_neg (by omega), if_neg (by omega), if_pos h]
        have HDC : Hid (∀ b r, k ≤ 8 → 128 ≤ b → Pk.dec k Z (b :: r) = Pk.dec (k + 1) (Z + 128 ^ k * (b % 128)) r) := fun b r h h2 => by rw [Pk.dec, if_neg (by omega), if_pos h2]
        have HDD : Hid (∀ b r, ¬ (k = 9 ∧ 1 < b) → ¬ 128 ≤ b → ¬ (b = 0 ∧ 0 < k) → Pk.dec k Z (b :: r) = some (Z + 128 ^ k * (b % 128), r)) := fun b r h h2 h3 => by rw [Pk.dec, if_neg h, if_neg h2, if_neg h3, show b % 128 = b by omega]
        by_cases k9 : k = 9
        · have HK9 := Lib.hid k9
          have kq : ((k : Int) == 9) = true := beq_iff_eq.2 (by omega)
          have kz : decide (0 < (k : Int)) = true := decide_eq_true (by omega)
          have klt : decide ((k : Int) < 10) = true := decide_eq_true (by omega)
          have kge : 9 ≤ k := by omega
          have kpos : 0 < k := by omega
          clear k9
          by_cases y1 : 1 < y
          · have hd : Pk.dec 0 0 (F.drop at_) = none := by rw [hdec.out, hd0.out]; exact HDN.out _ _ ⟨HK9.out, y1⟩
            have b1 : decide (1 < (y : Int)) = true := decide_eq_true (by omega)
            go_wp2_with fail
            go_quiet (fail)
            go_wp2_with fail
            go_quiet (fail)
            go_wp2_with (first | (go_at_call 28; refine Calls.mono (HN.out _ (by exact hz.out.2.2.1) (by exact hz.out.2.2.2.heap_end rfl rfl rfl rfl) hd) ?_; rintro x w' ⟨rfl, ht⟩))
            go_ret
            exact ht
          · have b1 : decide (1 < (y : Int)) = false := decide_eq_false (by omega)
            by_cases y0 : y = 0
            · have hd : Pk.dec 0 0 (F.drop at_) = none := by rw [hdec.out, hd0.out]; exact HDZ.out _ _ ⟨y0, by omega⟩
              have b0 : ((y : Int) == 0) = true := beq_iff_eq.2 (by omega)
              clear y0
              go_wp2_with fail
              go_quiet (fail)
              go_wp2_with fail
              go_quiet (fail)
              go_wp2_with (first | (go_at_call 28; refine Calls.mono (HN.out _ (by exact hz.out.2.2.1) (by exact hz.out.2.2.2.heap_end rfl rfl rfl rfl) hd) ?_; rintro x w' ⟨rfl, ht⟩))
              go_ret
              exact ht
            · have HT := Lib.hid (acc_add (Z := Z) (y := y) hk9 hZ (fun _ => by omega))
              have hd : Pk.dec 0 0 (F.drop at_) = some (Z + 128 ^ k * (y % 128), F.drop (m + 1)) := by rw [hdec.out, hd0.out]; exact HDD.out _ _ (by omega) (by omega) (by omega)
              have b0 : ((y : Int) == 0) = false := beq_eq_false_iff_ne.2 (by omega)
              have b128 : decide ((y : Int) < 128) = true := decide_eq_true (by omega)
              clear y0
              obtain ⟨T, hT⟩ : ∃ T, T = 128 ^ k * (y % 128) := ⟨_, rfl⟩
              have hT2 := HT.out
              rw [← hT] at hT2 hd
              obtain ⟨t1, t2, t3⟩ := hT2
              have eW : IntKind.u64.wrap ((y : Int) % 128 * 2 ^ (7 * k)) = (T : Int) := by rw [show (y : Int) % 128 = ((y % 128 : Nat) : Int) by omega]; exact t3
              obtain ⟨Y, hY⟩ : ∃ Y, Y = Z + T := ⟨_, rfl⟩
              rw [← hY] at hd t2
              have eY : (Z : Int) + (T : Int) = (Y : Int) := by omega
              clear hT t1 t3 hY HT
              have hF2 := Lib.hid (intOut_some (e := 0) hd)
              have e2 : Y % 2 = 0 ∨ Y % 2 = 1 := by omega
              rcases e2 with e2 | e2
              · have e3 : ((Y : Int) % 2 == 1) = false := beq_eq_false_iff_ne.2 (by omega)
                go_wp2_with fail
                go_quiet (fail)
                go_wp2_with fail
                go_quiet (fail)
                go_wp2_with fail
                go_ret
                exact RR.done hz.out.2.2.1 hz.out.2.2.2 HS.out H8.out HNE.out mlt hF2.out (by unfold Pk.unzig; rw [if_neg (by omega)]; omega)
              · have e3 : ((Y : Int) % 2 == 1) = true := beq_iff_eq.2 (by omega)
                go_wp2_with fail
                go_quiet (fail)
                go_wp2_with fail
                go_quiet (fail)
                go_wp2_with fail
                go_ret
                exact RR.done hz.out.2.2.1 hz.out.2.2.2 HS.out H8.out HNE.out mlt hF2.out (by unfold Pk.unzig; rw [if_pos (by omega)]; omega)
        · have kq : ((k : Int) == 9) = false := beq_eq_false_iff_ne.2 (by omega)
          have klt : decide ((k : Int) < 10) = true := decide_eq_true (by omega)
          have k8 : k ≤ 8 := by omega
          clear k9
          by_cases y128 : 128 ≤ y
          · have HT := Lib.hid (acc_add (Z := Z) (y := y) hk9 hZ (fun h => by omega))
            have hd : Pk.dec 0 0 (F.drop at_) = Pk.dec (k + 1) (Z + 128 ^ k * (y % 128)) (F.drop (m + 1)) := by rw [hdec.out, hd0.out]; exact HDC.out _ _ k8 y128
            have b0 : ((y : Int) == 0) = false := beq_eq_false_iff_ne.2 (by omega)
            have b128 : decide ((y : Int) < 128) = false := decide_eq_false (by omega)
            rcases Nat.eq_zero_or_pos k with k0 | kpos
            · have kno : k ≤ 0 := by omega
              clear k0
              obtain ⟨T, hT⟩ : ∃ T, T = 128 ^ k * (y % 128) := ⟨_, rfl⟩
              have hT2 := HT.out
              rw [← hT] at hT2 hd
              obtain ⟨t1, t2, t3⟩ := hT2
              have eW : IntKind.u64.wrap ((y : Int) % 128 * 2 ^ (7 * k)) = (T : Int) := by rw [show (y : Int) % 128 = ((y % 128 : Nat) : Int) by omega]; exact t3
              obtain ⟨Y, hY⟩ : ∃ Y, Y = Z + T := ⟨_, rfl⟩
              rw [← hY] at hd t1 t2
              have eY : (Z : Int) + (T : Int) = (Y : Int) := by omega
              have T1 := Lib.hid t1
              have Hd := Lib.hid hd
              clear hT t1 t3 hY HT hd
              go_wp2_with fail
              go_quiet (fail)
              go_wp2_with fail
              go_quiet (fail)
              go_wp2_with fail
              go_roundw
              case rel => exact ⟨k + 1, Y, by omega, by go_num, rfl, T1.out, by rw [Hd.out, Hm.out]; rfl, by exact hz.out.2.2.1, by exact hz.out.2.2.2.heap_end rfl rfl rfl rfl⟩
              case measure => simp [intOf]; omega
            · skip
              obtain ⟨T, hT⟩ : ∃ T, T = 128 ^ k * (y % 128) := ⟨_, rfl⟩
              have hT2 := HT.out
              rw [← hT] at hT2 hd
              obtain ⟨t1, t2, t3⟩ := hT2
              have eW : IntKind.u64.wrap ((y : Int) % 128 * 2 ^ (7 * k)) = (T : Int) := by rw [show (y : Int) % 128 = ((y % 128 : Nat) : Int) by omega]; exact t3
              obtain ⟨Y, hY⟩ : ∃ Y, Y = Z + T := ⟨_, rfl⟩
              rw [← hY] at hd t1 t2
              have eY : (Z : Int) + (T : Int) = (Y : Int) := by omega
              have T1 := Lib.hid t1
              have Hd := Lib.hid hd
              clear hT t1 t3 hY HT hd
              go_wp2_with fail
              go_quiet (fail)
              go_wp2_with fail
              go_quiet (fail)
              go_wp2_with fail
              go_roundw
              case rel => exact ⟨k + 1, Y, by omega, by go_num, rfl, T1.out, by rw [Hd.out, Hm.out]; rfl, by exact hz.out.2.2.1, by exact hz.out.2.2.2.heap_end rfl rfl rfl rfl⟩
              case measure => simp [intOf]; omega
          · have b128 : decide ((y : Int) < 128) = true := decide_eq_true (by omega)
            have HT := Lib.hid (acc_add (Z := Z) (y := y) hk9 hZ (fun h => by omega))
            rcases Nat.eq_zero_or_pos k with k0 | kpos
            · have kno : k ≤ 0 := by omega
              have hd : Pk.dec 0 0 (F.drop at_) = some (Z + 128 ^ k * (y % 128), F.drop (m + 1)) := by rw [hdec.out, hd0.out]; exact HDD.out _ _ (by omega) y128 (by omega)
              clear k0
              obtain ⟨T, hT⟩ : ∃ T, T = 128 ^ k * (y % 128) := ⟨_, rfl⟩
              have hT2 := HT.out
              rw [← hT] at hT2 hd
              obtain ⟨t1, t2, t3⟩ := hT2
              have eW : IntKind.u64.wrap ((y : Int) % 128 * 2 ^ (7 * k)) = (T : Int) := by rw [show (y : Int) % 128 = ((y % 128 : Nat) : Int) by omega]; exact t3
              obtain ⟨Y, hY⟩ : ∃ Y, Y = Z + T := ⟨_, rfl⟩
              rw [← hY] at hd t2
              have eY : (Z : Int) + (T : Int) = (Y : Int) := by omega
              clear hT t1 t3 hY HT
              have hF2 := Lib.hid (intOut_some (e := 0) hd)
              have e2 : Y % 2 = 0 ∨ Y % 2 = 1 := by omega
              rcases e2 with e2 | e2
              · have e3 : ((Y : Int) % 2 == 1) = false := beq_eq_false_iff_ne.2 (by omega)
                go_wp2_with fail
                go_quiet (fail)
                go_wp2_with fail
                go_quiet (fail)
                go_wp2_with fail
                go_ret
                exact RR.done hz.out.2.2.1 hz.out.2.2.2 HS.out H8.out HNE.out mlt hF2.out (by unfold Pk.unzig; rw [if_neg (by omega)]; omega)
              · have e3 : ((Y : Int) % 2 == 1) = true := beq_iff_eq.2 (by omega)
                go_wp2_with fail
                go_quiet (fail)
                go_wp2_with fail
                go_quiet (fail)
                go_wp2_with fail
                go_ret
                exact RR.done hz.out.2.2.1 hz.out.2.2.2 HS.out H8.out HNE.out mlt hF2.out (by unfold Pk.unzig; rw [if_pos (by omega)]; omega)
            · by_cases y0 : y = 0
              · have hd : Pk.dec 0 0 (F.drop at_) = none := by rw [hdec.out, hd0.out]; exact HDZ.out _ _ ⟨y0, by omega⟩
                have b0 : ((y : Int) == 0) = true := beq_iff_eq.2 (by omega)
                clear y0
                go_wp2_with fail
                go_quiet (fail)
                go_wp2_with fail
                go_quiet (fail)
                go_wp2_with (first | (go_at_call 28; refine Calls.mono (HN.out _ (by exact hz.out.2.2.1) (by exact hz.out.2.2.2.heap_end rfl rfl rfl rfl) hd) ?_; rintro x w' ⟨rfl, ht⟩))
                go_ret
                exact ht
              · have hd : Pk.dec 0 0 (F.drop at_) = some (Z + 128 ^ k * (y % 128), F.drop (m + 1)) := by rw [hdec.out, hd0.out]; exact HDD.out _ _ (by omega) y128 (by omega)
                have b0 : ((y : Int) == 0) = false := beq_eq_false_iff_ne.2 (by omega)
                clear y0
                obtain ⟨T, hT⟩ : ∃ T, T = 128 ^ k * (y % 128) := ⟨_, rfl⟩
                have hT2 := HT.out
                rw [← hT] at hT2 hd
                obtain ⟨t1, t2, t3⟩ := hT2
                have eW : IntKind.u64.wrap ((y : Int) % 128 * 2 ^ (7 * k)) = (T : Int) := by rw [show (y : Int) % 128 = ((y % 128 : Nat) : Int) by omega]; exact t3
                obtain ⟨Y, hY⟩ : ∃ Y, Y = Z + T := ⟨_, rfl⟩
                rw [← hY] at hd t2
                have eY : (Z : Int) + (T : Int) = (Y : Int) := by omega
                clear hT t1 t3 hY HT
                have hF2 := Lib.hid (intOut_some (e := 0) hd)
                have e2 : Y % 2 = 0 ∨ Y % 2 = 1 := by omega
                rcases e2 with e2 | e2
                · have e3 : ((Y : Int) % 2 == 1) = false := beq_eq_false_iff_ne.2 (by omega)
                  go_wp2_with fail
                  go_quiet (fail)
                  go_wp2_with fail
                  go_quiet (fail)
                  go_wp2_with fail
                  go_ret
                  exact RR.done hz.out.2.2.1 hz.out.2.2.2 HS.out H8.out HNE.out mlt hF2.out (by unfold Pk.unzig; rw [if_neg (by omega)]; omega)
                · have e3 : ((Y : Int) % 2 == 1) = true := beq_iff_eq.2 (by omega)
                  go_wp2_with fail
                  go_quiet (fail)
                  go_wp2_with fail
                  go_quiet (fail)
                  go_wp2_with fail
                  go_ret
                  exact RR.done hz.out.2.2.1 hz.out.2.2.2 HS.out H8.out HNE.out mlt hF2.out (by unfold Pk.unzig; rw [if_pos (by omega)]; omega)
      · have hd : Pk.dec 0 0 (F.drop at_) = none := by rw [hz.out.2.1, List.drop_eq_nil_of_le (by omega)]; rfl
        have m1 : decide ((F.length : Int) ≤ (at_ : Int) + (k : Int)) = true := decide_eq_true (by omega)
        go_wp2_with fail
        go_quiet (fail)
        go_wp2_with (first | (go_at_call 28; refine Calls.mono (HN.out _ (by exact hz.out.2.2.1) (by exact hz.out.2.2.2.heap_end rfl rfl rfl rfl) hd) ?_; rintro x w' ⟨rfl, ht⟩))
        go_ret
        exact ht
  · obtain rfl := h1 he
    have HB := Lib.hid hB
    obtain ⟨c0, c1, c2, f0, f1, f2⟩ := cells3 hB
    have e1 : (e != 0) = true := by simpa using he
    have hO := Lib.hid (show Pk.intOut [] e = (0, [], e) by unfold Pk.intOut Pk.rdInt Pk.dec Pk.keep; rw [if_neg he])
    have HSS := Lib.hid hs
    have H8 := Lib.hid h8
    have HNE := Lib.hid hne
    have HE := Lib.hid he
    unfold RBox at hB
    clear hB h0 h1 he hs h8 hne
    go_enter Tryz.func27, Tryz.ntmps27
    go_wp2
    go_ret
    unfold RIntTold
    rw [hO.out]
    exact ⟨rfl, ⟨at_, ha, HB.out, HSS.out, H8.out, HNE.out, fun h => absurd h HE.out, fun _ => rfl⟩, Kept.refl _ _⟩
end Go.Proofs.YtaengjgmchpabaaGreat.Ss
end
section
/- The reference's Reader: Number of eight bytes, Float. -/
namespace Go.Proofs.YtaengjgmchpabaaGreat.Ss
open Go Go.RowKit Vl Kv Mem Nm
attribute [local go_sem] run_bits run_frombits run_store_float

set_option maxHeartbeats 1000000 in
set_option maxRecDepth 100000 in
theorem Number8_any (b : Nat) (a : Option Addr) (cap : Nat) (l : List Nat) (n : Nat) (w : World) (h : Src w b a cap l) (h8 : B8 l) (hl : l.length = n) (hn : n ≤ 8) :
    Calls Tryz.prog 107 #[.slice a n cap] w fun e w' => e = .returned (.int .u64 (Pk.num8 l)) ∧ w = w' := by
  subst hl
  have HS := Lib.hid h
  have H8 := Lib.hid h8
  clear h h8
  go_enter Tryz.func107, Tryz.ntmps107
  go_wp2
  go_loop [3, 4] (fun z i => ∃ k Z : Nat, k ≤ l.length ∧ i = .int .i64 k ∧ z = .int .u64 Z ∧ Hid (Z = Pk.num8 (l.take k))) (fun _ i => l.length - (intOf i).toNat)
  case atStart => exact ⟨0, 0, by omega, rfl, rfl, rfl⟩
  case round =>
    obtain ⟨k, Z, hk, rfl, rfl, hz⟩ := hrel
    by_cases hlt : k < l.length
    · obtain ⟨off, rfl, hc⟩ := HS.out.at_ (by omega)
      have hcell := hc k hlt
      have hy := H8.out.get k
      have hsn := Lib.hid (Pk.num8_snoc l k hlt)
      have hZ : Z ≤ 72057594037927935 := by
        rw [hz.out]
        exact Pk.num8_small H8.out (by omega) (by omega)
      clear hc
      generalize l.getD k 0 = y at *
      have HN := Lib.hid (Pk.num8_step hZ hy)
      go_wp2
      go_round
      case rel => exact ⟨k + 1, Z * 256 + y, by omega, by go_num, by rw [HN.out], by show _ = _; rw [hsn.out, hz.out]⟩
      case measure => simp [intOf]; omega
    · obtain rfl : k = l.length := by omega
      go_wp2
      go_ret
      have h1 := hz.out
      rw [List.take_length] at h1
      exact ⟨Nm.ret_int (by rw [h1]), rfl⟩
/-- a part of bytes -/
theorem src_part {w : World} {b off cap : Nat} {F : List Nat} (h : Src w b (some ⟨b, off, none⟩) cap F) {i n : Nat} (hi : i + n ≤ F.length) (h0 : 0 < n) : Src w b (some ⟨b, off + i, none⟩) (cap - i) ((F.drop i).take n) := by
  rcases h with h | h
  · obtain ⟨h1, h2, h3⟩ := h
    refine .inl ⟨by rw [List.length_take, List.length_drop]; omega, by omega, .inr ⟨off + i, rfl, fun j hj => ?_⟩⟩
    rw [List.length_take, List.length_drop] at hj
    rcases h3 with ⟨h3, _⟩ | ⟨o, ho, hc⟩
    · cases h3
    · injection ho with ho
      injection ho with _ ho
      subst ho
      have := hc (i + j) (by omega)
      rw [show off + i + j = off + (i + j) by omega, this]
      congr 2
      simp [List.getD_eq_getElem?_getD, List.getElem?_drop, show j < n by omega]
  · have := h.1
    subst this
    simp at hi
    omega
def RFltTold (w : World) (br b : Nat) (a : Option Addr) (cap : Nat) (F l : List Nat) (e : Int) (x : Ending) (w' : World) : Prop :=
  x = .returned (.float .f64 (Pk.fltOut l e).1) ∧ RR w' br b a cap F (Pk.fltOut l e).2.1 (Pk.fltOut l e).2.2 ∧ Kept (Only br) w w'
theorem fltOut_none {l : List Nat} {e : Int} (h : Pk.rdFlt l = none) : Pk.fltOut l e = (0, [], Pk.keep e 3) := by unfold Pk.fltOut; rw [h]
theorem fltOut_some {l r : List Nat} {z : Nat} {e : Int} (h : Pk.rdFlt l = some (z, r)) : Pk.fltOut l e = (z, r, e) := by unfold Pk.fltOut; rw [h]
theorem RR.next {w wr : World} {br b : Nat} {a : Option Addr} {cap : Nat} {F : List Nat} {at_ m : Nat} (hb : RBox wr br a cap F.length at_ 0) (hk : Kept (Only br) w wr) (hs : Src w b a cap F) (h8 : B8 F) (hne : F ≠ [] → b ≠ br) (hm : m ≤ F.length) :
    RR (wr.setCell ⟨br, 1, none⟩ (.int .i64 (m : Nat))) br b a cap F (F.drop m) 0 ∧ Kept (Only br) w (wr.setCell ⟨br, 1, none⟩ (.int .i64 (m : Nat))) := by
  have hk2 : Kept (Only br) w (wr.setCell ⟨br, 1, none⟩ (.int .i64 (m : Nat))) := hk.setAt (.inl rfl) 1 _
  exact ⟨⟨m, hm, Pk.heap_set (w := wr) hb 1 _, hs.kept hk2 (fun hF hb => hne hF hb), h8, hne, fun _ => rfl, fun h => absurd rfl h⟩, hk2⟩
set_option maxHeartbeats 3200000 in
set_option maxRecDepth 100000 in
theorem refFlt_any {w : World} {br b : Nat} {a : Option Addr} {cap : Nat} {F l : List Nat} {e : Int} (h : RR w br b a cap F l e) (hF : F.length ≤ 100000) :
    Calls Tryz.prog 98 #[.pointer (some ⟨br, 0, none⟩)] w (RFltTold w br b a cap F l e) := by
  obtain ⟨at_, ha, hB, hs, h8, hne, h0, h1⟩ := h
  by_cases he : e = 0
  · subst he
    obtain rfl := (h0 rfl).symm
    have HB := Lib.hid hB
    have HS := Lib.hid hs
    have H8 := Lib.hid h8
    have HNE := Lib.hid hne
    obtain ⟨c0, c1, c2, f0, f1, f2⟩ := cells3 hB
    unfold RBox at hB
    clear hB hs h8 hne h0 h1
    have HN : Hid (∀ wr, RBox wr br a cap F.length at_ 0 → Kept (Only br) w wr → Pk.rdFlt (F.drop at_) = none → Calls Tryz.prog 28 #[.pointer (some ⟨br, 0, none⟩), .int .i64 3] wr fun x w' => x = .returned (.tuple #[]) ∧ RFltTold w br b a cap F (F.drop at_) 0 (.returned (.float .f64 0)) w') := fun wr hb hk hd => by
      refine (refNone_any hb 3).mono ?_
      rintro x w' ⟨rfl, hb2, hk2⟩
      refine ⟨rfl, ?_⟩
      have hb3 : RBox w' br a cap F.length at_ 3 := hb2
      unfold RFltTold
      rw [fltOut_none hd]
      exact ⟨rfl, RR.fell hb3 ha HS.out H8.out HNE.out (hk.trans hk2) (by decide), hk.trans hk2⟩
    by_cases hl : F.length - at_ < 8
    · have hd : Pk.rdFlt (F.drop at_) = none := by unfold Pk.rdFlt; rw [if_pos (by rw [List.length_drop]; exact hl)]
      have m1 : decide ((F.length : Int) - (at_ : Int) < 8) = true := decide_eq_true (by omega)
      go_enter Tryz.func98, Tryz.ntmps98
      go_wp2_with fail
      go_quiet (fail)
      go_wp2_with (first | (go_at_call 28; refine Calls.mono (HN.out _ (by exact HB.out) (by exact (Kept.refl (Only br) w).drewN _) hd) ?_; rintro x w' ⟨rfl, ht⟩))
      go_ret
      exact ht
    · have m1 : decide ((F.length : Int) - (at_ : Int) < 8) = false := decide_eq_false (by omega)
      obtain ⟨off, rfl, _⟩ := HS.out.at_ (by omega)
      have hcap : F.length ≤ cap := by
        rcases HS.out with h | h
        · exact h.1
        · have := h.1; subst this; simp at hl
      have HNUM : Hid (∀ p q, Calls Tryz.prog 107 #[.slice (some ⟨b, off + at_, none⟩) 8 (cap - at_)] (w.drewN (p + q)) fun e w' => e = .returned (.int .u64 (Pk.num8 ((F.drop at_).take 8))) ∧ ∃ n, w' = w.drewN (p + n)) := fun p q => by
        refine (Number8_any b _ _ ((F.drop at_).take 8) 8 (w.drewN (p + q)) ?_ ((H8.out.drop _).take _) (by rw [List.length_take, List.length_drop]; omega) (by omega)).mono fun e w' ⟨h1, h2⟩ => ⟨h1, q, h2.symm⟩
        have := src_part HS.out (i := at_) (n := 8) (by omega) (by omega)
        exact this.kept (S := Mem.None) ((Kept.refl _ w).drewN _) (fun _ h => h)
      obtain ⟨m, hm⟩ : ∃ m, m = at_ + 8 := ⟨_, rfl⟩
      have e1 : (at_ : Int) + 8 = (m : Int) := by omega
      have e2 : IntKind.i64.wrap (m : Int) = (m : Int) := by simp [IntKind.wrap, IntKind.bits, IntKind.signed]; omega
      have e3 : (0 : Int) ≤ (m : Int) := by omega
      have e4 : (m : Int) ≤ (cap : Int) := by omega
      have e5 : (at_ : Int) ≤ (m : Int) := by omega
      have e6 : ¬ cap = at_ := by omega
      have e7 : m - at_ = 8 := by omega
      have e8 : at_ ≤ m := by omega
      have e9 : m ≤ cap := by omega
      have Hm := Lib.hid hm
      clear hm
      have hl8 : ¬ (F.drop at_).length < 8 := by rw [List.length_drop]; exact hl
      have HX : Hid (canon (Pk.num8 ((F.drop at_).take 8)) = Pk.num8 ((F.drop at_).take 8) → Pk.rdFlt (F.drop at_) = some (Pk.num8 ((F.drop at_).take 8), F.drop (at_ + 8))) := fun h => by unfold Pk.rdFlt; rw [if_neg hl8, if_pos h, List.drop_drop]
      have HXN : Hid (canon (Pk.num8 ((F.drop at_).take 8)) ≠ Pk.num8 ((F.drop at_).take 8) → Pk.rdFlt (F.drop at_) = none) := fun h => by unfold Pk.rdFlt; rw [if_neg hl8, if_neg h]
      clear hl8
      generalize Pk.num8 ((F.drop at_).take 8) = X at *
      go_enter Tryz.func98, Tryz.ntmps98
      go_wp2_with fail
      go_quiet (fail)
      go_wp2_with fail
      go_quiet ((first | (go_at_call 107; exact HNUM.out _ _)))
      cases hn : isNaN X
      · have h2 : (FloatKind.f64.format.order X X != some .eq) = false := hn
        have HO := Lib.hid (fltOut_some (e := 0) (HX.out (by unfold canon; rw [hn]; rfl)))
        clear hn
        go_wp2_with fail
        go_ret
        unfold RFltTold
        rw [HO.out]
        obtain ⟨r1, r2⟩ := RR.next (wr := w.drewN _) HB.out ((Kept.refl (Only br) w).drewN _) HS.out H8.out HNE.out (m := m) (by rw [Hm.out]; omega)
        exact ⟨rfl, by rw [← Hm.out]; exact r1, r2⟩
      · have h2 : (FloatKind.f64.format.order X X != some .eq) = true := hn
        by_cases hx : X = 9221120237041090561
        · have HO := Lib.hid (fltOut_some (e := 0) (HX.out (by unfold canon; rw [hn]; exact hx.symm)))
          have h3 : ((X : Int) != 9221120237041090561) = false := by rw [hx]; rfl
          clear hn hx
          go_wp2_with fail
          go_ret
          unfold RFltTold
          rw [HO.out]
          obtain ⟨r1, r2⟩ := RR.next (wr := w.drewN _) HB.out ((Kept.refl (Only br) w).drewN _) HS.out H8.out HNE.out (m := m) (by rw [Hm.out]; omega)
          exact ⟨rfl, by rw [← Hm.out]; exact r1, r2⟩
        · have hd := HXN.out (by unfold canon; rw [hn]; exact fun h => hx h.symm)
          have h3 : ((X : Int) != 9221120237041090561) = true := by rw [bne_iff_ne]; omega
          clear hn hx
          go_wp2_with (first | (go_at_call 28; refine Calls.mono (HN.out _ (by exact HB.out) (by exact ((Kept.refl (Only br) w).drewN _).heap_end rfl rfl rfl rfl) hd) ?_; rintro x w' ⟨rfl, ht⟩))
          go_ret
          exact ht
  · obtain rfl := h1 he
    have HB := Lib.hid hB
    obtain ⟨c0, c1, c2, f0, f1, f2⟩ := cells3 hB
    have e1 : (e != 0) = true := by simpa using he
    have hO := Lib.hid (show Pk.fltOut [] e = (0, [], e) by unfold Pk.fltOut Pk.rdFlt Pk.keep; simp [he])
    have HSS := Lib.hid hs
    have H8 := Lib.hid h8
    have HNE := Lib.hid hne
    have HE := Lib.hid he
    unfold RBox at hB
    clear hB h0 h1 he hs h8 hne
    go_enter Tryz.func98, Tryz.ntmps98
    go_wp2
    go_ret
    unfold RFltTold
    rw [hO.out]
    exact ⟨rfl, ⟨at_, ha, HB.out, HSS.out, H8.out, HNE.out, fun h => absurd h HE.out, fun _ => rfl⟩, Kept.refl _ _⟩
end Go.Proofs.YtaengjgmchpabaaGreat.Ss
end
