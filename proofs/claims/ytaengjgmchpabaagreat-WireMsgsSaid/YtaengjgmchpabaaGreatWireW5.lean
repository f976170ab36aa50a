import Derived.Test.YtaengjgmchpabaaGreatWireW4
import Derived.Test.YtaengjgmchpabaaGreatMergeWr29
/- The landed writer: entry. -/
namespace Go.Proofs.YtaengjgmchpabaaGreat.Wr
open Go Go.RowKit Vl Kv Ss Cn Mem Lg Nm
attribute [local go_sem] Nm.run_bits Nm.run_frombits run_store_float
variable {w0 wr : World} {bw : Nat} {o : Option (List Nat)} {F : List (Nat × Obj)}
theorem call_yes (h : Yw w0 wr bw o F) {c : Cl} (hc : FitCl c) (hk : okCl c = true) (hl : lenO o ≤ 8000000000) :
    Calls Tryz.prog 81 #[.pointer (some ⟨bw, 0, none⟩), callVal c] wr fun x w' => x = .returned (.tuple #[]) ∧ Yw w0 w' bw (app o (cCall.enc c)) F := by
  have := call_any h hc hl
  unfold cR at this
  rw [if_pos hk] at this
  exact this
theorem call_no (h : Yw w0 wr bw o F) {c : Cl} (hc : FitCl c) (hk : okCl c = false) (hl : lenO o ≤ 8000000000) :
    Calls Tryz.prog 81 #[.pointer (some ⟨bw, 0, none⟩), callVal c] wr fun x w' => x = .panicked thr ∧ ∃ o, Yw w0 w' bw o F := by
  have := call_any h hc hl
  unfold cR at this
  rw [if_neg (by rw [hk]; decide)] at this
  exact this
theorem cEnt_enc1 (t : Int) (c : Cl) (f : C) : cEnt.enc ⟨t, 1, c, f⟩ = Pk.intB t ++ (Pk.intB 1 ++ cCall.enc c) := by
  show (Pk.intB t ++ Pk.intB 1) ++ cCall.enc c = _
  rw [List.append_assoc]
theorem cEnt_enc2 (t : Int) (c : Cl) (f : C) : cEnt.enc ⟨t, 2, c, f⟩ = Pk.intB t ++ (Pk.intB 2 ++ cConf.enc f) := by
  show (Pk.intB t ++ Pk.intB 2) ++ cConf.enc f = _
  rw [List.append_assoc]
theorem cEnt_enc0 (t : Int) (c : Cl) (f : C) : cEnt.enc ⟨t, 0, c, f⟩ = Pk.intB t ++ Pk.intB 0 := by
  show (Pk.intB t ++ Pk.intB 0) ++ [] = _
  rw [List.append_nil]
/-- what entry leaves -/
def eR (o : Option (List Nat)) (x : E) : Option (Option (List Nat)) := if okE x = true then some (app o (cEnt.enc x)) else none
set_option maxHeartbeats 12800000 in
set_option maxRecDepth 100000 in
theorem entry_any (h : Yw w0 wr bw o F) {x : E} (hx : FitE x) (hl : lenO o ≤ 7000000000) :
    Calls Tryz.prog 65 #[.pointer (some ⟨bw, 0, none⟩), x.agg] wr (Wrote w0 bw F (eR o x)) := by
  have HX := Lib.hid (h.more x.obj)
  have HO : Hid (∀ b, okE x = b → eR o x = if b = true then some (app o (cEnt.enc x)) else none) := fun b hb => by subst hb; rfl
  obtain ⟨qn, hqn⟩ : ∃ q, noCall x.call = q := ⟨_, rfl⟩
  obtain ⟨qc, hqc⟩ : ∃ q, decide (x.conf = C.zero) = q := ⟨_, rfl⟩
  obtain ⟨qk, hqk⟩ : ∃ q, okCl x.call = q := ⟨_, rfl⟩
  have HK := Lib.hid (show okE x = (decide (0 ≤ x.kind) && decide (x.kind ≤ 2) && (decide (x.kind = 1) || qn) && (decide (x.kind = 2) || qc) && (!decide (x.kind = 1) || qk)) by rw [← hqn, ← hqc, ← hqk]; rfl)
  have HQK := Lib.hid hqk
  have HNC : Hid (∀ w, Calls Tryz.prog 80 #[callVal x.call] w fun e w' => e = .returned (.bool qn) ∧ Beh w w') := fun w => by have := isNoCall_any x.call w; rw [hqn] at this; exact this
  have he : ∀ w, (binOp .eql 24 (.agg #[.int .i64 x.conf.f, .int .i64 x.conf.w, .int .i64 x.conf.l, .int .i64 x.conf.x]) (.agg #[.int .i64 0, .int .i64 0, .int .i64 0, .int .i64 0])).run Tryz.prog w = .ok (.bool qc) w := fun w => by
    rw [conf_eq, ← hqc]; rfl
  have HFt : Hid (In64 x.term) := hx.term
  have HFk : Hid (In64 x.kind) := hx.kind
  have HFc : Hid (FitCl x.call) := hx.call
  have HFf : Hid (FitC x.conf) := hx.conf
  clear h hx hqn hqc hqk
  obtain ⟨t, k, ⟨cl, sq, ⟨kd, ky, ⟨ok, on, os⟩, ⟨vk, vn, vs⟩⟩⟩, ⟨f, v, l, y⟩⟩ := x
  unfold E.obj at HX
  dsimp only at HX HK HQK HNC he HFt HFk HFc HFf
  have hl1 := lenO_int o t
  have hl2 := lenO_int (app o (Pk.intB t)) k
  obtain ⟨c0, c1, c2, c3, c4, c5, c6, c7, c8, c9, c10, c11, c12, c13, c14, c15⟩ := Lg.cells16 HX.out.head
  by_cases k1 : k = 1
  · subst k1
    have HE := Lib.hid (cEnt_enc1 t ⟨cl, sq, ⟨kd, ky, ⟨ok, on, os⟩, ⟨vk, vn, vs⟩⟩⟩ ⟨f, v, l, y⟩)
    cases qc
    · have HR := Lib.hid (HO.out false (by rw [HK.out]; simp))
      go_enter Tryz.func65, Tryz.ntmps65
      go_wp2_with (first | (go_at_call 48; refine (must_ok _).mono ?_; rintro e w' ⟨rfl, rfl⟩) | (go_at_call 48; refine (must_not _).mono ?_; rintro e w' ⟨rfl, rfl⟩))
      exact ⟨rfl, Wrote.no HX.out.tail HR.out⟩
    · have HR := Lib.hid (HO.out qk (by rw [HK.out]; simp))
      go_enter Tryz.func65, Tryz.ntmps65
      go_wp2_with (first | (go_at_call 48; refine (must_ok _).mono ?_; rintro e w' ⟨rfl, rfl⟩))
      go_region_with (go_at_call 35; refine Calls.mono (yInt (HX.out.on ((Beh.start _).drewN 1)) HFt.out (by omega)) ?_; rintro e w' ⟨rfl, hx⟩; (have HX := Lib.hid hx); clear hx c0 c1 c2 c3 c4 c5 c6 c7 c8 c9 c10 c11 c12 c13 c14 c15)
      obtain ⟨c0, c1, c2, c3, c4, c5, c6, c7, c8, c9, c10, c11, c12, c13, c14, c15⟩ := Lg.cells16 HX.out.head
      go_wp2_with fail
      refine Calls.mono (upTo_yes HX.out 2 (by decide) (by decide) (by decide) (by omega)) ?_
      rintro e w' ⟨rfl, hx⟩
      have HX := Lib.hid hx
      clear hx c0 c1 c2 c3 c4 c5 c6 c7 c8 c9 c10 c11 c12 c13 c14 c15
      obtain ⟨c0, c1, c2, c3, c4, c5, c6, c7, c8, c9, c10, c11, c12, c13, c14, c15⟩ := Lg.cells16 HX.out.head
      cases qk
      · go_wp2_with (first | (go_at_call 81; refine Calls.mono (call_no (c := ⟨cl, sq, ⟨kd, ky, ⟨ok, on, os⟩, ⟨vk, vn, vs⟩⟩⟩) HX.out HFc.out HQK.out (by omega)) ?_; rintro e w' ⟨rfl, hx⟩; (have HX2 := Lib.hid hx); clear hx))
        exact ⟨rfl, Wrote.no2 (tail_ex HX2.out) (HR.out.trans (by simp))⟩
      · go_wp2_with fail
        refine Calls.mono (call_yes (c := ⟨cl, sq, ⟨kd, ky, ⟨ok, on, os⟩, ⟨vk, vn, vs⟩⟩⟩) HX.out HFc.out HQK.out (by omega)) ?_
        rintro e w' ⟨rfl, hx⟩
        have HX := Lib.hid hx.tail
        clear hx
        go_wp2_with fail
        go_end0
        have hx := HX.out
        simp only [app_app] at hx
        exact Wrote.ok hx (HR.out.trans (by rw [HE.out]; simp only [if_true, List.append_assoc]))
  · have b1 := int_nbeq k1
    cases qn
    · have HR := Lib.hid (HO.out false (by rw [HK.out]; simp [k1]))
      clear k1
      go_enter Tryz.func65, Tryz.ntmps65
      go_wp2_with (first | (go_at_call 48; refine (must_ok _).mono ?_; rintro e w' ⟨rfl, rfl⟩) | (go_at_call 48; refine (must_not _).mono ?_; rintro e w' ⟨rfl, rfl⟩) | (go_at_call 80; refine Calls.mono (HNC.out _) ?_; rintro e w' ⟨rfl, hb⟩; (have HX := Lib.hid (HX.out.on hb)); clear hb; obtain ⟨c0, c1, c2, c3, c4, c5, c6, c7, c8, c9, c10, c11, c12, c13, c14, c15⟩ := Lg.cells16 HX.out.head))
      exact ⟨rfl, Wrote.no HX.out.tail HR.out⟩
    · by_cases k2 : k = 2
      · subst k2
        have HE := Lib.hid (cEnt_enc2 t ⟨cl, sq, ⟨kd, ky, ⟨ok, on, os⟩, ⟨vk, vn, vs⟩⟩⟩ ⟨f, v, l, y⟩)
        have HR := Lib.hid (HO.out true (by rw [HK.out]; simp))
        clear k1
        go_enter Tryz.func65, Tryz.ntmps65
        go_wp2_with (first | (go_at_call 48; refine (must_ok _).mono ?_; rintro e w' ⟨rfl, rfl⟩) | (go_at_call 80; refine Calls.mono (HNC.out _) ?_; rintro e w' ⟨rfl, hb⟩; (have HX := Lib.hid (HX.out.on hb)); clear hb; obtain ⟨c0, c1, c2, c3, c4, c5, c6, c7, c8, c9, c10, c11, c12, c13, c14, c15⟩ := Lg.cells16 HX.out.head))
        go_region_with (go_at_call 35; refine Calls.mono (yInt (HX.out.on ((Beh.start _).drewN 1)) HFt.out (by omega)) ?_; rintro e w' ⟨rfl, hx⟩; (have HX := Lib.hid hx); clear hx c0 c1 c2 c3 c4 c5 c6 c7 c8 c9 c10 c11 c12 c13 c14 c15)
        obtain ⟨c0, c1, c2, c3, c4, c5, c6, c7, c8, c9, c10, c11, c12, c13, c14, c15⟩ := Lg.cells16 HX.out.head
        go_wp2_with fail
        refine Calls.mono (upTo_yes HX.out 2 (by decide) (by decide) (by decide) (by omega)) ?_
        rintro e w' ⟨rfl, hx⟩
        have HX := Lib.hid hx
        clear hx c0 c1 c2 c3 c4 c5 c6 c7 c8 c9 c10 c11 c12 c13 c14 c15
        obtain ⟨c0, c1, c2, c3, c4, c5, c6, c7, c8, c9, c10, c11, c12, c13, c14, c15⟩ := Lg.cells16 HX.out.head
        go_wp2_with fail
        refine Calls.mono (conf_any (c := ⟨f, v, l, y⟩) HX.out HFf.out (by omega)) ?_
        rintro e w' ⟨rfl, hx⟩
        have HX := Lib.hid hx.tail
        clear hx
        go_wp2_with fail
        go_end0
        have hx := HX.out
        simp only [app_app] at hx
        exact Wrote.ok hx (HR.out.trans (by rw [HE.out]; simp only [if_true, List.append_assoc]))
      · have b2 := int_nbeq k2
        cases qc
        · have HR := Lib.hid (HO.out false (by rw [HK.out]; simp [k2]))
          clear k1 k2
          go_enter Tryz.func65, Tryz.ntmps65
          go_wp2_with (first | (go_at_call 48; refine (must_ok _).mono ?_; rintro e w' ⟨rfl, rfl⟩) | (go_at_call 48; refine (must_not _).mono ?_; rintro e w' ⟨rfl, rfl⟩) | (go_at_call 80; refine Calls.mono (HNC.out _) ?_; rintro e w' ⟨rfl, hb⟩; (have HX := Lib.hid (HX.out.on hb)); clear hb; obtain ⟨c0, c1, c2, c3, c4, c5, c6, c7, c8, c9, c10, c11, c12, c13, c14, c15⟩ := Lg.cells16 HX.out.head))
          exact ⟨rfl, Wrote.no HX.out.tail HR.out⟩
        · by_cases k0 : k = 0
          · subst k0
            have HE := Lib.hid (cEnt_enc0 t ⟨cl, sq, ⟨kd, ky, ⟨ok, on, os⟩, ⟨vk, vn, vs⟩⟩⟩ ⟨f, v, l, y⟩)
            have HR := Lib.hid (HO.out true (by rw [HK.out]; simp))
            clear k1 k2
            go_enter Tryz.func65, Tryz.ntmps65
            go_wp2_with (first | (go_at_call 48; refine (must_ok _).mono ?_; rintro e w' ⟨rfl, rfl⟩) | (go_at_call 80; refine Calls.mono (HNC.out _) ?_; rintro e w' ⟨rfl, hb⟩; (have HX := Lib.hid (HX.out.on hb)); clear hb; obtain ⟨c0, c1, c2, c3, c4, c5, c6, c7, c8, c9, c10, c11, c12, c13, c14, c15⟩ := Lg.cells16 HX.out.head))
            go_region_with (go_at_call 35; refine Calls.mono (yInt (HX.out.on ((Beh.start _).drewN 1)) HFt.out (by omega)) ?_; rintro e w' ⟨rfl, hx⟩; (have HX := Lib.hid hx); clear hx c0 c1 c2 c3 c4 c5 c6 c7 c8 c9 c10 c11 c12 c13 c14 c15)
            obtain ⟨c0, c1, c2, c3, c4, c5, c6, c7, c8, c9, c10, c11, c12, c13, c14, c15⟩ := Lg.cells16 HX.out.head
            go_wp2_with fail
            refine Calls.mono (upTo_yes HX.out 2 (by decide) (by decide) (by decide) (by omega)) ?_
            rintro e w' ⟨rfl, hx⟩
            have HX := Lib.hid hx
            clear hx c0 c1 c2 c3 c4 c5 c6 c7 c8 c9 c10 c11 c12 c13 c14 c15
            obtain ⟨c0, c1, c2, c3, c4, c5, c6, c7, c8, c9, c10, c11, c12, c13, c14, c15⟩ := Lg.cells16 HX.out.head
            go_wp2_with fail
            go_end0
            have hx := HX.out.tail
            simp only [app_app] at hx
            exact Wrote.ok hx (HR.out.trans (by rw [HE.out]; simp only [if_true]))
          · have HN : Hid (¬ (0 ≤ k ∧ k ≤ 2)) := fun h => by omega
            have HR := Lib.hid (HO.out false (by
              rw [HK.out]
              by_cases h1 : 0 ≤ k
              · rw [decide_eq_false (fun h2 => HN.out ⟨h1, h2⟩)]; simp
              · rw [decide_eq_false h1]; simp))
            clear k0 k1 k2
            go_enter Tryz.func65, Tryz.ntmps65
            go_wp2_with (first | (go_at_call 48; refine (must_ok _).mono ?_; rintro e w' ⟨rfl, rfl⟩) | (go_at_call 80; refine Calls.mono (HNC.out _) ?_; rintro e w' ⟨rfl, hb⟩; (have HX := Lib.hid (HX.out.on hb)); clear hb; obtain ⟨c0, c1, c2, c3, c4, c5, c6, c7, c8, c9, c10, c11, c12, c13, c14, c15⟩ := Lg.cells16 HX.out.head))
            go_region_with (go_at_call 35; refine Calls.mono (yInt (HX.out.on ((Beh.start _).drewN 1)) HFt.out (by omega)) ?_; rintro e w' ⟨rfl, hx⟩; (have HX := Lib.hid hx); clear hx c0 c1 c2 c3 c4 c5 c6 c7 c8 c9 c10 c11 c12 c13 c14 c15)
            obtain ⟨c0, c1, c2, c3, c4, c5, c6, c7, c8, c9, c10, c11, c12, c13, c14, c15⟩ := Lg.cells16 HX.out.head
            go_wp2_with (first | (go_at_call 40; refine (upTo_no HX.out 2 HFk.out HN.out (by omega)).mono ?_; rintro e w' ⟨rfl, hx⟩; (have HX2 := Lib.hid hx); clear hx))
            exact ⟨rfl, Wrote.no2 (tail_ex HX2.out) HR.out⟩
end Go.Proofs.YtaengjgmchpabaaGreat.Wr
