/- The landed writer: call, entry. -/
import Derived.Test.YtaengjgmchpabaaGreatWireW3
namespace Go.Proofs.YtaengjgmchpabaaGreat.Wr
open Go Go.RowKit Vl Kv Ss Cn Mem Lg Nm
attribute [local go_sem] Nm.run_bits Nm.run_frombits run_store_float
variable {w0 wr : World} {bw : Nat} {o : Option (List Nat)} {F : List (Nat × Obj)}
theorem valB_le (v : V) (h : v.text.size ≤ 16384) : (valB v).length ≤ 16410 := by
  unfold valB
  rw [List.length_append]
  have h1 := (Pk.intB_len v.kind).2
  have h2 : (if v.kind = 1 then Pk.fltB v.num else if v.kind = 2 then Pk.textB (bl v.text) else []).length ≤ 16400 := by
    split
    · show (Pk.high8 _).length ≤ _
      simp [Pk.high8]
    · split
      · have := textB_len (bl v.text); rw [bl_length] at this; omega
      · simp
  omega
theorem lenO_val (o : Option (List Nat)) {v : V} (h : v.text.size ≤ 16384) : lenO (app o (valB v)) ≤ lenO o + 16410 := by
  have := lenO_app o (valB v); have := valB_le v h; omega
theorem lenO_str (o : Option (List Nat)) {s : ByteArray} (h : s.size ≤ 16384) : lenO (app o (Pk.textB (bl s))) ≤ lenO o + 16410 := by
  have := lenO_app o (Pk.textB (bl s)); have := textB_len (bl s); rw [bl_length] at this; omega
/-- what value leaves, where it is not thrown, and where it is -/
theorem value_yes (h : Yw w0 wr bw o F) {v : V} (hv : FitV v) (hk : okV v = true) (hl : lenO o ≤ 9000000000) :
    Calls Tryz.prog 92 #[.pointer (some ⟨bw, 0, none⟩), v.val] wr fun x w' => x = .returned (.tuple #[]) ∧ Yw w0 w' bw (app o (valB v)) F := by
  have := value_any h hv hl
  unfold vR at this
  rw [if_pos hk] at this
  exact this
theorem value_no (h : Yw w0 wr bw o F) {v : V} (hv : FitV v) (hk : okV v = false) (hl : lenO o ≤ 9000000000) :
    Calls Tryz.prog 92 #[.pointer (some ⟨bw, 0, none⟩), v.val] wr fun x w' => x = .panicked thr ∧ ∃ o, Yw w0 w' bw o F := by
  have := value_any h hv hl
  unfold vR at this
  rw [if_neg (by rw [hk]; decide)] at this
  exact this
theorem cCall_enc (c : Cl) : cCall.enc c = Pk.intB c.client ++ (Pk.intB c.seq ++ (Pk.intB c.cmd.kind ++ (Pk.textB (bl c.cmd.key) ++ (valB c.cmd.old ++ valB c.cmd.val)))) := by
  rw [← cVal_enc, ← cVal_enc]; rfl
/-- what call leaves -/
def okCl (c : Cl) : Bool := okV c.cmd.old && okV c.cmd.val
def cR (o : Option (List Nat)) (c : Cl) : Option (Option (List Nat)) := if okCl c = true then some (app o (cCall.enc c)) else none
set_option maxHeartbeats 6400000 in
set_option maxRecDepth 100000 in
theorem call_any (h : Yw w0 wr bw o F) {c : Cl} (hc : FitCl c) (hl : lenO o ≤ 8000000000) :
    Calls Tryz.prog 81 #[.pointer (some ⟨bw, 0, none⟩), callVal c] wr (Wrote w0 bw F (cR o c)) := by
  have HX := Lib.hid (h.more (callCells c))
  have HO : Hid (∀ b d, okV c.cmd.old = b → okV c.cmd.val = d → cR o c = if (b && d) = true then some (app o (cCall.enc c)) else none) := fun b d hb hd => by subst hb hd; rfl
  have HE := Lib.hid (cCall_enc c)
  have HC := Lib.hid hc
  have kc := fun (w : World) (s : ByteArray) => run_bl w s
  obtain ⟨q1, hq1⟩ : ∃ q, okV c.cmd.old = q := ⟨_, rfl⟩
  obtain ⟨q2, hq2⟩ : ∃ q, okV c.cmd.val = q := ⟨_, rfl⟩
  have HR := Lib.hid (HO.out q1 q2 hq1 hq2)
  have HQ1 := Lib.hid hq1
  have HQ2 := Lib.hid hq2
  clear h hc hq1 hq2 HO
  obtain ⟨cl, sq, ⟨kd, ky, ⟨ok, on, os⟩, ⟨vk, vn, vs⟩⟩⟩ := c
  unfold callCells at HX
  dsimp only at HX HE HQ1 HQ2
  obtain ⟨c0, c1, c2, c3, c4, c5, c6, c7, c8, c9⟩ := Lg.cells10 HX.out.head
  have hl1 := lenO_int o cl
  have hl2 := lenO_int (app o (Pk.intB cl)) sq
  have hl3 := lenO_int (app (app o (Pk.intB cl)) (Pk.intB sq)) kd
  have hl4 := lenO_str (app (app (app o (Pk.intB cl)) (Pk.intB sq)) (Pk.intB kd)) HC.out.key
  have hl5 := lenO_val (app (app (app (app o (Pk.intB cl)) (Pk.intB sq)) (Pk.intB kd)) (Pk.textB (bl ky))) HC.out.old.text
  dsimp only at hl4 hl5
  have HCo : Hid (FitV ⟨ok, on, os⟩) := HC.out.old
  have HCv : Hid (FitV ⟨vk, vn, vs⟩) := HC.out.val
  go_enter Tryz.func81, Tryz.ntmps81
  go_wp2_with fail
  go_region_with (go_at_call 35; refine Calls.mono (yInt (HX.out.on ((Beh.start _).drewN 1)) HC.out.client (by omega)) ?_; rintro e w' ⟨rfl, hx⟩; (have HX := Lib.hid hx); clear hx c0 c1 c2 c3 c4 c5 c6 c7 c8 c9)
  obtain ⟨c0, c1, c2, c3, c4, c5, c6, c7, c8, c9⟩ := Lg.cells10 HX.out.head
  go_wp2_with fail
  go_region_with (go_at_call 35; refine Calls.mono (yInt (HX.out.on ((Beh.start _).drewN 1)) HC.out.seq (by omega)) ?_; rintro e w' ⟨rfl, hx⟩; (have HX := Lib.hid hx); clear hx c0 c1 c2 c3 c4 c5 c6 c7 c8 c9)
  obtain ⟨c0, c1, c2, c3, c4, c5, c6, c7, c8, c9⟩ := Lg.cells10 HX.out.head
  go_wp2_with fail
  go_region_with (go_at_call 35; refine Calls.mono (yInt (HX.out.on ((Beh.start _).drewN 1)) HC.out.kind (by omega)) ?_; rintro e w' ⟨rfl, hx⟩; (have HX := Lib.hid hx); clear hx c0 c1 c2 c3 c4 c5 c6 c7 c8 c9)
  obtain ⟨c0, c1, c2, c3, c4, c5, c6, c7, c8, c9⟩ := Lg.cells10 HX.out.head
  go_wp2_with fail
  go_region_with (go_at_call 39; refine Calls.mono (yStr (HX.out.on ((Beh.start _).drewN 1)) ky HC.out.key (by omega) (by rfl) (by rfl) (by rfl)) ?_; rintro e w' ⟨rfl, hx⟩; (have HX := Lib.hid hx); clear hx c0 c1 c2 c3 c4 c5 c6 c7 c8 c9)
  obtain ⟨c0, c1, c2, c3, c4, c5, c6, c7, c8, c9⟩ := Lg.cells10 HX.out.head
  cases q1
  · go_wp2_with (first | (go_at_call 92; refine Calls.mono (value_no (v := ⟨ok, on, os⟩) HX.out HCo.out HQ1.out (by omega)) ?_; rintro e w' ⟨rfl, hx⟩; (have HX2 := Lib.hid hx); clear hx))
    exact ⟨rfl, Wrote.no2 (tail_ex HX2.out) (HR.out.trans (by simp))⟩
  · go_wp2_with fail
    refine Calls.mono (value_yes (v := ⟨ok, on, os⟩) HX.out HCo.out HQ1.out (by omega)) ?_
    rintro e w' ⟨rfl, hx⟩
    have HX := Lib.hid hx
    clear hx c0 c1 c2 c3 c4 c5 c6 c7 c8 c9
    obtain ⟨c0, c1, c2, c3, c4, c5, c6, c7, c8, c9⟩ := Lg.cells10 HX.out.head
    cases q2
    · go_wp2_with (first | (go_at_call 92; refine Calls.mono (value_no (v := ⟨vk, vn, vs⟩) HX.out HCv.out HQ2.out (by omega)) ?_; rintro e w' ⟨rfl, hx⟩; (have HX2 := Lib.hid hx); clear hx))
      exact ⟨rfl, Wrote.no2 (tail_ex HX2.out) (HR.out.trans (by simp))⟩
    · go_wp2_with fail
      refine Calls.mono (value_yes (v := ⟨vk, vn, vs⟩) HX.out HCv.out HQ2.out (by omega)) ?_
      rintro e w' ⟨rfl, hx⟩
      have HX := Lib.hid hx.tail
      clear hx
      go_wp2_with fail
      go_end0
      have hx := HX.out
      simp only [app_app] at hx
      exact Wrote.ok hx (HR.out.trans (by rw [HE.out]; simp only [Bool.and_self, if_true, List.append_assoc]))
end Go.Proofs.YtaengjgmchpabaaGreat.Wr
