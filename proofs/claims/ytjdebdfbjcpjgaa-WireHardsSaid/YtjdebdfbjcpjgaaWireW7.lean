import Derived.Test.YtjdebdfbjcpjgaaWireW6
import Derived.Test.YtjdebdfbjcpjgaaMergeWr20
/- The landed writer: hard. -/
namespace Go.Proofs.Ytjdebdfbjcpjgaa.Wr
open Go Go.RowKit Vl Kv Ss Cn Mem Lg Nm
attribute [local go_sem] Nm.run_bits Nm.run_frombits run_store_float
variable {w0 wr : World} {bw : Nat} {o : Option (List Nat)} {F : List (Nat × Obj)}
theorem lenO_conf (o : Option (List Nat)) (c : C) : lenO (app o (cConf.enc c)) ≤ lenO o + 40 := by
  have h1 := lenO_app o (cConf.enc c)
  rw [cConf_enc] at *
  have a1 := (Pk.intB_len c.f).2
  have a2 := (Pk.intB_len c.w).2
  have a3 := (Pk.intB_len c.l).2
  have a4 := (Pk.intB_len c.x).2
  simp only [List.length_append] at h1
  omega
/-- what entries leaves, where it is not thrown, and where it is -/
theorem entries_yes (h : Yw w0 wr bw o F) {a : Option Addr} {cap n : Nat} {L : List E} (hn : n = L.length) (hL : EntAt w0 a cap L) (hf : ∀ x ∈ L, FitE x) (hl0 : L.length ≤ 9000) {most : Int} (hm : (L.length : Int) ≤ most) (hk : okL L = true) (hl : lenO o ≤ 150000000) :
    Calls Try.prog 88 #[.pointer (some ⟨bw, 0, none⟩), .slice a n cap, .int .i64 most] wr fun y w' => y = .returned (.tuple #[]) ∧ Yw w0 w' bw (app o (listB L)) F := by
  subst hn
  have := entries_any h hL hf hl0 most hl
  unfold lR at this
  rw [if_pos ⟨hm, hk⟩] at this
  exact this
theorem entries_no (h : Yw w0 wr bw o F) {a : Option Addr} {cap n : Nat} {L : List E} (hn : n = L.length) (hL : EntAt w0 a cap L) (hf : ∀ x ∈ L, FitE x) (hl0 : L.length ≤ 9000) {most : Int} (hk : ¬ ((L.length : Int) ≤ most ∧ okL L = true)) (hl : lenO o ≤ 150000000) :
    Calls Try.prog 88 #[.pointer (some ⟨bw, 0, none⟩), .slice a n cap, .int .i64 most] wr fun y w' => y = .panicked thr ∧ ∃ o, Yw w0 w' bw o F := by
  subst hn
  have := entries_any h hL hf hl0 most hl
  unfold lR at this
  rw [if_neg hk] at this
  exact this
/-- what is written of a hard state ahead of its snapshot -/
def hHead (h : H) : List Nat := Pk.intB h.term ++ (Pk.intB h.vote ++ (Pk.intB h.base ++ (Pk.intB h.bterm ++ cConf.enc h.conf)))
/-- what a program holds of a hard state -/
structure FitS (h : H) : Prop where
  term : In64 h.term
  vote : In64 h.vote
  base : In64 h.base
  bterm : In64 h.bterm
  conf : FitC h.conf
  b8 : B8 h.snap
  snap : h.snap.length ≤ 100000
  log : ∀ x ∈ h.log, FitE x
  len : h.log.length ≤ 9000
def hR (o : Option (List Nat)) (h : H) : Option (Option (List Nat)) := if okL h.log = true then some (app (appT (app o (hHead h)) h.snap) (listB h.log)) else none
set_option maxHeartbeats 12800000 in
set_option maxRecDepth 100000 in
theorem hard_any {h : H} {p : Hp} (hx : Yw w0 wr bw o F) (hp : HardAt w0 h p) (hf : FitS h) (hl : lenO o ≤ 100000000) :
    Calls Try.prog 44 #[.pointer (some ⟨bw, 0, none⟩), h.val p] wr (Wrote w0 bw F (hR o h)) := by
  have HX := Lib.hid (hx.more (h.obj p))
  have HO : Hid (∀ b, okL h.log = b → hR o h = if b = true then some (app (appT (app o (hHead h)) h.snap) (listB h.log)) else none) := fun b hb => by subst hb; rfl
  have HD := Lib.hid (show hHead h = Pk.intB h.term ++ (Pk.intB h.vote ++ (Pk.intB h.base ++ (Pk.intB h.bterm ++ cConf.enc h.conf))) from rfl)
  have HP := Lib.hid hp
  have HF := Lib.hid hf
  have hl1 := lenO_int o h.term
  have hl2 := lenO_int (app o (Pk.intB h.term)) h.vote
  have hl3 := lenO_int (app (app o (Pk.intB h.term)) (Pk.intB h.vote)) h.base
  have hl4 := lenO_int (app (app (app o (Pk.intB h.term)) (Pk.intB h.vote)) (Pk.intB h.base)) h.bterm
  have hl5 := lenO_conf (app (app (app (app o (Pk.intB h.term)) (Pk.intB h.vote)) (Pk.intB h.base)) (Pk.intB h.bterm)) h.conf
  have hl6 := lenO_appT (app (app (app (app (app o (Pk.intB h.term)) (Pk.intB h.vote)) (Pk.intB h.base)) (Pk.intB h.bterm)) (cConf.enc h.conf)) h.snap
  clear hx hp hf
  obtain ⟨c0, c1, c2, c3, c4, c5, c6, c7, c8, c9⟩ := Lg.cells10h (h := h) (p := p) HX.out.head
  go_enter Try.func44, Try.ntmps44
  go_wp2_with fail
  go_region_with (go_at_call 68; refine Calls.mono (yInt (HX.out.on ((Beh.start _).drewN 1)) HF.out.term (by omega)) ?_; rintro e w' ⟨rfl, hx⟩; (have HX := Lib.hid hx); clear hx c0 c1 c2 c3 c4 c5 c6 c7 c8 c9)
  obtain ⟨c0, c1, c2, c3, c4, c5, c6, c7, c8, c9⟩ := Lg.cells10h (h := h) (p := p) HX.out.head
  go_wp2_with fail
  go_region_with (go_at_call 68; refine Calls.mono (yInt (HX.out.on ((Beh.start _).drewN 1)) HF.out.vote (by omega)) ?_; rintro e w' ⟨rfl, hx⟩; (have HX := Lib.hid hx); clear hx c0 c1 c2 c3 c4 c5 c6 c7 c8 c9)
  obtain ⟨c0, c1, c2, c3, c4, c5, c6, c7, c8, c9⟩ := Lg.cells10h (h := h) (p := p) HX.out.head
  go_wp2_with fail
  go_region_with (go_at_call 68; refine Calls.mono (yInt (HX.out.on ((Beh.start _).drewN 1)) HF.out.base (by omega)) ?_; rintro e w' ⟨rfl, hx⟩; (have HX := Lib.hid hx); clear hx c0 c1 c2 c3 c4 c5 c6 c7 c8 c9)
  obtain ⟨c0, c1, c2, c3, c4, c5, c6, c7, c8, c9⟩ := Lg.cells10h (h := h) (p := p) HX.out.head
  go_wp2_with fail
  go_region_with (go_at_call 68; refine Calls.mono (yInt (HX.out.on ((Beh.start _).drewN 1)) HF.out.bterm (by omega)) ?_; rintro e w' ⟨rfl, hx⟩; (have HX := Lib.hid hx); clear hx c0 c1 c2 c3 c4 c5 c6 c7 c8 c9)
  obtain ⟨c0, c1, c2, c3, c4, c5, c6, c7, c8, c9⟩ := Lg.cells10h (h := h) (p := p) HX.out.head
  go_wp2_with fail
  refine Calls.mono (conf_any (c := h.conf) HX.out HF.out.conf (by omega)) ?_
  rintro e w' ⟨rfl, hx⟩
  have HX := Lib.hid hx
  clear hx c0 c1 c2 c3 c4 c5 c6 c7 c8 c9
  obtain ⟨c0, c1, c2, c3, c4, c5, c6, c7, c8, c9⟩ := Lg.cells10h (h := h) (p := p) HX.out.head
  go_wp2_with fail
  go_region_with (go_at_call 87; refine Calls.mono (yText (t := h.snap) (HX.out.on ((Beh.start _).drewN 1)) HP.out.snap HF.out.b8 HF.out.snap (by omega)) ?_; rintro e w' ⟨rfl, hx⟩; (have HX := Lib.hid hx); clear hx c0 c1 c2 c3 c4 c5 c6 c7 c8 c9)
  obtain ⟨c0, c1, c2, c3, c4, c5, c6, c7, c8, c9⟩ := Lg.cells10h (h := h) (p := p) HX.out.head
  cases hq : okL h.log
  · have HR := Lib.hid (HO.out false hq)
    go_wp2_with (first | (go_at_call 88; refine Calls.mono (entries_no HX.out rfl HP.out.log HF.out.log HF.out.len (by rw [hq]; simp) (by omega)) ?_; rintro e w' ⟨rfl, hx⟩; (have HX2 := Lib.hid hx); clear hx))
    exact ⟨rfl, Wrote.no2 (tail_ex HX2.out) (HR.out.trans (by simp))⟩
  · have HR := Lib.hid (HO.out true hq)
    go_wp2_with (first | (go_at_call 88; refine Calls.mono (entries_yes HX.out rfl HP.out.log HF.out.log HF.out.len (Int.le_refl _) hq (by omega)) ?_; rintro e w' ⟨rfl, hx⟩; (have HX2 := Lib.hid hx.tail); clear hx))
    go_end0
    have hx := HX2.out
    simp only [app_app] at hx
    exact Wrote.ok hx (HR.out.trans (by rw [HD.out]; simp only [if_true, List.append_assoc]))
end Go.Proofs.Ytjdebdfbjcpjgaa.Wr
