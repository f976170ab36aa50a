import Derived.Test.YtlgmjkbaihpmmaaGreatSessW
import Derived.Test.YtlgmjkbaihpmmaaGreatCmds7
import Derived.Test.YtlgmjkbaihpmmaaGreatMergeKv
import Derived.Test.YtlgmjkbaihpmmaaGreatSessMath
import Derived.Test.YtlgmjkbaihpmmaaGreatSessStr
import Derived.Deep.RegionLaw
import Derived.Lib.MinMax
import Derived.Test.YtlgmjkbaihpmmaaGreatBeh
import Derived.Test.YtlgmjkbaihpmmaaGreatSessChk
import Derived.WideShapes
import Derived.ChangeArms
import Derived.OpenShut
import Derived.Deep.Fields
import Derived.Test.YtlgmjkbaihpmmaaGreatSessAt
import Derived.Test.YtlgmjkbaihpmmaaGreatClone
import Derived.Test.YtlgmjkbaihpmmaaGreatCanon
import Derived.Deep.QuietTactic
import Derived.BigQuiet
import Derived.Test.YtlgmjkbaihpmmaaGreatOwnB
import Derived.ProofKit
import Derived.Deep.Slices
import Derived.ChangeShapes
section
/- Calls: the landed Right, Last; the reference's Call, Last. -/
namespace Go.Proofs.YtlgmjkbaihpmmaaGreat.Ss
open Go Go.RowKit Vl Kv Mem Nm
attribute [local go_sem] run_bits run_frombits run_store_float

def Cl.right (c : Cl) : Int := if mayBe c.client c.seq = true then c.cmd.right else 1
def lastOf (S : List Se) (c : Int) : Se := (S.find? (fun s => s.client == c)).getD Se.zero
theorem lastOf_here {S : List Se} {c : Int} {k : Nat} (hk : k < S.length) (h : (S.take k).all (fun s => s.client != c) = true) (he : (S.getD k Se.zero).client = c) : lastOf S c = S.getD k Se.zero := by
  unfold lastOf
  have e : S = S.take k ++ S[k] :: S.drop (k + 1) := by rw [← List.drop_eq_getElem_cons hk, List.take_append_drop]
  have hg : S.getD k Se.zero = S[k] := by simp [hk]
  rw [hg] at he ⊢
  have hn : (S.take k).find? (fun s => s.client == c) = none := by
    rw [List.find?_eq_none]
    intro s hs
    have := List.all_eq_true.1 h s hs
    simpa using this
  conv => lhs; rw [e]
  rw [List.find?_append, hn, List.find?_cons]
  simp [he]
theorem lastOf_none {S : List Se} {c : Int} (h : S.all (fun s => s.client != c) = true) : lastOf S c = Se.zero := by
  unfold lastOf
  rw [List.find?_eq_none.2 (fun s hs => by have := List.all_eq_true.1 h s hs; simpa using this)]
  rfl
theorem take_all {S : List Se} {c : Int} {k : Nat} (hk : k < S.length) (h : (S.take k).all (fun s => s.client != c) = true) (he : ((S.getD k Se.zero).client == c) = false) : (S.take (k + 1)).all (fun s => s.client != c) = true := by
  rw [List.take_succ_eq_append_getElem hk, List.all_append, h]
  have hg : S.getD k Se.zero = S[k] := by simp [hk]
  rw [hg] at he
  simpa using he
set_option maxHeartbeats 800000 in
theorem SRight_any (c : Cl) (w : World) : Calls Tryz.prog 59 #[c.agg] w fun e w' => e = .returned (.int .i64 c.right) ∧ Beh w w' := by
  have HC := Lib.hid (show c.right = if mayBe c.client c.seq = true then c.cmd.right else 1 from rfl)
  have HA := Lib.hid (alloc_here (w := w) c.obj rfl)
  have HB := Lib.hid ((Beh.start w).alloc c.obj)
  have HM := fun w => Lib.hid (mayBe_any c.client c.seq w)
  have HR := fun w => Lib.hid (Right_any c.cmd w)
  obtain ⟨cl, sq, ⟨k0, key, ⟨ok, on, os⟩, ⟨vk, vn, vs⟩⟩⟩ := c
  unfold Cl.obj at HA HB
  dsimp only at HA HB HC HM HR
  cases h1 : mayBe cl sq
  all_goals
    rw [h1] at HC
    simp only [h1] at HM
    go_enter Tryz.func59, Tryz.ntmps59
    go_wp2_with (first | (go_at_call 69; refine ((HM _).out).mono ?_; rintro e w' ⟨rfl, rfl⟩) | (go_at_call 81; refine ((HR _).out).mono ?_; rintro e w' ⟨rfl, hb⟩; (have HB := Lib.hid (HB.out.on hb)); clear hb))
    go_ret
    exact ⟨ret_int (by rw [HC.out]; rfl), HB.out⟩
theorem may_told (c s : Int) : mayBe c s = !(decide (c < 1) || decide (4 < c) || decide (s < 1) || decide (1099511627776 < s)) := by
  rw [Bool.eq_iff_iff, mayBe_iff]
  simp
  omega
set_option maxHeartbeats 800000 in
theorem refCall_any (c : Cl) (w : World) : Calls Tryz.prog 65 #[c.agg] w fun e w' => e = .returned (.int .i64 c.right) ∧ Beh w w' := by
  have HC := Lib.hid (show c.right = if mayBe c.client c.seq = true then c.cmd.right else 1 from rfl)
  have HA := Lib.hid (alloc_here (w := w) c.obj rfl)
  have HB := Lib.hid ((Beh.start w).alloc c.obj)
  have HM := Lib.hid (may_told c.client c.seq)
  have HR := fun w => Lib.hid (refCmd_any c.cmd w)
  obtain ⟨cl, sq, ⟨k0, key, ⟨ok, on, os⟩, ⟨vk, vn, vs⟩⟩⟩ := c
  unfold Cl.obj at HA HB
  dsimp only at HA HB HC HM HR
  cases x1 : decide (cl < 1) <;> cases x2 : decide (4 < cl) <;> cases x3 : decide (sq < 1) <;> cases x4 : decide (1099511627776 < sq)
  all_goals
    rw [x1, x2, x3, x4] at HM
    go_enter Tryz.func65, Tryz.ntmps65
    go_wp2_with (first | (go_at_call 93; refine ((HR _).out).mono ?_; rintro e w' ⟨rfl, hb⟩; (have HB := Lib.hid (HB.out.on hb)); clear hb))
    go_ret
    exact ⟨ret_int (by rw [HC.out, HM.out]; rfl), HB.out⟩
/-- what Last tells -/
def LastTold (S : List Se) (c : Int) (w : World) (e : Ending) (w' : World) : Prop := e = .returned (.tuple #[.int .i64 (lastOf S c).seq, rep (lastOf S c).code (lastOf S c).val]) ∧ Beh w w'
end Go.Proofs.YtlgmjkbaihpmmaaGreat.Ss
end
section
/- The landed Last; the reference's. -/
namespace Go.Proofs.YtlgmjkbaihpmmaaGreat.Ss
open Go Go.RowKit Vl Kv Mem Nm
attribute [local go_sem] run_bits run_frombits run_store_float
theorem results_tmp_cell {fn : Func} {p u : Tmp} {ty : TypeId} (h : fn.results = #[.tmp u, .cell p ty]) (tmps : Array Value) (P : Program) (w : World) :
    (results fn tmps).run P w = ((asAddr (tmps.getD p undef)).run P w).andThen fun a w₁ => ((loadVar ty a).run P w₁).andThen fun v w₂ => .ok (.tuple #[tmps.getD u undef, v]) w₂ := by
  simp only [results, h]
  simp [Sem.run_bind, Result.andThen]
set_option maxHeartbeats 3200000 in
set_option maxRecDepth 100000 in
theorem SLast_any (s : Ms) (m : Ma) (c : Int) (w : World) (h : MaAt w s m) : Calls Tryz.prog 60 #[s.agg m, .int .i64 c] w (LastTold m.sess c w) := by
  have HM0 := Lib.hid (old_alloc (repObj 0 V.zero) (alloc_here (w := w) (s.obj m) rfl))
  have HB0 := Lib.hid (((Beh.start w).alloc (s.obj m)).alloc (repObj 0 V.zero))
  have HR0 : Hid (((w.alloc (s.obj m)).alloc (repObj 0 V.zero)).heap[w.heap.size + 1]? = some (repObj 0 V.zero)) := alloc_here _ (by simp)
  have HSS := Lib.hid h.sess
  obtain ⟨L, S⟩ := m
  obtain ⟨a, cap, a2, cap2⟩ := s
  unfold Ms.obj repObj at HM0 HB0 HR0
  dsimp only at HM0 HB0 HSS HR0
  clear h
  have hmx : S.length ≤ 9223372036854775807 := Nat.le_trans HSS.out.len HSS.out.max
  have HLH : Hid (∀ k, k < S.length → (S.take k).all (fun s => s.client != c) = true → (S.getD k Se.zero).client = c → lastOf S c = S.getD k Se.zero) := fun k => lastOf_here
  have HLN : Hid (S.all (fun s => s.client != c) = true → lastOf S c = Se.zero) := lastOf_none
  unfold LastTold
  dsimp only
  generalize lastOf S c = LO at *
  obtain ⟨oc, os, od, ⟨ok, on, ot⟩⟩ := LO
  obtain ⟨m0, m1⟩ := cells2 HM0.out
  go_enter Tryz.func60, Tryz.ntmps60
  go_wp2_with fail
  clear m0 m1
  obtain ⟨w1, hw1⟩ : ∃ w1, w1 = ((w.alloc (.cells #[.slice a L.length cap, .slice a2 S.length cap2] 25)).alloc (.cells #[.int .i64 0, .int .i64 0, .float .f64 0, .string ⟨#[]⟩] 52)) := ⟨_, rfl⟩
  rw [← hw1] at HM0 HB0 HR0
  try rw [← hw1]
  clear hw1
  go_loopw [7, 11] (fun _ i wr => ∃ k : Nat, k ≤ S.length ∧ i = .int .i64 k ∧ Hid ((S.take k).all (fun s => s.client != c) = true) ∧ Hid (Beh w1 wr)) (fun _ i _ => S.length - (intOf i).toNat)
  case atStart => exact ⟨0, by omega, rfl, rfl, Beh.start _⟩
  case round =>
    obtain ⟨k, hk, rfl, hs, HW⟩ := hrel
    by_cases hlt : k < S.length
    · obtain ⟨b, off, rfl, hc⟩ := (HSS.out.below (HB0.out.trans HW.out)).at_ (by omega)
      obtain ⟨c0, c1, c2, c3, c4, c5⟩ := hc k hlt
      clear hc
      have HN := Lib.hid (fun he => take_all hlt hs.out he)
      have HY := Lib.hid (HLH.out k hlt hs.out)
      generalize S.getD k Se.zero = p at *
      obtain ⟨pc, ps, pd, ⟨vk, vn, vs⟩⟩ := p
      dsimp only at HN HY
      have HB2 := Lib.hid (HB0.out.trans (HW.out.alloc (Se.obj ⟨pc, ps, pd, ⟨vk, vn, vs⟩⟩)))
      have HBX := Lib.hid (HW.out.alloc (Se.obj ⟨pc, ps, pd, ⟨vk, vn, vs⟩⟩))
      unfold Se.obj at HB2 HBX
      obtain ⟨r0, r1, r2, r3⟩ := cells4 (HW.out.box HR0.out)
      have r0a := fun o => cellOn ((Beh.start _).alloc o) r0
      have r1a := fun o => cellOn ((Beh.start _).alloc o) r1
      have r2a := fun o => cellOn ((Beh.start _).alloc o) r2
      have r3a := fun o => cellOn ((Beh.start _).alloc o) r3
      have f0 := frozen_of (old_alloc (.cells #[.int .i64 pc, .int .i64 ps, .int .i64 pd, .int .i64 vk, .float .f64 vn, .string vs] 54) (HW.out.box HR0.out)) 0
      have f1 := frozen_of (old_alloc (.cells #[.int .i64 pc, .int .i64 ps, .int .i64 pd, .int .i64 vk, .float .f64 vn, .string vs] 54) (HW.out.box HR0.out)) 1
      have f2 := frozen_of (old_alloc (.cells #[.int .i64 pc, .int .i64 ps, .int .i64 pd, .int .i64 vk, .float .f64 vn, .string vs] 54) (HW.out.box HR0.out)) 2
      have f3 := frozen_of (old_alloc (.cells #[.int .i64 pc, .int .i64 ps, .int .i64 pd, .int .i64 vk, .float .f64 vn, .string vs] 54) (HW.out.box HR0.out)) 3
      have e0 := frozen_of (HW.out.box HR0.out) 0
      have e1 := frozen_of (HW.out.box HR0.out) 1
      have e2 := frozen_of (HW.out.box HR0.out) 2
      have e3 := frozen_of (HW.out.box HR0.out) 3
      have hlt2 := heap_lt (HW.out.box HR0.out)
      have HBW := Lib.hid (HB0.out.trans HW.out)
      have hne : wr.heap.size ≠ w.heap.size + 1 := by omega
      have hne2 : w.heap.size + 1 ≠ wr.heap.size := by omega
      cases x : (pc == c)
      · have y := x
        rw [x] at HN
        go_wp2_with fail
        go_roundw
        case rel => exact ⟨k + 1, by omega, by go_num, HN.out rfl, HBX.out⟩
        case measure => simp [intOf]; omega
      · have hx : pc = c := by simpa using x
        have he := HY.out hx
        injection he with i1 i2 i3 i4
        injection i4 with i4 i5 i6
        subst i2 i3 i4 i5 i6
        clear i1 hx HY HN
        go_wp2_with fail
        go_region
        all_goals
          go_wp2_with fail
          (try simp only [Exit.inBlock, Exit.then])
          refine bodyPost_ret (v := .tuple #[.int .i64 os, rep od ⟨ok, on, ot⟩]) ?_ rfl ⟨rfl, ?_⟩
          · rw [results_tmp_cell rfl]
            go_simp
          · show Beh w _
            repeat' (first | with_reducible exact HB2.out | with_reducible exact HBW.out | with_reducible refine Beh.set ?_ (by omega) _ _ | with_reducible refine Beh.drew ?_ | with_reducible refine Beh.alloc ?_ _)
    · obtain rfl : k = S.length := by omega
      have hs2 := hs.out
      rw [List.take_length] at hs2
      have he := HLN.out hs2
      injection he with e1 e2 e3 e4
      injection e4 with e4 e5 e6
      subst e2 e3 e4 e5 e6
      clear e1 hs2
      obtain ⟨r0, r1, r2, r3⟩ := cells4 (HW.out.box HR0.out)
      have f0 := frozen_of (HW.out.box HR0.out) 0
      have f1 := frozen_of (HW.out.box HR0.out) 1
      have f2 := frozen_of (HW.out.box HR0.out) 2
      have f3 := frozen_of (HW.out.box HR0.out) 3
      go_wp2_with fail
      (try simp only [Exit.inBlock, Exit.then])
      refine bodyPost_ret (v := .tuple #[.int .i64 0, rep 0 V.zero]) ?_ rfl ⟨rfl, ?_⟩
      · rw [results_tmp_cell rfl]
        go_simp
      · show Beh w _
        have HB2 := Lib.hid (HB0.out.trans HW.out)
        repeat' (first | with_reducible exact HB2.out | with_reducible refine Beh.set ?_ (by omega) _ _ | with_reducible refine Beh.drew ?_ | with_reducible refine Beh.alloc ?_ _)
end Go.Proofs.YtlgmjkbaihpmmaaGreat.Ss
end
section
/- Plain mathematics: what is left behind a read is no longer. No program's function. -/
namespace Go.Proofs.YtlgmjkbaihpmmaaGreat.Ss
open Go Go.RowKit Vl Kv Mem

/-- what is left: no longer, bytes -/
def Rest (l r : List Nat) : Prop := r.length ≤ l.length ∧ B8 r
theorem Rest.trans {a b c : List Nat} (h : Rest a b) (k : Rest b c) : Rest a c := ⟨Nat.le_trans k.1 h.1, k.2⟩
theorem Rest.self {a : List Nat} (h : B8 a) : Rest a a := ⟨Nat.le_refl _, h⟩
theorem Rest.none {a : List Nat} : Rest a [] := ⟨by simp, B8.nil⟩
theorem Rest.ne {a b : List Nat} (h : Rest a b) (hb : b ≠ []) : a ≠ [] := fun e => by
  subst e
  have := h.1
  exact hb (List.eq_nil_of_length_eq_zero (by simpa using this))
theorem intOut_rest {l : List Nat} (h : B8 l) (e : Int) : Rest l (Pk.intOut l e).2.1 := by
  unfold Pk.intOut
  cases hd : Pk.rdInt l with
  | none => exact Rest.none
  | some p =>
    obtain ⟨n, r⟩ := p
    obtain ⟨h1, _⟩ := Pk.rdInt_sound h hd
    refine ⟨?_, fun x hx => h x (by rw [h1]; exact List.mem_append_right _ hx)⟩
    rw [h1, List.length_append]
    show r.length ≤ _
    omega
theorem fltOut_rest {l : List Nat} (h : B8 l) (e : Int) : Rest l (Pk.fltOut l e).2.1 := by
  unfold Pk.fltOut Pk.rdFlt
  split
  · rename_i n r hd
    split at hd
    · cases hd
    · split at hd
      · injection hd with hd
        injection hd with _ hd
        subst hd
        exact ⟨by show (l.drop 8).length ≤ _; rw [List.length_drop]; omega, h.drop _⟩
      · cases hd
  · exact Rest.none
theorem textOut_rest {l : List Nat} (h : B8 l) (e : Int) : Rest l (Pk.textOut l e).2.1 := by
  unfold Pk.textOut Pk.rdText
  cases hd : Pk.rdInt l with
  | none => exact Rest.none
  | some p =>
    obtain ⟨n, r⟩ := p
    obtain ⟨h1, _⟩ := Pk.rdInt_sound h hd
    have hr : Rest l r := ⟨by rw [h1, List.length_append]; omega, fun x hx => h x (by rw [h1]; exact List.mem_append_right _ hx)⟩
    simp only
    split
    · rename_i t r2 hd2
      split at hd2
      · cases hd2
      · split at hd2
        · cases hd2
        · injection hd2 with hd2
          injection hd2 with _ hd2
          subst hd2
          exact hr.trans ⟨by rw [List.length_drop]; omega, hr.2.drop _⟩
    · exact Rest.none
theorem rdV_rest {l : List Nat} (h : B8 l) (e : Int) : Rest l (rdV l e).2.1 := by
  have h1 := intOut_rest h e
  unfold rdV
  split
  · exact h1.trans (fltOut_rest h1.2 _)
  · split
    · exact h1.trans (textOut_rest h1.2 _)
    · exact h1
theorem rdPr_rest {l : List Nat} (h : B8 l) (e : Int) : Rest l (rdPr l e).2.1 := by
  have h1 := textOut_rest h e
  exact h1.trans (rdV_rest h1.2 _)
theorem rdSe_rest {l : List Nat} (h : B8 l) (e : Int) : Rest l (rdSe l e).2.1 := by
  have h1 := intOut_rest h e
  have h2 := h1.trans (intOut_rest h1.2 (Pk.intOut l e).2.2)
  have h3 := h2.trans (intOut_rest h2.2 (Pk.intOut (Pk.intOut l e).2.1 (Pk.intOut l e).2.2).2.2)
  exact h3.trans (rdV_rest h3.2 _)
theorem rdN_rest {α : Type} {f : List Nat → Int → α × List Nat × Int} (hf : ∀ {l : List Nat}, B8 l → ∀ e, Rest l (f l e).2.1) {l : List Nat} (h : B8 l) (e : Int) (n : Nat) : Rest l (rdN f l e n).2.1 := by
  induction n with
  | zero => exact Rest.self h
  | succ n ih => exact ih.trans (hf ih.2 _)
/-- a float that is read is one -/
theorem fltOut_lt {l : List Nat} (h : B8 l) (e : Int) : (Pk.fltOut l e).1 < 18446744073709551616 := by
  unfold Pk.fltOut Pk.rdFlt
  split
  · rename_i n r hd
    split at hd
    · cases hd
    · split at hd
      · injection hd with hd
        injection hd with hd _
        subst hd
        exact (Pk.high8_num8 (l := l.take 8) (by rw [List.length_take]; omega) (h.take 8)).2
      · cases hd
  · show (0 : Nat) < 18446744073709551616; decide
theorem rdV_lt {l : List Nat} (h : B8 l) (e : Int) : (rdV l e).1.num < 18446744073709551616 := by
  have h1 := intOut_rest h e
  unfold rdV
  split
  · exact fltOut_lt h1.2 _
  · split
    · show (0 : Nat) < 18446744073709551616; decide
    · show (0 : Nat) < 18446744073709551616; decide
theorem rdN_all2 {α : Type} {f : List Nat → Int → α × List Nat × Int} {P : α → Prop} (hf : ∀ {l : List Nat}, B8 l → ∀ e, Rest l (f l e).2.1) (hp : ∀ {l : List Nat}, B8 l → ∀ e, P (f l e).1) {l : List Nat} (h : B8 l) (e : Int) (n : Nat) : ∀ a ∈ (rdN f l e n).1, P a := by
  induction n with
  | zero => intro a ha; cases ha
  | succ n ih =>
    intro a ha
    rcases List.mem_append.1 ha with ha | ha
    · exact ih a ha
    · rw [List.mem_singleton] at ha
      subst ha
      exact hp (rdN_rest hf h e n).2 _
theorem readM_fit {l : List Nat} (h : B8 l) : FitM (readM l) := by
  have h1 := intOut_rest h 0
  have h2 := h1.trans (rdN_rest (f := rdPr) (fun h e => rdPr_rest h e) h1.2 (Pk.intOut l 0).2.2 (min (Pk.intOut l 0).1 32).toNat)
  have h3 := h2.trans (intOut_rest h2.2 (rdP l).2.2)
  refine ⟨?_, ?_⟩
  · exact rdN_all2 (P := fun p : Pr => p.val.num < 18446744073709551616) (fun h e => rdPr_rest h e) (fun h e => rdV_lt (textOut_rest h e).2 _) h1.2 _ _
  · refine rdN_all2 (P := fun s : Se => s.val.num < 18446744073709551616) (fun h e => rdSe_rest h e) (fun {l} h e => ?_) h3.2 _ _
    have k1 := intOut_rest h e
    have k2 := k1.trans (intOut_rest k1.2 (Pk.intOut l e).2.2)
    have k3 := k2.trans (intOut_rest k2.2 (Pk.intOut (Pk.intOut l e).2.1 (Pk.intOut l e).2.2).2.2)
    exact rdV_lt k3.2 _
end Go.Proofs.YtlgmjkbaihpmmaaGreat.Ss
end
section
/- The landed readValue. -/
namespace Go.Proofs.YtlgmjkbaihpmmaaGreat.Ss
open Go Go.RowKit Vl Kv Mem Nm
attribute [local go_sem] run_bits run_frombits run_store_float

theorem RAt.seto {w : World} {br bs : Nat} {l : List Nat} {e : Int} (h : Pk.RAt w br bs l e) {b : Nat} (h1 : b ≠ br) (h2 : l ≠ [] → b ≠ bs) (i : Nat) (v : Value) : Pk.RAt (w.setCell ⟨b, i, none⟩ v) br bs l e :=
  h.kept ((Kept.refl (Only b) w).setAt (.inl rfl) i v) (fun e => h1 e.symm) (fun hl e => h2 hl e.symm)
theorem RAt.allo {w : World} {br bs : Nat} {l : List Nat} {e : Int} (h : Pk.RAt w br bs l e) (o : Obj) : Pk.RAt (w.alloc o) br bs l e :=
  h.kept (S := None) ((Kept.refl _ _).alloc _) (fun h => h) (fun _ h => h)
theorem RAt.lt1 {w : World} {br bs : Nat} {l : List Nat} {e : Int} (h : Pk.RAt w br bs l e) : br < w.heap.size := by
  obtain ⟨a, cap, hh, _⟩ := h; exact lt_of_heap hh
theorem RAt.lt2 {w : World} {br bs : Nat} {l : List Nat} {e : Int} (h : Pk.RAt w br bs l e) (hl : l ≠ []) : bs < w.heap.size := by
  obtain ⟨a, cap, _, hs, _⟩ := h; exact hs.lt hl
/-- the blocks that two worlds have: all but one are as they were -/
theorem keptO {br : Nat} {w w' : World} (h : Kept (Only br) w w') {n : Nat} {o : Obj} (hn : w.heap[n]? = some o) (hne : n ≠ br) : w'.heap[n]? = some o := h.heap hn (fun e => hne e)
set_option maxHeartbeats 1600000 in
set_option maxRecDepth 100000 in
theorem readValue_any {wr : World} {br bs : Nat} {l : List Nat} {e : Int} (h : Pk.RAt wr br bs l e) (hl : l.length ≤ 100000) :
    Calls Tryz.prog 55 #[.pointer (some ⟨br, 0, none⟩)] wr fun x w' => x = .returned (rdV l e).1.val ∧ Pk.RAt w' br bs (rdV l e).2.1 (rdV l e).2.2 ∧ Kept (Only br) wr w' := by
  have hb1 := RAt.lt1 h
  have hb2 := Lib.hid (fun hl => RAt.lt2 h hl)
  have h8 := h.len.1
  have hr1 := Lib.hid (intOut_rest h8 e)
  have H0 := Lib.hid (RAt.allo h (.cells #[.int .i64 0, .float .f64 0, .string ⟨#[]⟩] 50))
  have hz0 := alloc_here (w := wr) (.cells #[.int .i64 0, .float .f64 0, .string ⟨#[]⟩] 50) rfl
  have HZ0 := Lib.hid hz0
  have HV := Lib.hid (show rdV l e = (if (Pk.intOut l e).1 = 1 then (⟨(Pk.intOut l e).1, (Pk.fltOut (Pk.intOut l e).2.1 (Pk.intOut l e).2.2).1, ⟨#[]⟩⟩, (Pk.fltOut (Pk.intOut l e).2.1 (Pk.intOut l e).2.2).2)
    else if (Pk.intOut l e).1 = 2 then (⟨(Pk.intOut l e).1, 0, lb (Pk.textOut (Pk.intOut l e).2.1 (Pk.intOut l e).2.2).1⟩, (Pk.textOut (Pk.intOut l e).2.1 (Pk.intOut l e).2.2).2)
    else (⟨(Pk.intOut l e).1, 0, ⟨#[]⟩⟩, (Pk.intOut l e).2)) from rfl)
  clear h h8 hz0
  go_enter Tryz.func55, Tryz.ntmps55
  go_wp2_with fail
  refine (rInt H0.out hl).mono ?_
  rintro x w1 ⟨rfl, h1, k1⟩
  generalize Pk.intOut l e = o at *
  obtain ⟨kd, r1, e1⟩ := o
  dsimp only at h1 hr1 HV
  have H1 := Lib.hid h1
  have hs1 : wr.heap.size < w1.heap.size := by have := k1.size; simp at this; omega
  have HZ1 := Lib.hid (keptO k1 HZ0.out (by omega))
  have HK1 : Hid (Kept (Only br) wr w1) := ((Kept.refl (Only br) wr).alloc _).trans k1
  have HN := Lib.hid (alloc_here (w := w1) (.cells #[.int .i64 kd, .float .f64 0, .string ⟨#[]⟩] 50) rfl)
  have HK2 := Lib.hid (HK1.out.alloc (.cells #[.int .i64 kd, .float .f64 0, .string ⟨#[]⟩] 50))
  have H2 := Lib.hid (RAt.allo h1 (.cells #[.int .i64 kd, .float .f64 0, .string ⟨#[]⟩] 50))
  have HZ2 := Lib.hid (old_alloc (.cells #[.int .i64 kd, .float .f64 0, .string ⟨#[]⟩] 50) HZ1.out)
  have hl1 : r1.length ≤ 100000 := Nat.le_trans hr1.out.1 hl
  clear h1 k1 HZ0 H0
  by_cases e1k : kd = 1
  · have b1 : (kd == 1) = true := by rw [e1k]; rfl
    have HR := Lib.hid (HV.out.trans (if_pos e1k))
    have hr2 := Lib.hid (hr1.out.trans (fltOut_rest hr1.out.2 e1))
    clear HV e1k
    go_wp2_with fail
    refine (rFloat H2.out).mono ?_
    rintro x w2 ⟨rfl, h2, k2⟩
    generalize Pk.fltOut r1 e1 = o2 at *
    obtain ⟨x2, r2, e2⟩ := o2
    dsimp only at h2 hr2
    have HZ3 := Lib.hid (keptO k2 HZ2.out (by omega))
    have HN3 := Lib.hid (keptO k2 HN.out (by omega))
    have HK3 := Lib.hid (HK2.out.trans k2)
    have H3 := Lib.hid h2
    have hs2 : w1.heap.size < w2.heap.size := lt_of_heap HN3.out
    obtain ⟨n0, n1, n2, f0, f1, f2⟩ := cells3 HN3.out
    obtain ⟨z0, z1, z2, g0, g1, g2⟩ := cells3 HZ3.out
    clear h2 k2
    have hne : w1.heap.size ≠ wr.heap.size := by omega
    go_wp2_with fail
    (try simp only [Exit.inBlock, Exit.then])
    refine bodyPost_ret (v := (V.mk kd x2 ⟨#[]⟩).val) ?_ rfl ⟨by rw [HR.out], ?_, ?_⟩
    · rw [results_cell_one rfl]
      go_simp
    · rw [HR.out]
      have hx : ∀ {b : Nat}, wr.heap.size ≤ b → r2 ≠ [] → b ≠ bs := fun hb hl e => by
        have := hb2.out (hr2.out.ne hl); omega
      exact RAt.seto (RAt.seto (RAt.seto (RAt.seto H3.out (by omega) (hx (by omega)) _ _) (by omega) (hx (by omega)) _ _) (by omega) (hx (by omega)) _ _) (by omega) (hx (by omega)) _ _
    · exact (((HK3.out.setAt (.inr (by omega)) _ _).setAt (.inr (by omega)) _ _).setAt (.inr (by omega)) _ _).setAt (.inr (by omega)) _ _
  · have b1 : (kd == 1) = false := int_nbeq e1k
    have HR1 := Lib.hid (HV.out.trans (if_neg e1k))
    clear HV e1k
    by_cases e2k : kd = 2
    · have b2 : (kd == 2) = true := by rw [e2k]; rfl
      have HR := Lib.hid (HR1.out.trans (if_pos e2k))
      clear HR1
      have hr2 := Lib.hid (hr1.out.trans (textOut_rest hr1.out.2 e1))
      clear e2k
      go_wp2_with fail
      refine (rText H2.out hl1).mono ?_
      rintro x w2 ⟨bt, at_, ct, rfl, ho, h2, k2⟩
      generalize Pk.textOut r1 e1 = o2 at *
      obtain ⟨x2, r2, e2⟩ := o2
      dsimp only at h2 hr2 ho
      have kc := run_lb w2 bt at_ ct _ x2 rfl ho
      have HZ3 := Lib.hid (keptO k2 HZ2.out (by omega))
      have HN3 := Lib.hid (keptO k2 HN.out (by omega))
      have HK3 := Lib.hid (HK2.out.trans k2)
      have H3 := Lib.hid h2
      have hs2 : w1.heap.size < w2.heap.size := lt_of_heap HN3.out
      obtain ⟨n0, n1, n2, f0, f1, f2⟩ := cells3 HN3.out
      obtain ⟨z0, z1, z2, g0, g1, g2⟩ := cells3 HZ3.out
      clear h2 k2 ho
      have hne : w1.heap.size ≠ wr.heap.size := by omega
      go_wp2_with fail
      (try simp only [Exit.inBlock, Exit.then])
      refine bodyPost_ret (v := (V.mk kd 0 (lb x2)).val) ?_ rfl ⟨by rw [HR.out], ?_, ?_⟩
      · rw [results_cell_one rfl]
        go_simp
      · rw [HR.out]
        have hx : ∀ {b : Nat}, wr.heap.size ≤ b → r2 ≠ [] → b ≠ bs := fun hb hl e => by
          have := hb2.out (hr2.out.ne hl); omega
        exact RAt.seto (RAt.seto (RAt.seto (RAt.seto H3.out (by omega) (hx (by omega)) _ _) (by omega) (hx (by omega)) _ _) (by omega) (hx (by omega)) _ _) (by omega) (hx (by omega)) _ _
      · exact (((HK3.out.setAt (.inr (by omega)) _ _).setAt (.inr (by omega)) _ _).setAt (.inr (by omega)) _ _).setAt (.inr (by omega)) _ _
    · have b2 : (kd == 2) = false := int_nbeq e2k
      have HR := Lib.hid (HR1.out.trans (if_neg e2k))
      clear HR1
      clear e2k
      obtain ⟨z0, z1, z2, g0, g1, g2⟩ := cells3 HZ1.out
      have hne : w1.heap.size ≠ wr.heap.size := by omega
      have hne2 : wr.heap.size ≠ w1.heap.size := by omega
      go_wp2_with fail
      (try simp only [Exit.inBlock, Exit.then])
      refine bodyPost_ret (v := (V.mk kd 0 ⟨#[]⟩).val) ?_ rfl ⟨by rw [HR.out], ?_, ?_⟩
      · rw [results_cell_one rfl]
        go_simp
      · rw [HR.out]
        have hx : ∀ {b : Nat}, wr.heap.size ≤ b → r1 ≠ [] → b ≠ bs := fun hb hl e => by
          have := hb2.out (hr1.out.ne hl); omega
        exact RAt.allo (RAt.seto (RAt.seto (RAt.seto H1.out (by omega) (hx (by omega)) _ _) (by omega) (hx (by omega)) _ _) (by omega) (hx (by omega)) _ _) _
      · exact (((HK1.out.setAt (.inr (by omega)) _ _).setAt (.inr (by omega)) _ _).setAt (.inr (by omega)) _ _).alloc _
end Go.Proofs.YtlgmjkbaihpmmaaGreat.Ss
end
section
/- The landed read. -/
namespace Go.Proofs.YtlgmjkbaihpmmaaGreat.Ss
open Go Go.RowKit Vl Kv Mem Nm
attribute [local go_sem] run_bits run_frombits run_store_float

theorem step_append_cells {P : Program} {w : World} {ops : Array Oper} {o : Oper} {a : Act} {K : Act → World → Prop} {Q : Exit → Act → World → Prop} {E : Prop} (hgd : o.guard = none) (s x : Operand) (t : TypeId)
    (ho : o.op = .call { callee := .builtin .append, args := #[s, x], argTypes := #[t, t] })
    (e : TypeId) (k : Nat) (i : TypeInfo) (z : Value) (by_ : Nat) (ht : P.underlying t = some (.slice e)) (hi : P.info? e = some i) (hz : i.zero = some z) (hsize : i.size = k) (hby : i.bytes = by_) (hzs : z.cells.size = k)
    (b : Nat) (ao : Option Addr) (cap n : Nat) (cs : List Value) (hs : a.eval s = .slice ao n cap) (own : OwnC e k w b ao cap n cs)
    (a2 : Option Addr) (cap2 m : Nat) (ds : List Value) (hx : a.eval x = .slice a2 m cap2) (hsh : SrcC k w a2 cap2 m ds) (h1c : ∀ u ∈ ds, u.oneCell' = true) (hle : (n + m) * by_ ≤ 70368744177664) (hle2 : n + m ≤ 70368744177664)
    (h : ∀ b' a' cap' w', OwnC e k w' b' a' cap' (n + m) (cs ++ ds) → Kept (Of ao b) w w' → ((b' = b ∧ (a' = none ∨ ao ≠ none)) ∨ w.heap.size ≤ b') → (a' = none ↔ ao = none ∧ m = 0) → K (a.put o.dst (.slice a' (n + m) cap')) w') :
    if Region.wanted o (yielded ops a.tmps) = true then Oper.wp P o a w K Q else E := by
  have hw : Region.wanted o (yielded ops a.tmps) = true := by simp [Region.wanted, hgd]
  rw [if_pos hw]
  exact wp_append_cells s x t ho e k i z by_ ht hi hz hsize hby hzs b ao cap n cs hs own a2 cap2 m ds hx hsh h1c hle hle2 h
theorem RAt.heap {w w' : World} {br bs : Nat} {r : List Nat} {e : Int} (h : Pk.RAt w br bs r e) (hw : w'.heap = w.heap) : Pk.RAt w' br bs r e := by
  obtain ⟨a, cap, hh, hs, h3⟩ := h
  exact ⟨a, cap, by rw [hw]; exact hh, hs.heap hw, h3⟩
theorem one_sess {w : World} {b : Nat} {s : Se} (h : w.heap[b]? = some s.obj) : SessAt w (some ⟨b, 0, none⟩) 1 [s] := by
  refine ⟨Nat.le_refl 1, by omega, fun e => (by cases e), fun _ => ⟨b, 0, rfl, fun i hi => ?_⟩⟩
  obtain rfl : i = 0 := by simpa using hi
  obtain ⟨c0, c1, c2, c3, c4, c5⟩ := cells6 h
  exact ⟨c0, c1, c2, c3, c4, c5⟩
/-- a machine that is being read -/
structure RdS (w wr : World) (br bs : Nat) (r : List Nat) (e : Int) (P : List Pr) (S : List Se) (s : Ms) (bp bq : Nat) : Prop where
  rd : Pk.RAt wr br bs r e
  kept : Kept (Only br) w wr
  mbox : wr.heap[w.heap.size + 1]? = some (.cells #[.slice s.a P.length s.cap, .slice s.a2 S.length s.cap2] 25)
  zbox : wr.heap[w.heap.size]? = some (.cells #[.slice none 0 0, .slice none 0 0] 25)
  op : OwnP 61 wr bp s.a s.cap P
  oq : OwnS 54 wr bq s.a2 s.cap2 S
  lo1 : s.a ≠ none → w.heap.size + 2 ≤ bp
  lo2 : s.a2 ≠ none → w.heap.size + 2 ≤ bq
  ne : s.a ≠ none → s.a2 ≠ none → bp ≠ bq
  lbr : br < w.heap.size
  lbs : r ≠ [] → bs < w.heap.size
theorem RdS.len {w wr : World} {br bs : Nat} {r : List Nat} {e : Int} {P : List Pr} {S : List Se} {s : Ms} {bp bq : Nat} (h : RdS w wr br bs r e P S s bp bq) : w.heap.size + 1 < wr.heap.size := lt_of_heap h.mbox
theorem RdS.call {w wr w' : World} {br bs : Nat} {r r' : List Nat} {e e' : Int} {P : List Pr} {S : List Se} {s : Ms} {bp bq : Nat} (h : RdS w wr br bs r e P S s bp bq) (hr : Pk.RAt w' br bs r' e') (hk : Kept (Only br) wr w') (hn : Rest r r') : RdS w w' br bs r' e' P S s bp bq := by
  have hb := h.lbr
  exact ⟨hr, h.kept.trans hk, keptO hk h.mbox (by omega), keptO hk h.zbox (by omega), h.op.kept hk (fun ha e => by have := h.lo1 ha; have e : bp = br := e; omega), h.oq.kept hk (fun ha e => by have := h.lo2 ha; have e : bq = br := e; omega), h.lo1, h.lo2, h.ne, h.lbr, fun hr' => h.lbs (hn.ne hr')⟩
theorem RdS.on {w wr w' : World} {br bs : Nat} {r : List Nat} {e : Int} {P : List Pr} {S : List Se} {s : Ms} {bp bq : Nat} (h : RdS w wr br bs r e P S s bp bq) (hk : Kept None wr w') : RdS w w' br bs r e P S s bp bq :=
  h.call (h.rd.kept hk (fun h => h) (fun _ h => h)) hk.ofNone (Rest.self h.rd.len.1)
theorem RdS.pair {w wr w' : World} {br bs b' cap' : Nat} {r : List Nat} {e : Int} {P : List Pr} {S : List Se} {s : Ms} {bp bq : Nat} {a' : Option Addr} {p : Pr} (h : RdS w wr br bs r e P S s bp bq)
    (h2 : OwnC 61 4 w' b' a' cap' (P.length + 1) (flat P ++ flat [p])) (h3 : Kept (Of s.a bp) wr w') (h4 : (b' = bp ∧ (a' = none ∨ s.a ≠ none)) ∨ wr.heap.size ≤ b') :
    RdS w (w'.setCell ⟨w.heap.size + 1, 0, none⟩ (.slice a' (P.length + 1) cap')) br bs r e (P ++ [p]) S ⟨a', cap', s.a2, s.cap2⟩ b' bq := by
  have hb := h.lbr
  have hlen := h.len
  have hof : ∀ k, Of s.a bp k → w.heap.size + 2 ≤ k := fun k hk => by have h1 := h.lo1 hk.1; have h2 := hk.2; omega
  have hm : w'.heap[w.heap.size + 1]? = _ := h3.heap h.mbox (fun e => by have := hof _ e; omega)
  have hset : Kept (Only (w.heap.size + 1)) w' (w'.setCell ⟨w.heap.size + 1, 0, none⟩ (.slice a' (P.length + 1) cap')) := (Kept.refl (Only (w.heap.size + 1)) w').setAt (.inl rfl) _ _
  have hblo : a' ≠ none → w.heap.size + 2 ≤ b' := fun ha => by
    rcases h4 with ⟨rfl, h4⟩ | h4
    · exact h.lo1 (h4.resolve_left ha)
    · omega
  refine ⟨RAt.seto (h.rd.kept h3 (fun e => by have := hof _ e; omega) (fun hr e => by have := hof _ e; have := h.lbs hr; omega)) (by omega) (fun hr => by have := h.lbs hr; omega) _ _, (h.kept.trans' h3 (fun x hx => .inr (by have := hof _ hx; omega))).setAt (.inr (by omega)) _ _, ?_, ?_, ?_, ?_, hblo, h.lo2, ?_, h.lbr, h.lbs⟩
  · have := heap_setc (b := w.heap.size + 1) (i := 0) (v := .slice a' (P.length + 1) cap') hm
    rw [this]
    simp
  · exact hset.heap (h3.heap h.zbox (fun e => by have := hof _ e; omega)) (fun e => by have e : w.heap.size = w.heap.size + 1 := e; omega)
  · have := OwnC.kept h2 hset (fun ha e => by have := hblo ha; have e : b' = w.heap.size + 1 := e; omega)
    show OwnC _ 4 _ b' a' cap' (P ++ [p]).length (flat (P ++ [p]))
    rw [List.length_append, flat_append]
    exact this
  · exact OwnC.kept (OwnC.kept h.oq h3 (fun ha e => by have e2 := e.2; exact (h.ne e.1 ha) e2.symm)) hset (fun ha e => by have := h.lo2 ha; have e : bq = w.heap.size + 1 := e; omega)
  · intro ha ha2 e
    rcases h4 with ⟨rfl, h4⟩ | h4
    · exact h.ne (h4.resolve_left ha) ha2 e
    · have := OwnC.lt h.oq ha2
      omega
theorem RdS.sess {w wr w' : World} {br bs b' cap' : Nat} {r : List Nat} {e : Int} {P : List Pr} {S : List Se} {s : Ms} {bp bq : Nat} {a' : Option Addr} {p : Se} (h : RdS w wr br bs r e P S s bp bq)
    (h2 : OwnC 54 6 w' b' a' cap' (S.length + 1) (flatS S ++ flatS [p])) (h3 : Kept (Of s.a2 bq) wr w') (h4 : (b' = bq ∧ (a' = none ∨ s.a2 ≠ none)) ∨ wr.heap.size ≤ b') :
    RdS w (w'.setCell ⟨w.heap.size + 1, 1, none⟩ (.slice a' (S.length + 1) cap')) br bs r e P (S ++ [p]) ⟨s.a, s.cap, a', cap'⟩ bp b' := by
  have hb := h.lbr
  have hlen := h.len
  have hof : ∀ k, Of s.a2 bq k → w.heap.size + 2 ≤ k := fun k hk => by have h1 := h.lo2 hk.1; have h2 := hk.2; omega
  have hm : w'.heap[w.heap.size + 1]? = _ := h3.heap h.mbox (fun e => by have := hof _ e; omega)
  have hset : Kept (Only (w.heap.size + 1)) w' (w'.setCell ⟨w.heap.size + 1, 1, none⟩ (.slice a' (S.length + 1) cap')) := (Kept.refl (Only (w.heap.size + 1)) w').setAt (.inl rfl) _ _
  have hblo : a' ≠ none → w.heap.size + 2 ≤ b' := fun ha => by
    rcases h4 with ⟨rfl, h4⟩ | h4
    · exact h.lo2 (h4.resolve_left ha)
    · omega
  refine ⟨RAt.seto (h.rd.kept h3 (fun e => by have := hof _ e; omega) (fun hr e => by have := hof _ e; have := h.lbs hr; omega)) (by omega) (fun hr => by have := h.lbs hr; omega) _ _, (h.kept.trans' h3 (fun x hx => .inr (by have := hof _ hx; omega))).setAt (.inr (by omega)) _ _, ?_, ?_, ?_, ?_, h.lo1, hblo, ?_, h.lbr, h.lbs⟩
  · have := heap_setc (b := w.heap.size + 1) (i := 1) (v := .slice a' (S.length + 1) cap') hm
    rw [this]
    simp
  · exact hset.heap (h3.heap h.zbox (fun e => by have := hof _ e; omega)) (fun e => by have e : w.heap.size = w.heap.size + 1 := e; omega)
  · exact OwnC.kept (OwnC.kept h.op h3 (fun ha e => by have e2 := e.2; exact (h.ne ha e.1) e2)) hset (fun ha e => by have := h.lo1 ha; have e : bp = w.heap.size + 1 := e; omega)
  · have := OwnC.kept h2 hset (fun ha e => by have := hblo ha; have e : b' = w.heap.size + 1 := e; omega)
    show OwnC _ 6 _ b' a' cap' (S ++ [p]).length (flatS (S ++ [p]))
    rw [List.length_append, flatS_append]
    exact this
  · intro ha ha2 e
    rcases h4 with ⟨rfl, h4⟩ | h4
    · exact h.ne ha (h4.resolve_left ha2) e
    · have := OwnC.lt h.op ha
      omega
end Go.Proofs.YtlgmjkbaihpmmaaGreat.Ss
end
section
/- The landed read, walked. -/
namespace Go.Proofs.YtlgmjkbaihpmmaaGreat.Ss
open Go Go.RowKit Vl Kv Mem Nm
attribute [local go_sem] run_bits run_frombits run_store_float

/-- a machine in memory of its own -/
structure MadeM (w w' : World) (s : Ms) (m : Ma) (bp bq : Nat) : Prop where
  op : OwnP 61 w' bp s.a s.cap m.pairs
  oq : OwnS 54 w' bq s.a2 s.cap2 m.sess
  lo1 : s.a ≠ none → w.heap.size ≤ bp
  lo2 : s.a2 ≠ none → w.heap.size ≤ bq
  ne : s.a ≠ none → s.a2 ≠ none → bp ≠ bq
theorem MadeM.at_ {w w' : World} {s : Ms} {m : Ma} {bp bq : Nat} (h : MadeM w w' s m bp bq) : MaAt w' s m := ⟨OwnP.pairs h.op, OwnS.sess h.oq⟩
theorem RdS.seto {w wr wr0 : World} {br bs n5 : Nat} {r r0 : List Nat} {e e0 : Int} {P : List Pr} {S : List Se} {s : Ms} {bp bq : Nat} (h : RdS w wr br bs r e P S s bp bq) (h0 : RdS w wr0 br bs r0 e0 P S s bp bq) (hn : wr0.heap.size ≤ n5) (i : Nat) (v : Value) :
    RdS w (wr.setCell ⟨n5, i, none⟩ v) br bs r e P S s bp bq := by
  have hl0 := h0.len
  have hb := h.lbr
  have hset : Kept (Only n5) wr (wr.setCell ⟨n5, i, none⟩ v) := (Kept.refl (Only n5) wr).setAt (.inl rfl) _ _
  refine ⟨RAt.seto h.rd (by omega) (fun hr => by have := h.lbs hr; omega) _ _, h.kept.setAt (.inr (by omega)) _ _, hset.heap h.mbox (fun e => by have e : w.heap.size + 1 = n5 := e; omega), hset.heap h.zbox (fun e => by have e : w.heap.size = n5 := e; omega), OwnC.kept h.op hset (fun ha e => ?_), OwnC.kept h.oq hset (fun ha e => ?_), h.lo1, h.lo2, h.ne, h.lbr, h.lbs⟩
  · have e : bp = n5 := e; have := OwnC.lt h0.op ha; omega
  · have e : bq = n5 := e; have := OwnC.lt h0.oq ha; omega
theorem RdS.start {w : World} {br bs : Nat} {l : List Nat} {e : Int} (h : Pk.RAt w br bs l e) :
    RdS w ((w.alloc (.cells #[.slice none 0 0, .slice none 0 0] 25)).alloc (.cells #[.slice none 0 0, .slice none 0 0] 25)) br bs l e [] [] Ms.zero 0 0 :=
  ⟨RAt.allo (RAt.allo h _) _, ((Kept.refl _ _).alloc _).alloc _, alloc_here _ (by simp), old_alloc _ (alloc_here _ rfl), OwnC.nil _ _ _ _, OwnC.nil _ _ _ _, fun h => absurd rfl h, fun h => absurd rfl h, fun h => absurd rfl h, RAt.lt1 h, fun hl => RAt.lt2 h hl⟩
set_option maxHeartbeats 6400000 in
set_option maxRecDepth 100000 in
theorem read_any {w : World} {br bs : Nat} {l : List Nat} (h : Pk.RAt w br bs l 0) (hl : l.length ≤ 100000) :
    Calls Tryz.prog 30 #[.pointer (some ⟨br, 0, none⟩)] w fun x w' => ∃ (s : Ms) (bp bq : Nat), x = .returned (s.agg (readM l)) ∧ MadeM w w' s (readM l) bp bq ∧ Kept (Only br) w w' := by
  have HS := Lib.hid (RdS.start h)
  have h8 := h.len.1
  have hr1 := Lib.hid (intOut_rest h8 0)
  have HP := Lib.hid (show rdP l = rdN rdPr (Pk.intOut l 0).2.1 (Pk.intOut l 0).2.2 (min (Pk.intOut l 0).1 32).toNat from rfl)
  have HRM : Hid (∀ A B, rdP l = A → rdS A.2.1 A.2.2 = B → readM l = ⟨A.1, B.1⟩) := fun A B hA hB => by unfold readM; rw [hA, hB]
  clear h h8
  go_enter Tryz.func30, Tryz.ntmps30
  go_wp2_with fail
  refine (rInt HS.out.rd hl).mono ?_
  rintro x w1 ⟨rfl, h1, k1⟩
  have HS := Lib.hid (HS.out.call h1 k1 hr1.out)
  clear h1 k1
  generalize Pk.intOut l 0 = o at *
  obtain ⟨n, r1, e1⟩ := o
  dsimp only at HS hr1 HP
  obtain ⟨N, hN⟩ : ∃ N, (min n 32).toNat = N := ⟨_, rfl⟩
  rw [hN] at HP
  have hNk : ∀ k : Nat, ((k : Int) < min n 32) ↔ k < N := fun k => by omega
  have HNK := Lib.hid hNk
  have hN32 : N ≤ 32 := by omega
  clear hN hNk
  go_wp2_with fail
  go_loopw [4, 9] (fun _ i wr => ∃ (k : Nat) (s : Ms) (bp bq : Nat), k ≤ N ∧ i = .int .i64 k ∧ Hid (RdS w wr br bs (rdN rdPr r1 e1 k).2.1 (rdN rdPr r1 e1 k).2.2 (rdN rdPr r1 e1 k).1 [] s bp bq)) (fun _ i _ => N - (intOf i).toNat)
  case atStart => exact ⟨0, Ms.zero, 0, 0, by omega, rfl, HS.out⟩
  case round =>
    clear HS
    obtain ⟨k, s, bp, bq, hk, rfl, HS⟩ := hrel
    have hr1' := rdN_rest (f := rdPr) (fun h e => rdPr_rest h e) hr1.out.2 e1 k
    have hlen : (rdN rdPr r1 e1 k).2.1.length ≤ 100000 := Nat.le_trans hr1'.1 (Nat.le_trans hr1.out.1 hl)
    have hrk := Lib.hid hr1'
    clear hr1'
    by_cases hlt : k < N
    · have d1 : decide ((k : Int) < min n 32) = true := decide_eq_true ((HNK.out k).2 hlt)
      have hPl := rdN_length rdPr r1 e1 k
      have HT := Lib.hid (show rdN rdPr r1 e1 (k + 1) = ((rdN rdPr r1 e1 k).1 ++ [⟨lb (Pk.textOut (rdN rdPr r1 e1 k).2.1 (rdN rdPr r1 e1 k).2.2).1, (rdV (Pk.textOut (rdN rdPr r1 e1 k).2.1 (rdN rdPr r1 e1 k).2.2).2.1 (Pk.textOut (rdN rdPr r1 e1 k).2.1 (rdN rdPr r1 e1 k).2.2).2.2).1⟩], (rdV (Pk.textOut (rdN rdPr r1 e1 k).2.1 (rdN rdPr r1 e1 k).2.2).2.1 (Pk.textOut (rdN rdPr r1 e1 k).2.1 (rdN rdPr r1 e1 k).2.2).2.2).2) from rfl)
      generalize rdN rdPr r1 e1 k = st at *
      obtain ⟨P, r, e⟩ := st
      dsimp only at HS hlen hrk hPl HT
      have hP32 : P.length ≤ 32 := by omega
      clear hPl
      have hr2 := Lib.hid (textOut_rest hrk.out.2 e)
      go_wp2_with fail
      refine (rText HS.out.rd hlen).mono ?_
      rintro x w2 ⟨bt, at_, ct, rfl, ho, h2, k2⟩
      have HS2 := Lib.hid (HS.out.call h2 k2 hr2.out)
      clear h2 k2
      generalize Pk.textOut r e = o2 at *
      obtain ⟨t, r2, e2⟩ := o2
      dsimp only at HS2 hr2 ho HT
      have kc := run_lb w2 bt at_ ct _ t rfl ho
      clear ho
      have hlen2 : r2.length ≤ 100000 := Nat.le_trans hr2.out.1 hlen
      have HRV : Hid (∀ v : World, v.heap = w2.heap → Calls Tryz.prog 55 #[.pointer (some ⟨br, 0, none⟩)] v fun x w' => x = .returned (rdV r2 e2).1.val ∧ Pk.RAt w' br bs (rdV r2 e2).2.1 (rdV r2 e2).2.2 ∧ Kept (Only br) v w') := fun v hv => readValue_any (RAt.heap HS2.out.rd hv) hlen2
      have hr3 := Lib.hid (rdV_rest hr2.out.2 e2)
      generalize rdV r2 e2 = o3 at *
      obtain ⟨⟨vk, vn, vs⟩, r3, e3⟩ := o3
      dsimp only at hr3 HRV HT
      obtain ⟨m0, m1⟩ := cells2 HS2.out.mbox
      go_wp2_with fail
      go_region_law ((first
        | (go_simp; go_at_call 55; refine Calls.mono (HRV.out _ (by exact rfl)) ?_; rintro x w3 ⟨rfl, h3, k3⟩; (have HS3 := Lib.hid (HS2.out.call h3 (k3.heap2 (v := w2) rfl rfl rfl rfl) hr3.out)); (obtain ⟨d0, d1'⟩ := cells2 HS3.out.mbox); (have d0a := fun o => cellOn ((Beh.start _).alloc o) d0); clear h3 k3)
        | (refine step_append_cells rfl (.tmp 15) (.tmp 20) 22 rfl 61 4 _ _ 48 Tryz.underlying22 rfl rfl rfl rfl rfl bp s.a s.cap P.length (flat P) (by simp [Act.eval]) (OwnC.kept HS3.out.op ((Kept.refl Mem.None _).alloc _) (fun _ h => h)) _ 1 1 _ (by simp [Act.eval]) (one_pair (p := ⟨lb t, ⟨vk, vn, vs⟩⟩) (alloc_here _ rfl)).src flat_one (by omega) (by omega) ?_; intro b' a' cap' w5 h2 h3 h4 h5; (have HP5 := Lib.hid ((HS3.out.on ((Kept.refl Mem.None _).alloc _)).pair h2 h3 h4)); (have HM5 := Lib.hid (h3.heap (old_alloc _ HS3.out.mbox) (fun e => by have := HS3.out.lo1 e.1; have := e.2; omega))); (obtain ⟨q0, q1⟩ := cells2 HM5.out); (have f0 := frozen_of HM5.out 0); clear h2 h3 h4 h5)))
      all_goals
        go_wp2_with fail
        go_roundw
        all_goals first
          | exact ⟨k + 1, ⟨a', cap', s.a2, s.cap2⟩, b', bq, by omega, by go_num, by show RdS _ _ _ _ _ _ _ _ _ _ _; rw [HT.out]; exact HP5.out⟩
          | (simp [intOf]; omega)
    · obtain rfl : k = N := by omega
      have d1 : decide ((k : Int) < min n 32) = false := decide_eq_false (fun h => hlt ((HNK.out k).1 h))
      have HS := Lib.hid (show RdS w wr br bs (rdP l).2.1 (rdP l).2.2 (rdP l).1 [] s bp bq by rw [HP.out]; exact HS.out)
      rw [← HP.out] at hlen
      have hrk := Lib.hid (show Rest r1 (rdP l).2.1 by rw [HP.out]; exact hrk.out)
      have hP32 : (rdP l).1.length ≤ 32 := by rw [HP.out, rdN_length]; omega
      clear HP HNK hN32 hlt hk
      generalize hA : rdP l = A at *
      have HR2 : Hid (∀ B, rdS A.2.1 A.2.2 = B → readM l = ⟨A.1, B.1⟩) := fun B hB => HRM.out A B rfl hB
      clear HRM hA
      obtain ⟨P, r, e⟩ := A
      dsimp only at HS hlen hrk hP32 HR2
      have hr2 := Lib.hid (intOut_rest hrk.out.2 e)
      have HPS := Lib.hid (show rdS r e = rdN rdSe (Pk.intOut r e).2.1 (Pk.intOut r e).2.2 (min (Pk.intOut r e).1 4).toNat from rfl)
      go_wp2_with fail
      refine (rInt HS.out.rd hlen).mono ?_
      rintro x w3 ⟨rfl, h1, k1⟩
      have HS := Lib.hid (HS.out.call h1 k1 hr2.out)
      clear h1 k1
      generalize Pk.intOut r e = o at *
      obtain ⟨n2, r2, e2⟩ := o
      dsimp only at HS hr2 HPS
      obtain ⟨N2, hN2⟩ : ∃ N2, (min n2 4).toNat = N2 := ⟨_, rfl⟩
      rw [hN2] at HPS
      have hNk : ∀ k : Nat, ((k : Int) < min n2 4) ↔ k < N2 := fun k => by omega
      have HNK := Lib.hid hNk
      have hN4 : N2 ≤ 4 := by omega
      clear hN2 hNk
      have hl2 : r2.length ≤ 100000 := Nat.le_trans hr2.out.1 hlen
      go_wp2_with fail
      go_loopw [5, 27] (fun _ i wr => ∃ (k : Nat) (s : Ms) (bp bq : Nat), k ≤ N2 ∧ i = .int .i64 k ∧ Hid (RdS w wr br bs (rdN rdSe r2 e2 k).2.1 (rdN rdSe r2 e2 k).2.2 P (rdN rdSe r2 e2 k).1 s bp bq)) (fun _ i _ => N2 - (intOf i).toNat)
      case atStart => exact ⟨0, s, bp, bq, by omega, rfl, HS.out⟩
      case round =>
        clear HS
        obtain ⟨k, s, bp, bq, hk, rfl, HS⟩ := hrel
        have hr1' := rdN_rest (f := rdSe) (fun h e => rdSe_rest h e) hr2.out.2 e2 k
        have hlen : (rdN rdSe r2 e2 k).2.1.length ≤ 100000 := Nat.le_trans hr1'.1 hl2
        have hrk := Lib.hid hr1'
        clear hr1'
        by_cases hlt : k < N2
        · have d1 : decide ((k : Int) < min n2 4) = true := decide_eq_true ((HNK.out k).2 hlt)
          have hSl := rdN_length rdSe r2 e2 k
          have HT := Lib.hid (show rdN rdSe r2 e2 (k + 1) = ((rdN rdSe r2 e2 k).1 ++ [(rdSe (rdN rdSe r2 e2 k).2.1 (rdN rdSe r2 e2 k).2.2).1], (rdSe (rdN rdSe r2 e2 k).2.1 (rdN rdSe r2 e2 k).2.2).2) from rfl)
          generalize rdN rdSe r2 e2 k = st at *
          obtain ⟨S, r, e⟩ := st
          dsimp only at HS hlen hrk hSl HT
          have hS4 : S.length ≤ 4 := by omega
          clear hSl
          have HTS := Lib.hid (show rdSe r e = (⟨(Pk.intOut r e).1, (Pk.intOut (Pk.intOut r e).2.1 (Pk.intOut r e).2.2).1, (Pk.intOut (Pk.intOut (Pk.intOut r e).2.1 (Pk.intOut r e).2.2).2.1 (Pk.intOut (Pk.intOut r e).2.1 (Pk.intOut r e).2.2).2.2).1, (rdV (Pk.intOut (Pk.intOut (Pk.intOut r e).2.1 (Pk.intOut r e).2.2).2.1 (Pk.intOut (Pk.intOut r e).2.1 (Pk.intOut r e).2.2).2.2).2.1 (Pk.intOut (Pk.intOut (Pk.intOut r e).2.1 (Pk.intOut r e).2.2).2.1 (Pk.intOut (Pk.intOut r e).2.1 (Pk.intOut r e).2.2).2.2).2.2).1⟩, (rdV (Pk.intOut (Pk.intOut (Pk.intOut r e).2.1 (Pk.intOut r e).2.2).2.1 (Pk.intOut (Pk.intOut r e).2.1 (Pk.intOut r e).2.2).2.2).2.1 (Pk.intOut (Pk.intOut (Pk.intOut r e).2.1 (Pk.intOut r e).2.2).2.1 (Pk.intOut (Pk.intOut r e).2.1 (Pk.intOut r e).2.2).2.2).2.2).2) from rfl)
          generalize rdSe r e = RS at *
          have hr3 := Lib.hid (intOut_rest hrk.out.2 e)
          go_wp2_with fail
          refine (rInt HS.out.rd hlen).mono ?_
          rintro x w3 ⟨rfl, h1, k1⟩
          have HS3 := Lib.hid (HS.out.call h1 k1 hr3.out)
          clear h1 k1
          generalize Pk.intOut r e = o3 at *
          obtain ⟨pc, r3, e3⟩ := o3
          dsimp only at HS3 hr3 HTS
          have hl3 : r3.length ≤ 100000 := Nat.le_trans hr3.out.1 hlen
          have hr4 := Lib.hid (intOut_rest hr3.out.2 e3)
          go_wp2_with fail
          refine (rInt HS3.out.rd hl3).mono ?_
          rintro x w4 ⟨rfl, h1, k1⟩
          have HS4 := Lib.hid (HS3.out.call h1 k1 hr4.out)
          clear h1 k1
          generalize Pk.intOut r3 e3 = o4 at *
          obtain ⟨ps, r4, e4⟩ := o4
          dsimp only at HS4 hr4 HTS
          have hl4 : r4.length ≤ 100000 := Nat.le_trans hr4.out.1 hl3
          have hr5 := Lib.hid (intOut_rest hr4.out.2 e4)
          have HS4a := Lib.hid (HS4.out.on ((Kept.refl Mem.None w4).alloc (.cells #[.int .i64 pc, .int .i64 ps, .int .i64 0, .int .i64 0, .float .f64 0, .string ⟨#[]⟩] 54)))
          have HB4 := Lib.hid (alloc_here (w := w4) (.cells #[.int .i64 pc, .int .i64 ps, .int .i64 0, .int .i64 0, .float .f64 0, .string ⟨#[]⟩] 54) rfl)
          have hlow : w.heap.size + 1 < w4.heap.size := HS4.out.len
          have hlbr := HS4.out.lbr
          go_wp2_with fail
          refine (rInt HS4a.out.rd hl4).mono ?_
          rintro x w5 ⟨rfl, h1, k1⟩
          have HS5 := Lib.hid (HS4a.out.call h1 k1 hr5.out)
          have HB5 := Lib.hid (keptO k1 HB4.out (by omega))
          clear h1 k1
          generalize Pk.intOut r4 e4 = o5 at *
          obtain ⟨pd, r5, e5⟩ := o5
          dsimp only at HS5 hr5 HTS
          have hl5 : r5.length ≤ 100000 := Nat.le_trans hr5.out.1 hl4
          have hr6 := Lib.hid (rdV_rest hr5.out.2 e5)
          have HS5s := Lib.hid (HS5.out.seto HS4.out (Nat.le_refl _) 2 (.int .i64 pd))
          have HB5s := Lib.hid (heap_setc (i := 2) (v := .int .i64 pd) HB5.out)
          obtain ⟨c0, c1, c2, c3, c4, c5⟩ := cells6 HB5.out
          have g2 := frozen_of HB5.out 2
          go_wp2_with fail
          refine (readValue_any HS5s.out.rd hl5).mono ?_
          rintro x w6 ⟨rfl, h1, k1⟩
          have HS6 := Lib.hid (HS5s.out.call h1 k1 hr6.out)
          have hb6 := keptO k1 HB5s.out (by omega)
          simp only [List.setIfInBounds_toArray, List.set_cons_succ, List.set_cons_zero] at hb6
          have HB6 := Lib.hid hb6
          clear h1 k1 hb6 c0 c1 c2 c3 c4 c5 g2
          generalize rdV r5 e5 = o6 at *
          obtain ⟨⟨vk, vn, vs⟩, r6, e6⟩ := o6
          dsimp only at HS6 hr6 HTS
          have HS7 := Lib.hid (((HS6.out.seto HS4.out (Nat.le_refl _) 3 (.int .i64 vk)).seto HS4.out (Nat.le_refl _) 4 (.float .f64 vn)).seto HS4.out (Nat.le_refl _) 5 (.string vs))
          obtain ⟨c0, c1, c2, c3, c4, c5⟩ := cells6 HB6.out
          have g3 := frozen_of HB6.out 3
          have g4 := frozen_of HB6.out 4
          have g5 := frozen_of HB6.out 5
          obtain ⟨m0, m1⟩ := cells2 HS6.out.mbox
          have hne : w4.heap.size ≠ w.heap.size + 1 := by omega
          go_wp2_with (at_builtin; refine wpList_append_cells rfl _ _ _ rfl 54 6 _ _ 56 Tryz.underlying23 rfl rfl rfl rfl rfl bq s.a2 s.cap2 S.length (flatS S) rfl (OwnC.kept HS7.out.oq ((Kept.refl Mem.None _).alloc _) (fun _ h => h)) _ 1 1 _ rfl (one_sess (s := ⟨pc, ps, pd, ⟨vk, vn, vs⟩⟩) (alloc_here _ (by simp))).src flatS_one (by omega) (by omega) ?_; intro b' a' cap' w8 h2 h3 h4 h5; (have HP8 := Lib.hid ((HS7.out.on ((Kept.refl Mem.None _).alloc _)).sess h2 h3 h4)); (have HM8 := Lib.hid (h3.heap (old_alloc _ HS7.out.mbox) (fun e => by have := HS7.out.lo2 e.1; have := e.2; omega))); (obtain ⟨q0, q1⟩ := cells2 HM8.out); (have f1 := frozen_of HM8.out 1); clear h2 h3 h4 h5)
          go_roundw
          case rel => exact ⟨k + 1, ⟨s.a, s.cap, a', cap'⟩, bp, b', by omega, by go_num, by show RdS _ _ _ _ _ _ _ _ _ _ _; rw [HT.out, HTS.out]; exact HP8.out⟩
          case measure => simp [intOf]; omega
        · obtain rfl : k = N2 := by omega
          have d1 : decide ((k : Int) < min n2 4) = false := decide_eq_false (fun h => hlt ((HNK.out k).1 h))
          have HRL := Lib.hid (HR2.out _ HPS.out)
          clear HR2 HPS hrk hlen
          generalize rdN rdSe r2 e2 k = B at *
          obtain ⟨S, r, e⟩ := B
          dsimp only at HS HRL
          obtain ⟨m0, m1⟩ := cells2 HS.out.mbox
          obtain ⟨z0, z1⟩ := cells2 HS.out.zbox
          have g0 := frozen_of HS.out.zbox 0
          have g1 := frozen_of HS.out.zbox 1
          have hlow : w.heap.size + 1 < wr.heap.size := HS.out.len
          go_wp2_with fail
          (try simp only [Exit.inBlock, Exit.then])
          refine bodyPost_ret (v := s.agg ⟨P, S⟩) ?_ rfl ⟨s, bp, bq, by rw [HRL.out], ?_, ?_⟩
          · rw [results_cell_one rfl]
            go_simp
          · rw [HRL.out]
            have hset : ∀ {W : World} {i : Nat} {v : Value}, Kept (Only w.heap.size) W (W.setCell ⟨w.heap.size, i, none⟩ v) := (Kept.refl (Only w.heap.size) _).setAt (.inl rfl) _ _
            exact ⟨OwnC.kept (OwnC.kept HS.out.op hset (fun ha e => by have := HS.out.lo1 ha; have e : bp = w.heap.size := e; omega)) hset (fun ha e => by have := HS.out.lo1 ha; have e : bp = w.heap.size := e; omega),
              OwnC.kept (OwnC.kept HS.out.oq hset (fun ha e => by have := HS.out.lo2 ha; have e : bq = w.heap.size := e; omega)) hset (fun ha e => by have := HS.out.lo2 ha; have e : bq = w.heap.size := e; omega),
              fun ha => by have := HS.out.lo1 ha; omega, fun ha => by have := HS.out.lo2 ha; omega, HS.out.ne⟩
          · exact (HS.out.kept.setAt (.inr (Nat.le_refl _)) _ _).setAt (.inr (Nat.le_refl _)) _ _
end Go.Proofs.YtlgmjkbaihpmmaaGreat.Ss
end
section
/- Commands in memory. -/
namespace Go.Proofs.YtlgmjkbaihpmmaaGreat.Kv
open Go Go.RowKit Vl Nm Mem

/-! ### commands -/
def Cm.zero : Cm := ⟨0, ⟨#[]⟩, V.zero, V.zero⟩
instance : Inhabited Cm := ⟨Cm.zero⟩
def Cm.ok (c : Cm) : Prop := c.old.num < 18446744073709551616 ∧ c.val.num < 18446744073709551616
def Cm.cells (c : Cm) : List Value := [.int .i64 c.kind, .string c.key, .int .i64 c.old.kind, .float .f64 c.old.num, .string c.old.text, .int .i64 c.val.kind, .float .f64 c.val.num, .string c.val.text]
def Cm.cell (c : Cm) (j : Nat) : Option Value := c.cells[j]?
def Cm.at_ (w : World) (b o : Nat) (c : Cm) : Prop :=
  w.cell? ⟨b, o, none⟩ = some (.int .i64 c.kind) ∧ w.cell? ⟨b, o + 1, none⟩ = some (.string c.key) ∧ w.cell? ⟨b, o + 2, none⟩ = some (.int .i64 c.old.kind) ∧ w.cell? ⟨b, o + 3, none⟩ = some (.float .f64 c.old.num) ∧ w.cell? ⟨b, o + 4, none⟩ = some (.string c.old.text) ∧
  w.cell? ⟨b, o + 5, none⟩ = some (.int .i64 c.val.kind) ∧ w.cell? ⟨b, o + 6, none⟩ = some (.float .f64 c.val.num) ∧ w.cell? ⟨b, o + 7, none⟩ = some (.string c.val.text)
structure CmdsAt (w : World) (a : Option Addr) (C : List Cm) : Prop where
  ok : ∀ c ∈ C, c.ok
  at_ : 0 < C.length → ∃ b off, a = some ⟨b, off, none⟩ ∧ ∀ i, i < C.length → (C.getD i Cm.zero).at_ w b (off + i * 8)
theorem Cm.at_.below {w w' : World} {c : Cm} {b o : Nat} (h : c.at_ w b o) (hk : Below w.heap.size w w') : c.at_ w' b o := by
  have g : ∀ j v, w.cell? ⟨b, j, none⟩ = some v → w'.cell? ⟨b, j, none⟩ = some v := fun j v hc => (World.cell?_of_block (w := w) (hk.block b (World.block_lt_of_cell? w _ hc))).trans hc
  exact ⟨g _ _ h.1, g _ _ h.2.1, g _ _ h.2.2.1, g _ _ h.2.2.2.1, g _ _ h.2.2.2.2.1, g _ _ h.2.2.2.2.2.1, g _ _ h.2.2.2.2.2.2.1, g _ _ h.2.2.2.2.2.2.2⟩
theorem CmdsAt.below {w w' : World} {a : Option Addr} {C : List Cm} (h : CmdsAt w a C) (hk : Below w.heap.size w w') : CmdsAt w' a C := by
  refine ⟨h.ok, fun h0 => ?_⟩
  obtain ⟨b, off, ha, hc⟩ := h.at_ h0
  exact ⟨b, off, ha, fun i hi => (hc i hi).below hk⟩
theorem CmdsAt.get {w : World} {a : Option Addr} {C : List Cm} (h : CmdsAt w a C) {i : Nat} (hi : i < C.length) : (C.getD i Cm.zero).ok := h.ok _ (by simp [hi])
end Go.Proofs.YtlgmjkbaihpmmaaGreat.Kv
end
section
/- The landed Encode. -/
namespace Go.Proofs.YtlgmjkbaihpmmaaGreat.Ss
open Go Go.RowKit Vl Kv Mem Nm
attribute [local go_sem] run_bits run_frombits run_store_float

/-- what Encode tells -/
def EncTold (w : World) (m : Ma) (e : Ending) (w' : World) : Prop :=
  (rightM m = true → ∃ b a cap, e = .returned (.tuple #[.slice a (encM m).length cap, .int .i64 0]) ∧ OwnB 5 w' b a cap (encM m) ∧ w.heap.size ≤ b) ∧
  (rightM m = false → e = .returned (.tuple #[.slice none 0 0, .int .i64 6])) ∧ Beh w w'
theorem takeB_len {α : Type} {f : α → List Nat} {n : Nat} {L : List α} (h : ∀ a ∈ L, (f a).length ≤ n) (k : Nat) : ((L.take k).flatMap f).length ≤ L.length * n := by
  have h1 := flat_len (f := f) (n := n) (L := L.take k) (fun a ha => h a (List.mem_of_mem_take ha))
  have h2 : (L.take k).length * n ≤ L.length * n := Nat.mul_le_mul_right _ (by rw [List.length_take]; omega)
  omega
theorem take_flat {α : Type} [Inhabited α] {f : α → List Nat} {L : List α} {k : Nat} {z : α} (h : k < L.length) : (L.take (k + 1)).flatMap f = (L.take k).flatMap f ++ f (L.getD k z) := by
  rw [List.take_succ_eq_append_getElem h, List.flatMap_append]
  simp [h]
set_option maxHeartbeats 3200000 in
set_option maxRecDepth 100000 in
theorem Encode_bad (s : Ms) (m : Ma) (w : World) (h : MaAt w s m) (hr : rightM m = false) :
    Calls Tryz.prog 7 #[s.agg m] w fun e w' => e = .returned (.tuple #[.slice none 0 0, .int .i64 6]) ∧ Beh w w' := by
  have HM0 := Lib.hid (alloc_here (w := w) (s.obj m) rfl)
  have HB0 := Lib.hid ((Beh.start w).alloc (s.obj m))
  have HCK : Hid (∀ wq, Beh w wq → Calls Tryz.prog 19 #[s.agg m] wq fun e w' => e = .returned (.int .i64 6) ∧ Beh wq w') := fun wq hq => by
    have := SCheck_any s m wq (h.on hq)
    rw [hr] at this
    exact this
  clear h hr
  obtain ⟨L, S⟩ := m
  obtain ⟨a, cap, a2, cap2⟩ := s
  unfold Ms.obj at HM0 HB0
  dsimp only at HM0 HB0
  go_enter Tryz.func7, Tryz.ntmps7
  go_wp2_with fail
  refine Calls.mono (HCK.out _ HB0.out) ?_
  rintro e w1 ⟨rfl, hb⟩
  have HB1 := Lib.hid (HB0.out.on hb)
  clear hb
  go_wp2_with fail
  go_ret2
  exact ⟨rfl, HB1.out⟩
set_option maxHeartbeats 3200000 in
set_option maxRecDepth 100000 in
theorem Encode_right (s : Ms) (m : Ma) (w : World) (h : MaAt w s m) (hr : RightM m) :
    Calls Tryz.prog 7 #[s.agg m] w fun e w' => ∃ b a cap, e = .returned (.tuple #[.slice a (encM m).length cap, .int .i64 0]) ∧ OwnB 5 w' b a cap (encM m) ∧ w.heap.size ≤ b ∧ Beh w w' := by
  have HM0 := Lib.hid (alloc_here (w := w) (s.obj m) rfl)
  have HB0 := Lib.hid ((Beh.start w).alloc (s.obj m))
  have HCK : Hid (∀ wq, Beh w wq → Calls Tryz.prog 19 #[s.agg m] wq fun e w' => e = .returned (.int .i64 0) ∧ Beh wq w') := fun wq hq => by
    have := SCheck_any s m wq (h.on hq)
    rw [if_pos (rightM_iff.2 hr)] at this
    exact this
  have HE := Lib.hid (show encM m = Pk.intB m.pairs.length ++ (m.pairs.flatMap prB ++ (Pk.intB m.sess.length ++ m.sess.flatMap seB)) from rfl)
  have hnp := hr.np
  have hns := hr.ns
  have HPR := Lib.hid hr.pr
  have HSE := Lib.hid hr.se
  have hall := hr.len
  clear hr
  have hi1 := Lib.hid (Pk.intB_len (m.pairs.length : Int)).2
  have hi2 := Lib.hid (Pk.intB_len (m.sess.length : Int)).2
  obtain ⟨L, S⟩ := m
  obtain ⟨a, cap, a2, cap2⟩ := s
  have HPS := Lib.hid h.pairs
  have HSS := Lib.hid h.sess
  clear h
  unfold Ms.obj at HM0 HB0
  dsimp only at HM0 HB0 HPS HSS HE hnp hns HPR HSE hi1 hi2
  generalize encM ⟨L, S⟩ = E at *
  have HL1 : Hid (∀ k, (Pk.intB (L.length : Int) ++ (L.take k).flatMap prB).length ≤ 3000) := fun k => by
    rw [List.length_append]
    have h1 := hi1.out
    have h2 := takeB_len (f := prB) (n := 70) (L := L) (fun p hp => prB_len (HPR.out p hp)) k
    omega
  have HL2 : Hid (∀ k, (Pk.intB (L.length : Int) ++ L.flatMap prB ++ Pk.intB (S.length : Int) ++ (S.take k).flatMap seB).length ≤ 4000) := fun k => by
    simp only [List.length_append]
    have h1 := hi1.out
    have h2 := flat_len (f := prB) (n := 70) (L := L) (fun p hp => prB_len (HPR.out p hp))
    have h3 := takeB_len (f := seB) (n := 82) (L := S) (fun p hp => seB_len (HSE.out p hp)) k
    have h4 := hi2.out
    omega
  have kc := fun (w : World) (s : ByteArray) => run_bl w s
  go_enter Tryz.func7, Tryz.ntmps7
  go_wp2_with fail
  refine Calls.mono (HCK.out _ HB0.out) ?_
  rintro e w1 ⟨rfl, hb⟩
  have HM1 := Lib.hid (box_on HM0.out hb)
  have HB1 := Lib.hid (HB0.out.on hb)
  clear hb HM0 HB0
  have HX := Lib.hid (OwnX.new HB1.out (F := [(w.heap.size, .cells #[.slice a L.length cap, .slice a2 S.length cap2] 25)]) (fun x hx => by rw [List.mem_singleton] at hx; subst hx; exact HM1.out))
  obtain ⟨m0, m1⟩ := cells2 HM1.out
  have m0a := fun o => cellOn ((Beh.start _).alloc o) m0
  have m1a := fun o => cellOn ((Beh.start _).alloc o) m1
  go_wp2_with fail
  refine (wInt (n := (L.length : Int)) HX.out (by omega) (by omega) (by simp)).mono ?_
  rintro x w2 ⟨rfl, hx⟩
  rw [List.nil_append] at hx
  have HX := Lib.hid hx
  clear hx m0 m1 m0a m1a
  obtain ⟨m0, m1⟩ := cells2 (HX.out.get (List.mem_singleton.2 rfl))
  go_wp2_with fail
  clear m0 m1
  generalize w1.heap.size = bw at *
  go_loopw [7, 22] (fun _ i wr => ∃ k : Nat, k ≤ L.length ∧ i = .int .i64 k ∧ Hid (OwnX w wr bw (Pk.intB (L.length : Int) ++ (L.take k).flatMap prB) [(w.heap.size, .cells #[.slice a L.length cap, .slice a2 S.length cap2] 25)])) (fun _ i _ => L.length - (intOf i).toNat)
  case atStart => exact ⟨0, by omega, rfl, by show OwnX _ _ _ _ _; simpa using HX.out⟩
  case round =>
    clear HX
    obtain ⟨k, hk, rfl, HX⟩ := hrel
    by_cases hlt : k < L.length
    · obtain ⟨b, off, rfl, hc⟩ := (HPS.out.below HX.out.beh).at_ (by omega)
      obtain ⟨c0, c1, c2, c3⟩ := hc k hlt
      clear hc
      have HT := Lib.hid (take_flat (f := prB) (z := Pr.zero) hlt)
      have HPk := Lib.hid (HPR.out _ (getD_mem hlt))
      generalize L.getD k Pr.zero = p at *
      have hk8 := Lib.hid (Pr.right_iff.1 HPk.out)
      have HB8 := Lib.hid (show prB p = Pk.textB (bl p.key) ++ valB p.val from rfl)
      have HXM := Lib.hid (HX.out.more p.obj)
      obtain ⟨key, ⟨vk, vn, vs⟩⟩ := p
      unfold Pr.obj at HXM
      dsimp only at hk8 HB8 HXM
      have HGP : Hid (∀ {w' : World} {m : List Nat}, OwnX w w' bw m ((wr.heap.size, .cells #[.string key, .int .i64 vk, .float .f64 vn, .string vs] 61) :: [(w.heap.size, .cells #[.slice (some ⟨b, off, none⟩) L.length cap, .slice a2 S.length cap2] 25)]) → w'.heap[wr.heap.size]? = some (.cells #[.string key, .int .i64 vk, .float .f64 vn, .string vs] 61)) := fun h => h.get (List.mem_cons_self ..)
      go_wp2_with fail
      refine (wTextAt HXM.out key (by have := hk8.out.2.1; omega) (by have := HL1.out k; omega) (by rfl) (by simp) (by rfl)).mono ?_
      rintro x w3 ⟨rfl, hx⟩
      have HX3 := Lib.hid hx
      obtain ⟨d0, d1, d2, d3⟩ := cells4 (HGP.out hx)
      clear hx c0 c1 c2 c3
      go_wp2_with fail
      refine (writeValue_any HX3.out ⟨vk, vn, vs⟩ hk8.out.2.2.2 (by rw [List.length_append]; have := HL1.out k; have := textB_len (bl key); rw [bl_length] at this; have := hk8.out.2.1; omega)).mono ?_
      rintro x w4 ⟨rfl, hx⟩
      have HX4 := Lib.hid (hx.less (G := [(w.heap.size, .cells #[.slice (some ⟨b, off, none⟩) L.length cap, .slice a2 S.length cap2] 25)]) (fun x hx => List.mem_cons_of_mem _ hx))
      clear hx d0 d1 d2 d3
      go_wp2_with fail
      go_roundw
      case rel => exact ⟨k + 1, by omega, by go_num, by
        show OwnX _ _ _ _ _
        rw [HT.out, HB8.out]
        simpa [List.append_assoc] using HX4.out⟩
      case measure => simp [intOf]; omega
    · obtain rfl : k = L.length := by omega
      have HX0 := HX.out
      rw [List.take_length] at HX0
      have HX := Lib.hid HX0
      clear HX0
      have hlen0 := Lib.hid (HL1.out L.length)
      rw [List.take_length] at hlen0
      obtain ⟨m0, m1⟩ := cells2 (HX.out.get (List.mem_singleton.2 rfl))
      go_wp2_with fail
      refine (wInt (n := (S.length : Int)) HX.out (by omega) (by omega) (by have := hlen0.out; omega)).mono ?_
      rintro x w3 ⟨rfl, hx⟩
      have HX := Lib.hid hx
      clear hx m0 m1
      obtain ⟨m0, m1⟩ := cells2 (HX.out.get (List.mem_singleton.2 rfl))
      go_wp2_with fail
      clear m0 m1
      go_loopw [9, 41] (fun _ i wr => ∃ k : Nat, k ≤ S.length ∧ i = .int .i64 k ∧ Hid (OwnX w wr bw (Pk.intB (L.length : Int) ++ L.flatMap prB ++ Pk.intB (S.length : Int) ++ (S.take k).flatMap seB) [(w.heap.size, .cells #[.slice a L.length cap, .slice a2 S.length cap2] 25)])) (fun _ i _ => S.length - (intOf i).toNat)
      case atStart => exact ⟨0, by omega, rfl, by show OwnX _ _ _ _ _; simpa using HX.out⟩
      case round =>
        clear HX
        obtain ⟨k, hk, rfl, HX⟩ := hrel
        by_cases hlt : k < S.length
        · obtain ⟨b, off, rfl, hc⟩ := (HSS.out.below HX.out.beh).at_ (by omega)
          obtain ⟨c0, c1, c2, c3, c4, c5⟩ := hc k hlt
          clear hc
          have HT := Lib.hid (take_flat (f := seB) (z := Se.zero) hlt)
          have HPk := Lib.hid (HSE.out _ (getD_memS hlt))
          generalize S.getD k Se.zero = p at *
          have hk8 := Lib.hid (Se.right_iff.1 HPk.out)
          have HB8 := Lib.hid (show seB p = Pk.intB p.client ++ (Pk.intB p.seq ++ (Pk.intB p.code ++ valB p.val)) from rfl)
          have HXM := Lib.hid (HX.out.more p.obj)
          have hlk := Lib.hid (HL2.out k)
          obtain ⟨pc, ps, pd, ⟨vk, vn, vs⟩⟩ := p
          unfold Se.obj at HXM
          dsimp only at hk8 HB8 HXM
          have j1 := Lib.hid (Pk.intB_len pc).2
          have j2 := Lib.hid (Pk.intB_len ps).2
          have j3 := Lib.hid (Pk.intB_len pd).2
          generalize hpre : Pk.intB (L.length : Int) ++ L.flatMap prB ++ Pk.intB (S.length : Int) ++ (S.take k).flatMap seB = pre at HX HXM hlk
          have HPRE := Lib.hid hpre
          clear hpre
          have HGP : Hid (∀ {w' : World} {m : List Nat}, OwnX w w' bw m ((wr.heap.size, .cells #[.int .i64 pc, .int .i64 ps, .int .i64 pd, .int .i64 vk, .float .f64 vn, .string vs] 54) :: [(w.heap.size, .cells #[.slice a L.length cap, .slice (some ⟨b, off, none⟩) S.length cap2] 25)]) → w'.heap[wr.heap.size]? = some (.cells #[.int .i64 pc, .int .i64 ps, .int .i64 pd, .int .i64 vk, .float .f64 vn, .string vs] 54)) := fun h => h.get (List.mem_cons_self ..)
          go_wp2_with fail
          refine (wInt (n := pc) HXM.out (by have := hk8.out; omega) (by have := hk8.out; omega) (by have := hlk.out; omega)).mono ?_
          rintro x w4 ⟨rfl, hx⟩
          have HX4 := Lib.hid hx
          obtain ⟨d0, d1, d2, d3, d4, d5⟩ := cells6 (HGP.out hx)
          clear hx c0 c1 c2 c3 c4 c5
          go_wp2_with fail
          refine (wInt (n := ps) HX4.out (by have := hk8.out; omega) (by have := hk8.out; omega) (by rw [List.length_append]; have := hlk.out; have := j1.out; omega)).mono ?_
          rintro x w5 ⟨rfl, hx⟩
          have HX5 := Lib.hid hx
          clear d0 d1 d2 d3 d4 d5
          obtain ⟨d0, d1, d2, d3, d4, d5⟩ := cells6 (HGP.out hx)
          clear hx
          go_wp2_with fail
          refine (wInt (n := pd) HX5.out (by have := hk8.out; omega) (by have := hk8.out; omega) (by simp only [List.length_append]; have := hlk.out; have := j1.out; have := j2.out; omega)).mono ?_
          rintro x w6 ⟨rfl, hx⟩
          have HX6 := Lib.hid hx
          clear d0 d1 d2 d3 d4 d5
          obtain ⟨d0, d1, d2, d3, d4, d5⟩ := cells6 (HGP.out hx)
          clear hx
          go_wp2_with fail
          refine (writeValue_any HX6.out ⟨vk, vn, vs⟩ hk8.out.2.2.2 (by simp only [List.length_append]; have := hlk.out; have := j1.out; have := j2.out; have := j3.out; omega)).mono ?_
          rintro x w7 ⟨rfl, hx⟩
          have HX7 := Lib.hid (hx.less (G := [(w.heap.size, .cells #[.slice a L.length cap, .slice (some ⟨b, off, none⟩) S.length cap2] 25)]) (fun x hx => List.mem_cons_of_mem _ hx))
          clear hx d0 d1 d2 d3 d4 d5
          go_wp2_with fail
          go_roundw
          case rel => exact ⟨k + 1, by omega, by go_num, by
            show OwnX _ _ _ _ _
            rw [HT.out, HB8.out]
            have := HX7.out
            rw [← HPRE.out] at this
            simpa [List.append_assoc] using this⟩
          case measure => simp [intOf]; omega
        · obtain rfl : k = S.length := by omega
          have HX0 := HX.out
          rw [List.take_length] at HX0
          have hlk := HL2.out S.length
          rw [List.take_length] at hlk
          have e0 : Pk.intB (L.length : Int) ++ L.flatMap prB ++ Pk.intB (S.length : Int) ++ S.flatMap seB = E := by rw [HE.out]; simp [List.append_assoc]
          rw [e0] at HX0 hlk
          have HX := Lib.hid HX0
          have hlk := Lib.hid hlk
          clear HX0 e0 HE
          go_wp2_with fail
          refine (wBytes HX.out (by have := hlk.out; omega)).mono ?_
          rintro x w4 ⟨bE, aE, capE, rfl, ho, hbE, hb⟩
          have HO := Lib.hid ho
          have HB := Lib.hid (HX.out.beh.trans hb)
          have hs := HX.out.beh.size
          clear ho hb
          go_wp2_with fail
          go_ret2
          exact ⟨bE, aE, capE, rfl, HO.out, by omega, HB.out⟩
theorem Encode_any (s : Ms) (m : Ma) (w : World) (h : MaAt w s m) : Calls Tryz.prog 7 #[s.agg m] w (EncTold w m) := by
  cases hr : rightM m
  · exact (Encode_bad s m w h hr).mono fun e w' ⟨he, hb⟩ => ⟨fun h => (by cases hr.symm.trans h), fun _ => he, hb⟩
  · exact (Encode_right s m w h (rightM_iff.1 hr)).mono fun e w' ⟨b, a, cap, he, ho, hb, hk⟩ => ⟨fun _ => ⟨b, a, cap, he, ho, hb⟩, fun h => (by cases hr.symm.trans h), hk⟩
end Go.Proofs.YtlgmjkbaihpmmaaGreat.Ss
end
section
/- The landed Decode; bytes.Equal. -/
namespace Go.Proofs.YtlgmjkbaihpmmaaGreat.Ss
open Go Go.RowKit Vl Kv Mem Nm
attribute [local go_sem] run_bits run_frombits run_store_float

theorem run_lbS (w : World) (b : Nat) (a : Option Addr) (cap n : Nat) (l : List Nat) (hn : n = l.length) (h : Src w b a cap l) :
    (convert 26 9 (.slice a n cap)).run Tryz.prog w = .ok (.string (lb l)) w := by
  subst hn
  rcases h with ⟨_, _, ⟨rfl, rfl, rfl⟩ | ⟨off, rfl, hc⟩⟩ | ⟨rfl, ha⟩
  · exact run_convert_bytes_nil w _ _ Tryz.underlying26 Tryz.underlying5 _ _ _ Tryz.underlying9
  · rw [run_convert_bytes_arg w 26 5 Tryz.underlying26 Tryz.underlying5 b off l.length cap (l.map Int.ofNat) (by simp) (fun i hi => by
      rw [hc i hi]
      simp [hi]) _ Tryz.underlying9, strOfNums_lb]
  · obtain ⟨ad, rfl⟩ : ∃ ad, a = some ad := by cases a; exact absurd rfl ha; exact ⟨_, rfl⟩
    have hl : (loadCells ad 0).run Tryz.prog w = .ok (([] : List Int).map (Value.int .u8)).toArray w := by
      have := run_loadCells_list (P := Tryz.prog) w ad [] (fun j v hj => by simp at hj)
      simpa using this
    show (convert 26 9 (.slice (some ad) 0 cap)).run Tryz.prog w = _
    rw [run_convert_bytes_string w _ _ _ _ _ _ Tryz.underlying26 Tryz.underlying5 Tryz.underlying9, run_bytesToString w ad 0 cap [] hl]
    rfl
theorem lb_inj {l m : List Nat} (hl : B8 l) (hm : B8 m) (h : lb l = lb m) : l = m := by rw [← bl_lb hl, h, bl_lb hm]
theorem Equal_any (b1 : Nat) (a1 : Option Addr) (c1 : Nat) (l1 : List Nat) (b2 : Nat) (a2 : Option Addr) (c2 : Nat) (l2 : List Nat) (w : World) (h1 : Src w b1 a1 c1 l1) (h2 : Src w b2 a2 c2 l2) (k1 : B8 l1) (k2 : B8 l2) :
    Calls Tryz.prog 32 #[.slice a1 l1.length c1, .slice a2 l2.length c2] w fun e w' => e = .returned (.bool (decide (l1 = l2))) ∧ w = w' := by
  have v1 := run_lbS w b1 a1 c1 _ l1 rfl h1
  have v2 := run_lbS w b2 a2 c2 _ l2 rfl h2
  have HT := Lib.hid (text_eq (lb l1) (lb l2))
  have HD : Hid (decide (lb l1 = lb l2) = decide (l1 = l2)) := decide_eq_decide.2 ⟨fun h => lb_inj k1 k2 h, fun h => by rw [h]⟩
  clear h1 h2 k1 k2
  go_enter Tryz.func32, Tryz.ntmps32
  go_wp2
  go_ret
  exact ⟨ret_bool (by rw [← HD.out, ← HT.out]), rfl⟩
theorem MadeM.zero {w w' : World} : MadeM w w' Ms.zero Ma.zero 0 0 := ⟨OwnC.nil _ _ _ _, OwnC.nil _ _ _ _, fun h => absurd rfl h, fun h => absurd rfl h, fun h => absurd rfl h⟩
theorem MadeM.kept {w w' w'' : World} {s : Ms} {m : Ma} {bp bq : Nat} {S : Nat → Prop} (h : MadeM w w' s m bp bq) (hk : Kept S w' w'') (hs : ∀ k, S k → k < w.heap.size) : MadeM w w'' s m bp bq :=
  ⟨OwnC.kept h.op hk (fun ha e => by have := h.lo1 ha; have := hs _ e; omega), OwnC.kept h.oq hk (fun ha e => by have := h.lo2 ha; have := hs _ e; omega), h.lo1, h.lo2, h.ne⟩
theorem MadeM.from {w0 w w' : World} {s : Ms} {m : Ma} {bp bq : Nat} (h : MadeM w w' s m bp bq) (hw : w0.heap.size ≤ w.heap.size) : MadeM w0 w' s m bp bq :=
  ⟨h.op, h.oq, fun ha => Nat.le_trans hw (h.lo1 ha), fun ha => Nat.le_trans hw (h.lo2 ha), h.ne⟩
/-- what Decode tells -/
def DecTold (w : World) (l : List Nat) (e : Ending) (w' : World) : Prop :=
  ∃ (s : Ms) (bp bq : Nat), e = .returned (.tuple #[s.agg (decM l).1, .int .i64 (decM l).2]) ∧ MadeM w w' s (decM l).1 bp bq ∧ Beh w w'
set_option maxHeartbeats 3200000 in
set_option maxRecDepth 100000 in
theorem Decode_any (b : Nat) (a : Option Addr) (cap : Nat) (l : List Nat) (w : World) (h : Src w b a cap l) (h8 : B8 l) (hl : l.length ≤ 100000) :
    Calls Tryz.prog 12 #[.slice a l.length cap] w (DecTold w l) := by
  have HSR := Lib.hid h
  have H8 := Lib.hid h8
  have HZ := Lib.hid (alloc_here (w := w) (.cells #[.slice none 0 0, .slice none 0 0] 25) rfl)
  have HNR := Lib.hid (Pk.NewReader_any b a cap l (w.alloc (.cells #[.slice none 0 0, .slice none 0 0] 25)) (h.kept (S := Mem.None) ((Kept.refl _ _).alloc _) (fun _ h => h)) (by omega) h8)
  have HB0 := Lib.hid ((Beh.start w).alloc (.cells #[.slice none 0 0, .slice none 0 0] 25))
  have HDC := Lib.hid (decM_cases l)
  have hs0 : (w.alloc (.cells #[.slice none 0 0, .slice none 0 0] 25)).heap.size = w.heap.size + 1 := by simp
  clear h h8
  go_enter Tryz.func12, Tryz.ntmps12
  go_wp2_with fail
  refine Calls.mono HNR.out ?_
  rintro x w1 ⟨br, bs, rfl, hr, h1, h2, hk⟩
  have HZ1 := Lib.hid (hk.heap HZ.out (fun e => e))
  have HB1 := Lib.hid (HB0.out.trans (beh_kept hk))
  have HR := Lib.hid hr
  have hs1 : w.heap.size < w1.heap.size := lt_of_heap HZ1.out
  have hbr : w.heap.size < br := by omega
  clear hr h1 h2 hk HNR HB0
  go_wp2_with fail
  refine Calls.mono (read_any HR.out hl) ?_
  rintro x w2 ⟨s, bp, bq, rfl, hm, hk⟩
  have HZ2 := Lib.hid (keptO hk HZ1.out (by omega))
  have HB2 : Hid (Beh w w2) := beh_kept ((kept_beh HB1.out).trans' hk (fun x hx => .inr (by have hx : x = br := hx; omega)))
  have HM2 := Lib.hid (hm.from (w0 := w) (by omega))
  have HLO : Hid ((s.a ≠ none → w.heap.size < bp) ∧ (s.a2 ≠ none → w.heap.size < bq)) := ⟨fun ha => by have := hm.lo1 ha; omega, fun ha => by have := hm.lo2 ha; omega⟩
  have hs2 : w.heap.size < w2.heap.size := lt_of_heap HZ2.out
  clear hm hk HR HZ1 HB1
  generalize readM l = m at *
  have HO4 := Lib.hid (alloc_here (w := w2) (s.obj m) rfl)
  have HZ4 := Lib.hid (old_alloc (s.obj m) HZ2.out)
  have HB4 := Lib.hid (HB2.out.alloc (s.obj m))
  have HM4 := Lib.hid (HM2.out.kept (S := Mem.None) ((Kept.refl _ w2).alloc (s.obj m)) (fun _ h => h.elim))
  have HEN := Lib.hid (Encode_any s m _ HM4.out.at_)
  clear HZ2 HB2 HM2
  have HBM := Lib.hid (encM_b8 m)
  have HZE : Hid (∀ (W : World), Beh w W → ∀ (r : Int), decM l = (Ma.zero, r) → ∀ (i j : Nat) (u v : Value), DecTold w l (.returned (.tuple #[.agg #[.slice none 0 0, .slice none 0 0], .int .i64 r])) ((W.setCell ⟨w.heap.size, i, none⟩ u).setCell ⟨w.heap.size, j, none⟩ v)) := fun W hb r hd i j u v => by
    refine ⟨Ms.zero, 0, 0, by rw [hd]; rfl, by rw [hd]; exact MadeM.zero, (hb.set (Nat.le_refl _) _ _).set (Nat.le_refl _) _ _⟩
  obtain ⟨L, S⟩ := m
  unfold Ms.obj at HO4 HZ4 HB4 HM4 HEN
  dsimp only at HO4 HZ4 HB4 HM4 HEN
  cases hrt : rightM ⟨L, S⟩
  · have HD := Lib.hid (show decM l = (Ma.zero, 6) by
      rcases HDC.out with h | h
      · exact h.1
      · have := rightM_iff.2 h.2.1; rw [hrt] at this; cases this)
    go_wp2_with fail
    refine Calls.mono HEN.out ?_
    rintro x w5 ⟨_, hx, hb⟩
    obtain rfl := hx hrt
    have HB5 := Lib.hid (HB4.out.trans hb)
    obtain ⟨z0, z1⟩ := cells2 (hb.box HZ4.out)
    have g0 := frozen_of (hb.box HZ4.out) 0
    have g1 := frozen_of (hb.box HZ4.out) 1
    clear hx hb
    go_wp2_with fail
    (try simp only [Exit.inBlock, Exit.then])
    refine bodyPost_ret (v := .tuple #[.agg #[.slice none 0 0, .slice none 0 0], .int .i64 6]) ?_ rfl (HZE.out _ HB5.out _ HD.out _ _ _ _)
    rw [results_cell_tmp rfl]
    go_simp
  · go_wp2_with fail
    refine Calls.mono HEN.out ?_
    rintro x w5 ⟨hx, _, hb⟩
    obtain ⟨bE, aE, cE, rfl, ho, hbE⟩ := hx hrt
    have HB5 := Lib.hid (HB4.out.trans hb)
    have HM5 := Lib.hid (HM4.out.kept (kept_beh hb) (fun _ h => h.elim))
    obtain ⟨z0, z1⟩ := cells2 (hb.box HZ4.out)
    have g0 := frozen_of (hb.box HZ4.out) 0
    have g1 := frozen_of (hb.box HZ4.out) 1
    obtain ⟨m0, m1⟩ := cells2 (hb.box HO4.out)
    have HEQ := Lib.hid (Equal_any bE aE cE _ b a cap l w5 ho.src (HSR.out.kept (kept_beh HB5.out) (fun _ h => h)) HBM.out H8.out)
    clear hx hb ho hbE HEN
    by_cases he : encM ⟨L, S⟩ = l
    · rw [decide_eq_true he] at HEQ
      have HD := Lib.hid (show decM l = (⟨L, S⟩, 0) by
        rcases HDC.out with h | h
        · exact absurd ⟨hrt, he⟩ h.2
        · exact h.1)
      clear he HDC
      go_wp2_with fail
      refine Calls.mono HEQ.out ?_
      rintro x w6 ⟨rfl, rfl⟩
      go_wp2_with fail
      (try simp only [Exit.inBlock, Exit.then])
      refine bodyPost_ret (v := .tuple #[s.agg ⟨L, S⟩, .int .i64 0]) ?_ rfl ⟨s, bp, bq, by rw [HD.out], ?_, (HB5.out.set (Nat.le_refl _) _ _).set (Nat.le_refl _) _ _⟩
      · rw [results_cell_tmp rfl]
        go_simp
      · rw [HD.out]
        have hset : ∀ {W : World} {i : Nat} {v : Value}, Kept (Only w.heap.size) W (W.setCell ⟨w.heap.size, i, none⟩ v) := (Kept.refl (Only w.heap.size) _).setAt (.inl rfl) _ _
        exact ⟨OwnC.kept (OwnC.kept HM5.out.op hset (fun ha e => by have := HLO.out.1 ha; have e : bp = w.heap.size := e; omega)) hset (fun ha e => by have := HLO.out.1 ha; have e : bp = w.heap.size := e; omega),
          OwnC.kept (OwnC.kept HM5.out.oq hset (fun ha e => by have := HLO.out.2 ha; have e : bq = w.heap.size := e; omega)) hset (fun ha e => by have := HLO.out.2 ha; have e : bq = w.heap.size := e; omega),
          HM5.out.lo1, HM5.out.lo2, HM5.out.ne⟩
    · rw [decide_eq_false he] at HEQ
      have HD := Lib.hid (show decM l = (Ma.zero, 6) by
        rcases HDC.out with h | h
        · exact h.1
        · exact absurd h.2.2 he)
      clear he HDC
      go_wp2_with fail
      refine Calls.mono HEQ.out ?_
      rintro x w6 ⟨rfl, rfl⟩
      go_wp2_with fail
      (try simp only [Exit.inBlock, Exit.then])
      refine bodyPost_ret (v := .tuple #[.agg #[.slice none 0 0, .slice none 0 0], .int .i64 6]) ?_ rfl (HZE.out _ HB5.out _ HD.out _ _ _ _)
      rw [results_cell_tmp rfl]
      go_simp
end Go.Proofs.YtlgmjkbaihpmmaaGreat.Ss
end
section
/- The reference's Last. -/
namespace Go.Proofs.YtlgmjkbaihpmmaaGreat.Ss
open Go Go.RowKit Vl Kv Mem Nm
attribute [local go_sem] run_bits run_frombits run_store_float
set_option maxHeartbeats 3200000 in
set_option maxRecDepth 100000 in
theorem refLast_any (s : Ms) (m : Ma) (c : Int) (w : World) (h : MaAt w s m) : Calls Tryz.prog 66 #[s.agg m, .int .i64 c] w (LastTold m.sess c w) := by
  have HM0 := Lib.hid (old_alloc (repObj 0 V.zero) (alloc_here (w := w) (s.obj m) rfl))
  have HB0 := Lib.hid (((Beh.start w).alloc (s.obj m)).alloc (repObj 0 V.zero))
  have HR0 : Hid (((w.alloc (s.obj m)).alloc (repObj 0 V.zero)).heap[w.heap.size + 1]? = some (repObj 0 V.zero)) := alloc_here _ (by simp)
  have HSS := Lib.hid h.sess
  obtain ⟨L, S⟩ := m
  obtain ⟨a, cap, a2, cap2⟩ := s
  unfold Ms.obj repObj at HM0 HB0 HR0
  dsimp only at HM0 HB0 HSS HR0
  clear h
  have hmx : S.length ≤ 9223372036854775807 := Nat.le_trans HSS.out.len HSS.out.max
  have HLH : Hid (∀ k, k < S.length → (S.take k).all (fun s => s.client != c) = true → (S.getD k Se.zero).client = c → lastOf S c = S.getD k Se.zero) := fun k => lastOf_here
  have HLN : Hid (S.all (fun s => s.client != c) = true → lastOf S c = Se.zero) := lastOf_none
  unfold LastTold
  dsimp only
  generalize lastOf S c = LO at *
  obtain ⟨oc, os, od, ⟨ok, on, ot⟩⟩ := LO
  go_enter Tryz.func66, Tryz.ntmps66
  go_wp2_with fail
  obtain ⟨w1, hw1⟩ : ∃ w1, w1 = ((w.alloc (.cells #[.slice a L.length cap, .slice a2 S.length cap2] 25)).alloc (.cells #[.int .i64 0, .int .i64 0, .float .f64 0, .string ⟨#[]⟩] 52)) := ⟨_, rfl⟩
  rw [← hw1] at HM0 HB0 HR0
  try rw [← hw1]
  clear hw1
  go_loopw [6] (fun i wr => ∃ k : Nat, k ≤ S.length ∧ i = .int .i64 k ∧ Hid ((S.take k).all (fun s => s.client != c) = true) ∧ Hid (Beh w1 wr)) (fun i _ => S.length - (intOf i).toNat)
  case atStart => exact ⟨0, by omega, rfl, rfl, Beh.start _⟩
  case round =>
    obtain ⟨k, hk, rfl, hs, HW⟩ := hrel
    obtain ⟨m0, m1⟩ := cells2 (HW.out.box HM0.out)
    obtain ⟨r0, r1, r2, r3⟩ := cells4 (HW.out.box HR0.out)
    have f0 := frozen_of (HW.out.box HR0.out) 0
    have f1 := frozen_of (HW.out.box HR0.out) 1
    have f2 := frozen_of (HW.out.box HR0.out) 2
    have f3 := frozen_of (HW.out.box HR0.out) 3
    have HBW := Lib.hid (HB0.out.trans HW.out)
    by_cases hlt : k < S.length
    · obtain ⟨b, off, rfl, hc⟩ := (HSS.out.below (HB0.out.trans HW.out)).at_ (by omega)
      obtain ⟨c0, c1, c2, c3, c4, c5⟩ := hc k hlt
      clear hc
      have HN := Lib.hid (fun he => take_all hlt hs.out he)
      have HY := Lib.hid (HLH.out k hlt hs.out)
      generalize S.getD k Se.zero = p at *
      obtain ⟨pc, ps, pd, ⟨vk, vn, vs⟩⟩ := p
      dsimp only at HN HY
      cases x : (pc == c)
      · rw [x] at HN
        go_wp2_with fail
        go_roundw
        case rel => exact ⟨k + 1, by omega, by go_num, HN.out rfl, HW.out⟩
        case measure => simp [intOf]; omega
      · have hx : pc = c := by simpa using x
        have he := HY.out hx
        injection he with i1 i2 i3 i4
        injection i4 with i4 i5 i6
        subst i2 i3 i4 i5 i6
        clear i1 hx HY HN
        go_wp2_with fail
        go_region
        all_goals
          go_wp2_with fail
          (try simp only [Exit.inBlock, Exit.then])
          refine bodyPost_ret (v := .tuple #[.int .i64 os, rep od ⟨ok, on, ot⟩]) ?_ rfl ⟨rfl, ?_⟩
          · rw [results_tmp_cell rfl]
            go_simp
          · show Beh w _
            repeat' (first | with_reducible exact HBW.out | with_reducible refine Beh.set ?_ (by omega) _ _ | with_reducible refine Beh.drew ?_ | with_reducible refine Beh.alloc ?_ _)
    · obtain rfl : k = S.length := by omega
      have hs2 := hs.out
      rw [List.take_length] at hs2
      have he := HLN.out hs2
      injection he with i1 i2 i3 i4
      injection i4 with i4 i5 i6
      subst i2 i3 i4 i5 i6
      clear i1 hs2
      go_wp2_with fail
      (try simp only [Exit.inBlock, Exit.then])
      refine bodyPost_ret (v := .tuple #[.int .i64 0, rep 0 V.zero]) ?_ rfl ⟨rfl, ?_⟩
      · rw [results_tmp_cell rfl]
        go_simp
      · show Beh w _
        repeat' (first | with_reducible exact HBW.out | with_reducible refine Beh.set ?_ (by omega) _ _ | with_reducible refine Beh.drew ?_ | with_reducible refine Beh.alloc ?_ _)
end Go.Proofs.YtlgmjkbaihpmmaaGreat.Ss
end
section
/- Pairs, a command, a value that are handed in. -/
namespace Go.Proofs.YtlgmjkbaihpmmaaGreat.Kv
open Go Go.ChangeShapes Go.WideShapes Go.RowKit Go.Deep Vl Nm Mem

theorem choose_lt {α : Type} [Inhabited α] {n : Nat} {p : Nat → α → Prop} (h : ∀ i, i < n → ∃ x, p i x) : ∃ f : Nat → α, ∀ i, i < n → p i (f i) :=
  ⟨fun i => if hi : i < n then Classical.choose (h i hi) else default, fun i hi => by
    show p i (if hi : i < n then Classical.choose (h i hi) else default)
    rw [dif_pos hi]; exact Classical.choose_spec (h i hi)⟩
theorem trod_float1 {H : Type} {enc : TypeId × Value → H} {P : Program} {w : World} {base : Nat} {spare : Nat → Bool} {held : Bool} {n : Nat} {t : TypeId} {v : Value} {x : DataW H × List MemPlace}
    (ht : P.underlying t = some (.float .f64)) (h : DataW.trod enc P w base spare held n t [v] = some x) : ∃ b, v = .float .f64 b ∧ b < 18446744073709551616 := by
  cases n with
  | zero => simp [DataW.trod] at h
  | succ n =>
    cases v <;> simp only [DataW.trod, ht] at h <;> first | (cases h; done) | skip
    rename_i k' b
    split at h
    · rename_i hk
      obtain ⟨rfl, hw⟩ := hk
      exact ⟨b, rfl, by simpa [Lit.wf] using hw⟩
    · cases h
theorem trod_int1 {H : Type} {enc : TypeId × Value → H} {P : Program} {w : World} {base : Nat} {spare : Nat → Bool} {held : Bool} {n : Nat} {t : TypeId} {v : Value} {x : DataW H × List MemPlace}
    (ht : P.underlying t = some (.int .i64)) (h : DataW.trod enc P w base spare held n t [v] = some x) : ∃ q, v = .int .i64 q := by
  obtain ⟨q, hq, _, _⟩ := DataW.trod_int ht h
  exact ⟨q, by simpa using hq⟩
theorem trod_string1 {H : Type} {enc : TypeId × Value → H} {P : Program} {w : World} {base : Nat} {spare : Nat → Bool} {held : Bool} {n : Nat} {t : TypeId} {v : Value} {x : DataW H × List MemPlace}
    (ht : P.underlying t = some .string) (h : DataW.trod enc P w base spare held n t [v] = some x) : ∃ s, v = .string s := by
  obtain ⟨s, hs, _, _⟩ := DataW.trod_string ht h
  exact ⟨s, by simpa using hs⟩
set_option maxRecDepth 100000 in
theorem trod_value {H : Type} {enc : TypeId × Value → H} {w : World} {base : Nat} {spare : Nat → Bool} {held : Bool} {n : Nat} {v0 v1 v2 : Value} {x : DataW H × List MemPlace}
    (h : DataW.trod enc Tryz.prog w base spare held n 50 [v0, v1, v2] = some x) : ∃ v : V, v0 = .int .i64 v.kind ∧ v1 = .float .f64 v.num ∧ v2 = .string v.text ∧ v.num < 18446744073709551616 := by
  obtain ⟨ys, n', _, _, _, hyl, hf⟩ := DataW.trod_struct Tryz.underlying50 h
  have c3 : Tryz.prog.cellsOf 3 = 1 := by kernel_rfl
  have c30 : Tryz.prog.cellsOf 48 = 1 := by kernel_rfl
  have c9 : Tryz.prog.cellsOf 9 = 1 := by kernel_rfl
  match ys, hyl with
  | [y0, y1, y2], _ =>
    have t0 : DataW.trod enc Tryz.prog w base spare held n' 3 (([v0, v1, v2].drop 0).take (Tryz.prog.cellsOf 3)) = some y0 := hf 0 _ rfl
    rw [c3] at t0
    have t1 : DataW.trod enc Tryz.prog w base spare held n' 48 (([v0, v1, v2].drop 1).take (Tryz.prog.cellsOf 48)) = some y1 := hf 1 _ rfl
    rw [c30] at t1
    have t2 : DataW.trod enc Tryz.prog w base spare held n' 9 (([v0, v1, v2].drop 2).take (Tryz.prog.cellsOf 9)) = some y2 := hf 2 _ rfl
    rw [c9] at t2
    obtain ⟨q0, rfl⟩ := trod_int1 Tryz.underlying3 (x := y0) t0
    obtain ⟨q1, rfl, b1⟩ := trod_float1 Tryz.underlying48 (x := y1) t1
    obtain ⟨s, rfl⟩ := trod_string1 Tryz.underlying9 (x := y2) t2
    exact ⟨⟨q0, q1, s⟩, rfl, rfl, rfl, b1⟩
def Pr.cell (p : Pr) (j : Nat) : Option Value := p.cells[j]?
set_option maxRecDepth 100000 in
theorem pair_of {H : Type} {enc : TypeId × Value → H} {w : World} {base : Nat} {spare : Nat → Bool} {held : Bool} {a : Addr} {n : Nat} {cs : List Value} {z : DataW H × List MemPlace}
    (hcs : w.cells? base a 4 = some cs) (ht : DataW.trod enc Tryz.prog w base spare held n 61 cs = some z) : ∃ y : Pr, y.val.num < 18446744073709551616 ∧ ∀ j : Nat, j < 4 → w.cell? (a.add j) = y.cell j := by
  obtain ⟨_, hlen, hat⟩ := World.cells?_some hcs
  obtain ⟨ys, n', _, _, _, hyl, hf⟩ := DataW.trod_struct Tryz.underlying61 ht
  have c9 : Tryz.prog.cellsOf 9 = 1 := by kernel_rfl
  have cv : Tryz.prog.cellsOf 50 = 3 := by kernel_rfl
  match cs, hlen, ys, hyl with
  | [v0, v1, v2, v3], _, [y0, y1], _ =>
    have t0 : DataW.trod enc Tryz.prog w base spare held n' 9 (([v0, v1, v2, v3].drop 0).take (Tryz.prog.cellsOf 9)) = some y0 := hf 0 _ rfl
    rw [c9] at t0
    have t1 : DataW.trod enc Tryz.prog w base spare held n' 50 (([v0, v1, v2, v3].drop 1).take (Tryz.prog.cellsOf 50)) = some y1 := hf 1 _ rfl
    rw [cv] at t1
    obtain ⟨s, rfl⟩ := trod_string1 Tryz.underlying9 (x := y0) t0
    obtain ⟨v, rfl, rfl, rfl, hv⟩ := trod_value (x := y1) t1
    refine ⟨⟨s, v⟩, hv, fun j hj => ?_⟩
    rw [hat j hj]
    match j, hj with
    | 0, _ => rfl
    | 1, _ => rfl
    | 2, _ => rfl
    | 3, _ => rfl
/-- pairs that came in -/
def PairsIn (w : World) (a : Option Addr) (len cap : Nat) : Prop := ∃ L : List Pr, L.length = len ∧ PairsAt w a cap L ∧ Fits L
set_option maxRecDepth 100000 in
theorem in_pairs {H : Type} {enc : TypeId × Value → H} {w : World} {base : Nat} {spare : Nat → Bool} {held : Bool} {a : Option Addr} {len cap : Nat} {d : DataW H} {ps : List MemPlace}
    (h : DataW.Trod enc Tryz.prog w base spare held 22 (.slice a len cap) d ps) : PairsIn w a len cap := by
  obtain ⟨fuel, hf⟩ := h
  have hC : Tryz.prog.cellsOf 61 = 4 := by kernel_rfl
  rcases open_slice Tryz.underlying22 hf with ⟨h1, _⟩ | ⟨x, len', cap', m, n, D, Pl, h1, _, hl, hm, hmm, _, hx⟩
  · simp [Value.cells] at h1
    obtain ⟨rfl, rfl, rfl⟩ := h1
    exact ⟨[], rfl, PairsAt.empty _, Fits.nil⟩
  · simp [Value.cells] at h1
    obtain ⟨rfl, rfl, rfl⟩ := h1
    rw [hC] at hx
    have hle : len ≤ m := by rw [hmm]; split <;> omega
    have hV : ∀ i, i < len → ∃ y : Pr, y.val.num < 18446744073709551616 ∧ ∀ j : Nat, j < 4 → w.cell? ((x.add (i * 4)).add j) = y.cell j := fun i hi => by
      obtain ⟨cs, hcs, ht⟩ := hx i (by omega)
      exact pair_of hcs ht
    obtain ⟨f, hf2⟩ := choose_lt hV
    refine ⟨(List.range len).map f, by simp, ⟨by simpa using hl, by unfold maxLen at hm; omega, fun h => (by cases h), fun h0 => ?_⟩, fun y hy => ?_⟩
    · simp at h0
      obtain ⟨b, off, spot⟩ := x
      have c0 := (hf2 0 (by omega)).2 0 (by decide)
      have hspot : spot = Option.none := by
        have : w.cell? (((⟨b, off, spot⟩ : Addr).add (0 * 4)).add 0) = some (.string (f 0).key) := c0
        simpa [Addr.add] using World.cell?_spot this
      subst hspot
      refine ⟨b, off, rfl, fun i hi => ?_⟩
      simp at hi
      have hg : ((List.range len).map f).getD i Pr.zero = f i := by simp [hi]
      rw [hg]
      have hc := (hf2 i hi).2
      have e : ∀ j, ((⟨b, off, Option.none⟩ : Addr).add (i * 4)).add j = ⟨b, off + i * 4 + j, Option.none⟩ := fun j => by
        rw [Go.WideShapes.add_plain, Go.WideShapes.add_plain]
      simp only [e] at hc
      exact ⟨hc 0 (by decide), hc 1 (by decide), hc 2 (by decide), hc 3 (by decide)⟩
    · obtain ⟨i, hi, rfl⟩ := List.mem_map.1 hy
      exact (hf2 i (List.mem_range.1 hi)).1
set_option maxRecDepth 100000 in
theorem trod_cmd {H : Type} {enc : TypeId × Value → H} {w : World} {base : Nat} {spare : Nat → Bool} {held : Bool} {n : Nat} {cs : List Value} {z : DataW H × List MemPlace} (hlen : cs.length = 8)
    (ht : DataW.trod enc Tryz.prog w base spare held n 82 cs = some z) : ∃ c : Cm, c.ok ∧ cs = c.cells := by
  obtain ⟨ys, n', _, _, _, hyl, hf⟩ := DataW.trod_struct Tryz.underlying82 ht
  have c3 : Tryz.prog.cellsOf 3 = 1 := by kernel_rfl
  have c9 : Tryz.prog.cellsOf 9 = 1 := by kernel_rfl
  have cv : Tryz.prog.cellsOf 50 = 3 := by kernel_rfl
  match cs, hlen, ys, hyl with
  | [v0, v1, v2, v3, v4, v5, v6, v7], _, [y0, y1, y2, y3], _ =>
    have t0 : DataW.trod enc Tryz.prog w base spare held n' 3 (([v0, v1, v2, v3, v4, v5, v6, v7].drop 0).take (Tryz.prog.cellsOf 3)) = some y0 := hf 0 _ rfl
    rw [c3] at t0
    have t1 : DataW.trod enc Tryz.prog w base spare held n' 9 (([v0, v1, v2, v3, v4, v5, v6, v7].drop 1).take (Tryz.prog.cellsOf 9)) = some y1 := hf 1 _ rfl
    rw [c9] at t1
    have t2 : DataW.trod enc Tryz.prog w base spare held n' 50 (([v0, v1, v2, v3, v4, v5, v6, v7].drop 2).take (Tryz.prog.cellsOf 50)) = some y2 := hf 2 _ rfl
    rw [cv] at t2
    have t3 : DataW.trod enc Tryz.prog w base spare held n' 50 (([v0, v1, v2, v3, v4, v5, v6, v7].drop 5).take (Tryz.prog.cellsOf 50)) = some y3 := hf 3 _ rfl
    rw [cv] at t3
    obtain ⟨q, rfl⟩ := trod_int1 Tryz.underlying3 (x := y0) t0
    obtain ⟨s, rfl⟩ := trod_string1 Tryz.underlying9 (x := y1) t1
    obtain ⟨u, rfl, rfl, rfl, hu⟩ := trod_value (x := y2) t2
    obtain ⟨v, rfl, rfl, rfl, hv⟩ := trod_value (x := y3) t3
    exact ⟨⟨q, s, u, v⟩, ⟨hu, hv⟩, rfl⟩
set_option maxRecDepth 100000 in
theorem in_cmd {H : Type} {enc : TypeId × Value → H} {w w0 : World} {r : Reach} {b0 base : Nat} {spare : Nat → Bool} {held : Bool} {x : Value} {d : DataW H} {ps : List MemPlace}
    (hv : Value.okWide Tryz.prog w0 r b0 82 x) (h : DataW.Trod enc Tryz.prog w base spare held 82 x d ps) : ∃ c : Cm, x = c.agg ∧ c.ok := by
  obtain ⟨cs, rfl, hsz⟩ := okWide_struct Tryz.underlying82 hv
  obtain ⟨fuel, hf⟩ := h
  have hC : Tryz.prog.cellsOf 82 = 8 := by kernel_rfl
  rw [hC] at hsz
  obtain ⟨l⟩ := cs
  obtain ⟨c, hc, hl⟩ := trod_cmd hsz hf
  have hl : l = c.cells := hl
  subst hl
  exact ⟨c, rfl, hc⟩
set_option maxRecDepth 100000 in
theorem in_value {H : Type} {enc : TypeId × Value → H} {w w0 : World} {r : Reach} {b0 base : Nat} {spare : Nat → Bool} {held : Bool} {x : Value} {d : DataW H} {ps : List MemPlace}
    (hv : Value.okWide Tryz.prog w0 r b0 50 x) (h : DataW.Trod enc Tryz.prog w base spare held 50 x d ps) : ∃ v : V, x = v.val ∧ v.num < 18446744073709551616 := by
  obtain ⟨cs, rfl, hsz⟩ := okWide_struct Tryz.underlying50 hv
  obtain ⟨fuel, hf⟩ := h
  have hC : Tryz.prog.cellsOf 50 = 3 := by kernel_rfl
  rw [hC] at hsz
  obtain ⟨l⟩ := cs
  match l, hsz with
  | [v0, v1, v2], _ =>
    obtain ⟨v, rfl, rfl, rfl, hb⟩ := trod_value hf
    exact ⟨v, rfl, hb⟩
end Go.Proofs.YtlgmjkbaihpmmaaGreat.Kv
end
section
/- Calls that are handed in. -/
namespace Go.Proofs.YtlgmjkbaihpmmaaGreat.Ss
open Go Go.ChangeShapes Go.WideShapes Go.RowKit Go.Deep Vl Nm Mem Kv

def Cl.ok (c : Cl) : Prop := c.cmd.ok
def Cl.cells (c : Cl) : List Value := [.int .i64 c.client, .int .i64 c.seq, .int .i64 c.cmd.kind, .string c.cmd.key, .int .i64 c.cmd.old.kind, .float .f64 c.cmd.old.num, .string c.cmd.old.text, .int .i64 c.cmd.val.kind, .float .f64 c.cmd.val.num, .string c.cmd.val.text]
def Cl.cell (c : Cl) (j : Nat) : Option Value := c.cells[j]?
def Cl.at_ (w : World) (b o : Nat) (c : Cl) : Prop :=
  w.cell? ⟨b, o, none⟩ = some (.int .i64 c.client) ∧ w.cell? ⟨b, o + 1, none⟩ = some (.int .i64 c.seq) ∧ w.cell? ⟨b, o + 2, none⟩ = some (.int .i64 c.cmd.kind) ∧ w.cell? ⟨b, o + 3, none⟩ = some (.string c.cmd.key) ∧ w.cell? ⟨b, o + 4, none⟩ = some (.int .i64 c.cmd.old.kind) ∧
  w.cell? ⟨b, o + 5, none⟩ = some (.float .f64 c.cmd.old.num) ∧ w.cell? ⟨b, o + 6, none⟩ = some (.string c.cmd.old.text) ∧ w.cell? ⟨b, o + 7, none⟩ = some (.int .i64 c.cmd.val.kind) ∧ w.cell? ⟨b, o + 8, none⟩ = some (.float .f64 c.cmd.val.num) ∧ w.cell? ⟨b, o + 9, none⟩ = some (.string c.cmd.val.text)
structure CallsAt (w : World) (a : Option Addr) (C : List Cl) : Prop where
  ok : ∀ c ∈ C, c.ok
  at_ : 0 < C.length → ∃ b off, a = some ⟨b, off, none⟩ ∧ ∀ i, i < C.length → (C.getD i Cl.zero).at_ w b (off + i * 10)
theorem Cl.at_.below {w w' : World} {c : Cl} {b o : Nat} (h : c.at_ w b o) (hk : Below w.heap.size w w') : c.at_ w' b o := by
  have g : ∀ j v, w.cell? ⟨b, j, none⟩ = some v → w'.cell? ⟨b, j, none⟩ = some v := fun j v hc => (World.cell?_of_block (w := w) (hk.block b (World.block_lt_of_cell? w _ hc))).trans hc
  obtain ⟨h0, h1, h2, h3, h4, h5, h6, h7, h8, h9⟩ := h
  exact ⟨g _ _ h0, g _ _ h1, g _ _ h2, g _ _ h3, g _ _ h4, g _ _ h5, g _ _ h6, g _ _ h7, g _ _ h8, g _ _ h9⟩
theorem CallsAt.below {w w' : World} {a : Option Addr} {C : List Cl} (h : CallsAt w a C) (hk : Below w.heap.size w w') : CallsAt w' a C := by
  refine ⟨h.ok, fun h0 => ?_⟩
  obtain ⟨b, off, ha, hc⟩ := h.at_ h0
  exact ⟨b, off, ha, fun i hi => (hc i hi).below hk⟩
theorem CallsAt.get {w : World} {a : Option Addr} {C : List Cl} (h : CallsAt w a C) {i : Nat} (hi : i < C.length) : (C.getD i Cl.zero).ok := h.ok _ (by simp [hi])
set_option maxRecDepth 100000 in
theorem trod_call {H : Type} {enc : TypeId × Value → H} {w : World} {base : Nat} {spare : Nat → Bool} {held : Bool} {n : Nat} {cs : List Value} {z : DataW H × List MemPlace} (hlen : cs.length = 10)
    (ht : DataW.trod enc Tryz.prog w base spare held n 84 cs = some z) : ∃ c : Cl, c.ok ∧ cs = c.cells := by
  obtain ⟨ys, n', _, _, _, hyl, hf⟩ := DataW.trod_struct Tryz.underlying84 ht
  have c3 : Tryz.prog.cellsOf 3 = 1 := by kernel_rfl
  have cc : Tryz.prog.cellsOf 82 = 8 := by kernel_rfl
  match cs, hlen, ys, hyl with
  | [v0, v1, v2, v3, v4, v5, v6, v7, v8, v9], _, [y0, y1, y2], _ =>
    have t0 : DataW.trod enc Tryz.prog w base spare held n' 3 (([v0, v1, v2, v3, v4, v5, v6, v7, v8, v9].drop 0).take (Tryz.prog.cellsOf 3)) = some y0 := hf 0 _ rfl
    rw [c3] at t0
    have t1 : DataW.trod enc Tryz.prog w base spare held n' 3 (([v0, v1, v2, v3, v4, v5, v6, v7, v8, v9].drop 1).take (Tryz.prog.cellsOf 3)) = some y1 := hf 1 _ rfl
    rw [c3] at t1
    have t2 : DataW.trod enc Tryz.prog w base spare held n' 82 (([v0, v1, v2, v3, v4, v5, v6, v7, v8, v9].drop 2).take (Tryz.prog.cellsOf 82)) = some y2 := hf 2 _ rfl
    rw [cc] at t2
    obtain ⟨q, rfl⟩ := trod_int1 Tryz.underlying3 (x := y0) t0
    obtain ⟨r, rfl⟩ := trod_int1 Tryz.underlying3 (x := y1) t1
    obtain ⟨c, hc, he⟩ := trod_cmd (z := y2) rfl t2
    have he : [v2, v3, v4, v5, v6, v7, v8, v9] = c.cells := he
    simp only [Cm.cells, List.cons.injEq, and_true] at he
    obtain ⟨rfl, rfl, rfl, rfl, rfl, rfl, rfl, rfl⟩ := he
    exact ⟨⟨q, r, c⟩, hc, rfl⟩
set_option maxRecDepth 100000 in
theorem in_calls {H : Type} {enc : TypeId × Value → H} {w : World} {base : Nat} {spare : Nat → Bool} {held : Bool} {a : Option Addr} {len cap : Nat} {d : DataW H} {ps : List MemPlace}
    (h : DataW.Trod enc Tryz.prog w base spare held 42 (.slice a len cap) d ps) : ∃ C : List Cl, C.length = len ∧ CallsAt w a C := by
  obtain ⟨fuel, hf⟩ := h
  have hC : Tryz.prog.cellsOf 84 = 10 := by kernel_rfl
  rcases open_slice Tryz.underlying42 hf with ⟨h1, _⟩ | ⟨x, len', cap', m, n, D, Pl, h1, _, hl, hm, hmm, _, hx⟩
  · simp [Value.cells] at h1
    obtain ⟨rfl, rfl, rfl⟩ := h1
    exact ⟨[], rfl, fun _ h => by simp at h, fun h => by simp at h⟩
  · simp [Value.cells] at h1
    obtain ⟨rfl, rfl, rfl⟩ := h1
    rw [hC] at hx
    have hle : len ≤ m := by rw [hmm]; split <;> omega
    have hV : ∀ i, i < len → ∃ y : Cl, y.ok ∧ ∀ j : Nat, j < 10 → w.cell? ((x.add (i * 10)).add j) = y.cell j := fun i hi => by
      obtain ⟨cs, hcs, ht⟩ := hx i (by omega)
      obtain ⟨_, hlen, hat⟩ := World.cells?_some hcs
      obtain ⟨c, hc, rfl⟩ := trod_call hlen ht
      refine ⟨c, hc, fun j hj => ?_⟩
      rw [hat j hj]
      match j, hj with
      | 0, _ => rfl
      | 1, _ => rfl
      | 2, _ => rfl
      | 3, _ => rfl
      | 4, _ => rfl
      | 5, _ => rfl
      | 6, _ => rfl
      | 7, _ => rfl
      | 8, _ => rfl
      | 9, _ => rfl
    obtain ⟨f, hf2⟩ := Kv.choose_lt hV
    refine ⟨(List.range len).map f, by simp, ⟨fun y hy => ?_, fun h0 => ?_⟩⟩
    · obtain ⟨i, hi, rfl⟩ := List.mem_map.1 hy
      exact (hf2 i (List.mem_range.1 hi)).1
    · simp at h0
      obtain ⟨b, off, spot⟩ := x
      have c0 := (hf2 0 (by omega)).2 0 (by decide)
      have hspot : spot = Option.none := by
        have : w.cell? (((⟨b, off, spot⟩ : Addr).add (0 * 10)).add 0) = some (.int .i64 (f 0).client) := c0
        simpa [Addr.add] using World.cell?_spot this
      subst hspot
      refine ⟨b, off, rfl, fun i hi => ?_⟩
      simp at hi
      have hg : ((List.range len).map f).getD i Cl.zero = f i := by simp [hi]
      rw [hg]
      have hc := (hf2 i hi).2
      have e : ∀ j, ((⟨b, off, Option.none⟩ : Addr).add (i * 10)).add j = ⟨b, off + i * 10 + j, Option.none⟩ := fun j => by
        rw [Go.WideShapes.add_plain, Go.WideShapes.add_plain]
      simp only [e] at hc
      exact ⟨hc 0 (by decide), hc 1 (by decide), hc 2 (by decide), hc 3 (by decide), hc 4 (by decide), hc 5 (by decide), hc 6 (by decide), hc 7 (by decide), hc 8 (by decide), hc 9 (by decide)⟩
end Go.Proofs.YtlgmjkbaihpmmaaGreat.Ss
end
section
/- Walks of the keeper's Float, Bytes, SpoilBytes. -/
namespace Go.Proofs.YtlgmjkbaihpmmaaGreat.Pk
open Go Go.RowKit Mem
attribute [local go_sem] run_bits run_frombits
def keepF (a b : Nat) : Bool := (Nm.isNaN a && Nm.isNaN b) || ((a : Int) == (b : Int))
set_option maxHeartbeats 1000000 in
theorem KFloat_any (a b : Nat) (w : World) :
    Calls Tryz.prog 80 #[.float .f64 a, .float .f64 b] w fun e w' => e = .returned (.bool (keepF a b)) ∧ w = w' := by
  cases ha : Nm.isNaN a <;> cases hb : Nm.isNaN b
  all_goals
    have h1 : (FloatKind.f64.format.order a a != some .eq) = _ := ha
    have h2 : (FloatKind.f64.format.order b b != some .eq) = _ := hb
    go_enter Tryz.func80, Tryz.ntmps80
    go_wp2
    go_ret
    exact ⟨by simp [keepF, ha, hb], rfl⟩
theorem keepF_canon (x : Nat) : keepF (Nm.canon x) x = true := by
  unfold keepF
  rw [Nm.isNaN_canon]
  cases h : Nm.isNaN x
  · simp [Nm.canon_num h]
  · simp

/-- what the comparison of bytes answers -/
def SameB (l m : List Nat) (w : World) (x : Ending) (w' : World) : Prop := x = .returned (.bool (decide (l = m))) ∧ ∃ n, w' = w.drewN n
theorem same_next {l m : List Nat} {k : Nat} (hk : k < l.length) (hm : k < m.length) (h : l.take k = m.take k) (he : l.getD k 0 = m.getD k 0) : l.take (k + 1) = m.take (k + 1) := by
  rw [List.take_succ_eq_append_getElem hk, List.take_succ_eq_append_getElem hm, h]
  simp [hk, hm] at he
  rw [he]
theorem not_same {l m : List Nat} {k : Nat} (h : ¬ l.getD k 0 = m.getD k 0) : decide (l = m) = false := by
  simp only [decide_eq_false_iff_not]
  intro e; subst e; exact h rfl
set_option maxHeartbeats 1000000 in
theorem KBytes_any (b : Nat) (a : Option Addr) (cap : Nat) (l : List Nat) (b2 : Nat) (a2 : Option Addr) (cap2 : Nat) (m : List Nat) (w : World) (h : Src w b a cap l) (h2 : Src w b2 a2 cap2 m) (hl : l.length ≤ 35184372088832) (hm : m.length ≤ 35184372088832) :
    Calls Tryz.prog 9 #[.slice a l.length cap, .slice a2 m.length cap2] w (SameB l m w) := by
  have HS := Lib.hid h
  have HS2 := Lib.hid h2
  clear h h2
  by_cases hlen : l.length = m.length
  · have HLEN := Lib.hid hlen
    have hne : ((l.length : Int) != m.length) = false := by simp [hlen]
    clear hlen
    go_enter Tryz.func9, Tryz.ntmps9
    go_wp2
    go_loopw [5] (fun i wr => ∃ k n : Nat, k ≤ l.length ∧ i = .int .i64 k ∧ Hid (l.take k = m.take k) ∧ wr = w.drewN n) (fun i _ => l.length - (intOf i).toNat)
    case atStart => exact ⟨0, 0, by omega, rfl, rfl, rfl⟩
    case round =>
      obtain ⟨k, n, hk, rfl, hs, rfl⟩ := hrel
      by_cases hlt : k < l.length
      · have hlt2 : k < m.length := by rw [← HLEN.out]; exact hlt
        obtain ⟨o1, rfl, c1⟩ := Src.at_ HS.out (by omega)
        obtain ⟨o2, rfl, c2⟩ := Src.at_ HS2.out (by omega)
        have d1 := c1 k hlt
        have d2 := c2 k hlt2
        clear c1 c2
        obtain ⟨q, hq⟩ : ∃ q, (((l.getD k 0 : Nat) : Int) != ((m.getD k 0 : Nat) : Int)) = q := ⟨_, rfl⟩
        have HQ := Lib.hid hq
        have hsn := Lib.hid (same_next hlt hlt2 hs.out)
        have hno := Lib.hid (not_same (l := l) (m := m) (k := k))
        generalize l.getD k 0 = y1 at *
        generalize m.getD k 0 = y2 at *
        cases q
        · go_wp2
          go_quiet (fail)
          go_wp2
          go_roundw
          case rel => exact ⟨k + 1, n + nq, by omega, by go_num, hsn.out (by have := HQ.out; simp at this; omega), by first | rfl | (rw [World.drewN_drewN])⟩
          case measure => simp [intOf]; omega
        · go_wp2
          go_quiet (fail)
          go_wp2
          go_ret
          exact ⟨ret_bool (hno.out (by have := HQ.out; simp at this; omega)).symm, n + nq, by first | rfl | (rw [World.drewN_drewN])⟩
      · obtain rfl : k = l.length := by omega
        go_wp2
        go_ret
        have e := hs.out
        rw [List.take_length, HLEN.out, List.take_length] at e
        exact ⟨ret_bool (by simp [e]), n, rfl⟩
  · have HLEN := Lib.hid hlen
    have hne : ((l.length : Int) != m.length) = true := by simp; omega
    clear hlen
    go_enter Tryz.func9, Tryz.ntmps9
    go_wp2
    go_ret
    exact ⟨ret_bool (by simp only [Bool.false_eq, decide_eq_false_iff_not]; intro e; exact HLEN.out (by rw [e])), 0, rfl⟩
end Go.Proofs.YtlgmjkbaihpmmaaGreat.Pk
end
section
/- What is handed in, opened: slices of bytes, of ints. -/
namespace Go.Proofs.YtlgmjkbaihpmmaaGreat.Pk
open Go Go.ChangeShapes Go.WideShapes Go.RowKit Go.Deep Mem

/-- what is known of a slice of bytes that came in -/
def BytesIn (w : World) (a : Option Addr) (len cap : Nat) : Prop := ∃ b l, l.length = len ∧ Src w b a cap l ∧ B8 l
theorem in_bytes {H : Type} {enc : TypeId × Value → H} {P : Program} {w : World} {base : Nat} {spare : Nat → Bool} {held : Bool} {t e : TypeId} {a : Option Addr} {len cap : Nat} {d : DataW H} {ps : List MemPlace}
    (ht : P.underlying t = some (.slice e)) (he : P.underlying e = some (.int .u8)) (hc : P.cellsOf e = 1) (h : DataW.Trod enc P w base spare held t (.slice a len cap) d ps) : BytesIn w a len cap := by
  obtain ⟨fuel, hf⟩ := h
  rcases open_slice1 ht hc hf with ⟨h1, _⟩ | ⟨x, len', cap', m, n, V, D, Pl, h1, _, hl, hm, hmm, _, hx⟩
  · simp [Value.cells] at h1
    obtain ⟨rfl, rfl, rfl⟩ := h1
    exact ⟨0, [], rfl, .inl ⟨Nat.le_refl _, by decide, .inl ⟨rfl, rfl, rfl⟩⟩, B8.nil⟩
  · simp [Value.cells] at h1
    obtain ⟨rfl, rfl, rfl⟩ := h1
    have hle : len ≤ m := by rw [hmm]; split <;> omega
    have hV : ∀ i, i < len → ∃ b : Nat, b < 256 ∧ V i = .int .u8 b := fun i hi => by
      obtain ⟨q, hq, _, hw⟩ := DataW.trod_int he (hx i (by omega)).2
      have h2 : IntKind.u8.min ≤ q ∧ q ≤ IntKind.u8.max := by simpa [Lit.wf] using hw
      have h3 : (0 : Int) ≤ q ∧ q ≤ 255 := h2
      exact ⟨q.toNat, by omega, by simp at hq; rw [hq]; congr 1; omega⟩
    obtain ⟨f, hf2⟩ := choose_lt (p := fun i (b : Nat) => b < 256 ∧ V i = .int .u8 b) hV
    have h8 : B8 ((List.range len).map f) := by
      intro y hy
      obtain ⟨i, hi, rfl⟩ := List.mem_map.1 hy
      exact (hf2 i (List.mem_range.1 hi)).1
    by_cases h0 : len = 0
    · subst h0
      exact ⟨0, [], rfl, .inr ⟨rfl, by simp⟩, B8.nil⟩
    · obtain ⟨b, off, spot⟩ := x
      have c0 := (hx 0 (by omega)).1
      have hspot : spot = none := by simpa [Addr.add] using World.cell?_spot c0
      subst hspot
      refine ⟨b, (List.range len).map f, by simp, .inl ⟨by simpa using hl, by unfold maxLen at hm; exact hm, .inr ⟨off, rfl, fun i hi => ?_⟩⟩, h8⟩
      simp at hi
      rw [← Go.WideShapes.add_plain, (hx i (by omega)).1, (hf2 i hi).2]
      simp [hi]

/-- the ints that a slice shows -/
def Ints (w : World) (a : Option Addr) (L : List Int) : Prop :=
  (∀ x ∈ L, -9223372036854775808 ≤ x ∧ x ≤ 9223372036854775807) ∧ L.length ≤ 9223372036854775807 ∧ (0 < L.length → ∃ b off, a = some ⟨b, off, none⟩ ∧ ∀ i, i < L.length → w.cell? ⟨b, off + i, none⟩ = some (.int .i64 (L.getD i 0)))
theorem Ints.kept {w w' : World} {a : Option Addr} {L : List Int} (h : Ints w a L) (hk : Kept None w w') : Ints w' a L := by
  refine ⟨h.1, h.2.1, fun h0 => ?_⟩
  obtain ⟨b, off, ha, hc⟩ := h.2.2 h0
  exact ⟨b, off, ha, fun i hi => (hk.cell (p := ⟨b, off + i, none⟩) (World.block_lt_of_cell? w _ (hc i hi)) (fun h => h)).trans (hc i hi)⟩
def IntsIn (w : World) (a : Option Addr) (len cap : Nat) : Prop := len ≤ cap ∧ ∃ L, L.length = len ∧ Ints w a L
theorem in_ints {H : Type} {enc : TypeId × Value → H} {P : Program} {w : World} {base : Nat} {spare : Nat → Bool} {held : Bool} {t e : TypeId} {a : Option Addr} {len cap : Nat} {d : DataW H} {ps : List MemPlace}
    (ht : P.underlying t = some (.slice e)) (he : P.underlying e = some (.int .i64)) (hc : P.cellsOf e = 1) (h : DataW.Trod enc P w base spare held t (.slice a len cap) d ps) : IntsIn w a len cap := by
  obtain ⟨fuel, hf⟩ := h
  rcases open_slice1 ht hc hf with ⟨h1, _⟩ | ⟨x, len', cap', m, n, V, D, Pl, h1, _, hl, hm, hmm, _, hx⟩
  · simp [Value.cells] at h1
    obtain ⟨rfl, rfl, rfl⟩ := h1
    exact ⟨Nat.le_refl _, [], rfl, (by simp), by simp, by simp⟩
  · simp [Value.cells] at h1
    obtain ⟨rfl, rfl, rfl⟩ := h1
    have hle : len ≤ m := by rw [hmm]; split <;> omega
    have hV : ∀ i, i < len → ∃ q : Int, (-9223372036854775808 ≤ q ∧ q ≤ 9223372036854775807) ∧ V i = .int .i64 q := fun i hi => by
      obtain ⟨q, hq, _, hw⟩ := DataW.trod_int he (hx i (by omega)).2
      have h2 : IntKind.i64.min ≤ q ∧ q ≤ IntKind.i64.max := by simpa [Lit.wf] using hw
      exact ⟨q, h2, by simp at hq; rw [hq]⟩
    obtain ⟨f, hf2⟩ := choose_lt (p := fun i (q : Int) => (-9223372036854775808 ≤ q ∧ q ≤ 9223372036854775807) ∧ V i = .int .i64 q) hV
    refine ⟨hl, (List.range len).map f, by simp, fun y hy => ?_, by unfold maxLen at hm; simp; omega, fun h0 => ?_⟩
    · obtain ⟨i, hi, rfl⟩ := List.mem_map.1 hy
      exact (hf2 i (List.mem_range.1 hi)).1
    · simp at h0
      obtain ⟨b, off, spot⟩ := x
      have c0 := (hx 0 (by omega)).1
      have hspot : spot = none := by simpa [Addr.add] using World.cell?_spot c0
      subst hspot
      refine ⟨b, off, rfl, fun i hi => ?_⟩
      simp at hi
      rw [← Go.WideShapes.add_plain, (hx i (by omega)).1, (hf2 i hi).2]
      simp [hi]
end Go.Proofs.YtlgmjkbaihpmmaaGreat.Pk
end
