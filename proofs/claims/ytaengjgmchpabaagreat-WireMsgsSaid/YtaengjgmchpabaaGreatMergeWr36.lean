import Derived.Test.YtaengjgmchpabaaGreatWireW6
import Derived.Defers
import Derived.Recover
import Derived.Test.YtaengjgmchpabaaGreatWireF4
import Derived.Test.YtaengjgmchpabaaGreatMergeWr6
import Derived.Test.YtaengjgmchpabaaGreatMergeWr9
import Derived.Test.YtaengjgmchpabaaGreatMergeWr12
section
/- Cut out of WireW7 so that every seat fills it. -/
namespace Go.Proofs.YtaengjgmchpabaaGreat.Wr
open Go Go.RowKit Vl Kv Ss Cn Mem Lg Nm
attribute [local go_sem] Nm.run_bits Nm.run_frombits run_store_float
variable {w0 wr : World} {bw : Nat} {o : Option (List Nat)} {F : List (Nat × Obj)}
theorem lenO_conf (o : Option (List Nat)) (c : C) : lenO (app o (cConf.enc c)) ≤ lenO o + 40 := by
  have h1 := lenO_app o (cConf.enc c)
  rw [cConf_enc] at *
  have a1 := (Pk.intB_len c.f).2
  have a2 := (Pk.intB_len c.w).2
  have a3 := (Pk.intB_len c.l).2
  have a4 := (Pk.intB_len c.x).2
  simp only [List.length_append] at h1
  omega
/-- what entries leaves, where it is not thrown, and where it is -/
theorem entries_yes (h : Yw w0 wr bw o F) {a : Option Addr} {cap n : Nat} {L : List E} (hn : n = L.length) (hL : EntAt w0 a cap L) (hf : ∀ x ∈ L, FitE x) (hl0 : L.length ≤ 14000) {most : Int} (hm : (L.length : Int) ≤ most) (hk : okL L = true) (hl : lenO o ≤ 1500000000) :
    Calls Tryz.prog 37 #[.pointer (some ⟨bw, 0, none⟩), .slice a n cap, .int .i64 most] wr fun y w' => y = .returned (.tuple #[]) ∧ Yw w0 w' bw (app o (listB L)) F := by
  subst hn
  have := entries_any h hL hf hl0 most hl
  unfold lR at this
  rw [if_pos ⟨hm, hk⟩] at this
  exact this
theorem entries_no (h : Yw w0 wr bw o F) {a : Option Addr} {cap n : Nat} {L : List E} (hn : n = L.length) (hL : EntAt w0 a cap L) (hf : ∀ x ∈ L, FitE x) (hl0 : L.length ≤ 14000) {most : Int} (hk : ¬ ((L.length : Int) ≤ most ∧ okL L = true)) (hl : lenO o ≤ 1500000000) :
    Calls Tryz.prog 37 #[.pointer (some ⟨bw, 0, none⟩), .slice a n cap, .int .i64 most] wr fun y w' => y = .panicked thr ∧ ∃ o, Yw w0 w' bw o F := by
  subst hn
  have := entries_any h hL hf hl0 most hl
  unfold lR at this
  rw [if_neg hk] at this
  exact this
end Go.Proofs.YtaengjgmchpabaaGreat.Wr
end
section
/- The landed written: what is thrown is caught. -/
namespace Go.Proofs.YtaengjgmchpabaaGreat.Wr
open Go Go.RowKit Vl Kv Ss Cn Mem Lg Nm
attribute [local go_sem] Nm.run_bits Nm.run_frombits run_store_float
set_option maxRecDepth 100000 in
theorem results_cells2 {fn : Func} {p q : Tmp} {ty tz : TypeId} (h : fn.results = #[.cell p ty, .cell q tz]) (tmps : Array Value) (P : Program) (w : World) :
    (results fn tmps).run P w = ((asAddr (tmps.getD p undef)).run P w).andThen fun a w₁ => ((loadVar ty a).run P w₁).andThen fun x w₂ => ((asAddr (tmps.getD q undef)).run P w₂).andThen fun b w₃ => ((loadVar tz b).run P w₃).andThen fun y w₄ => .ok (.tuple #[x, y]) w₄ := by
  simp only [results, h]
  simp [Sem.run_bind, Result.andThen]
set_option maxRecDepth 100000 in
theorem run_assertE (v : Value) (w : World) : (Instr.typeAssert (.iface 30 v) 20 30 false).run Tryz.prog w = .ok v w := by
  simp [Instr.typeAssert, run_underlying Tryz.underlying30]
set_option maxRecDepth 100000 in
/-- where nothing was thrown, nothing is done -/
theorem catchW_idle (p0 p1 : Value) (w : World) :
    CallsD Tryz.prog 33 #[p0, p1] .returning w fun e u' w' => e = .returned (.tuple #[]) ∧ u' = .returning ∧ w' = w := by
  refine callsD_of_wpS Tryz.func33 rfl fun c₀ cs hu => ?_
  apply wpS_seq
  apply wpS_region
  simp [wpOpsS, go_sem, recoverD, hu, Tryz.ntmps33, Exit.thenS]
  show Code.wpS _ _ _ { tmps := #[p0, p1, .nilIface, .nilIface, undef, undef, undef, undef], defers := [] } _ _
  refine wpS_of_wp ?_
  go_wp2
  cases c₀
  simp_all [bodyPostS, results, Tryz.results33]
def TwoK (b c : Nat) : Nat → Prop := fun k => k = b ∨ k = c
theorem TwoK.l {b c : Nat} : TwoK b c b := .inl rfl
theorem TwoK.r {b c : Nat} : TwoK b c c := .inr rfl
set_option maxRecDepth 100000 in
theorem catchW_thrown {w : World} {b c : Nat} {x y : Value} {T U : TypeId} (hb : w.heap[b]? = some (.cells #[x] T)) (hc : w.heap[c]? = some (.cells #[y] U)) (hne : b ≠ c) :
    CallsD Tryz.prog 33 #[.pointer (some ⟨b, 0, none⟩), .pointer (some ⟨c, 0, none⟩)] (.panicking thr) w fun e u' w' =>
      e = .returned (.tuple #[]) ∧ u' = .panicking [{ v := .iface 30 (.int .i64 3), recovered := true }] ∧
      w'.heap[b]? = some (.cells #[.slice none 0 0] T) ∧ w'.heap[c]? = some (.cells #[.int .i64 3] U) ∧ Kept (TwoK b c) w w' := by
  refine callsD_of_wpS Tryz.func33 rfl fun c₀ cs hu => ?_
  unfold thr at hu
  apply wpS_seq
  apply wpS_region
  simp [wpOpsS, go_sem, recoverD, hu, Tryz.ntmps33, Exit.thenS]
  show Code.wpS _ _ _ { tmps := #[.pointer (some ⟨b, 0, none⟩), .pointer (some ⟨c, 0, none⟩), .iface 30 (.int .i64 3), .iface 30 (.int .i64 3), undef, undef, undef, undef], defers := [] } _ _
  refine wpS_of_wp ?_
  have hra := fun w => run_assertE (.int .i64 3) w
  have HB := Lib.hid hb
  have HC := Lib.hid hc
  have b0 := Bh.cells1 hb
  have b1 := Bh.frozen_of hb 0
  have c0 := Bh.cells1 hc
  have c1 := Bh.frozen_of hc 0
  have hne2 : c ≠ b := fun e => hne e.symm
  clear hb hc
  go_wp2_with fail
  go_region
  all_goals
    go_wp2_with fail
    refine ⟨rfl, .panicking [{ v := .iface 30 (.int .i64 3), recovered := true }], rfl, .tuple #[], results_none rfl _ _ _, rfl, rfl, ?_, ?_, ?_⟩
    · exact (Below.heap_setCell _ _ _ _ hne).trans (Bh.heap_set _ HB.out)
    · have : (w.setCell ⟨b, 0, none⟩ (.slice none 0 0)).heap[c]? = some (.cells #[y] U) := (Below.heap_setCell _ _ _ _ hne2).trans HC.out
      exact Bh.heap_set _ this
    · exact (((Kept.refl (TwoK b c) w).setAt (.inl TwoK.l) 0 _).setAt (.inl TwoK.r) 0 _).drewN 1
theorem own_set {w : World} {b k cap : Nat} {a : Option Addr} {l : List Nat} (h : OwnB 5 w b a cap l) (hk : b ≠ k) (i : Nat) (v : Value) : OwnB 5 (w.setCell ⟨k, i, none⟩ v) b a cap l :=
  h.kept ((Kept.refl (Only k) w).setAt (.inl rfl) i v) (fun _ e => hk e)
theorem four_q {w : World} {p q : Nat} {a b c d y : Value} {T : TypeId} (hq : w.heap[q]? = some (.cells #[y] T)) (hne : p ≠ q) : ((((w.setCell ⟨p, 0, none⟩ a).setCell ⟨q, 0, none⟩ b).setCell ⟨p, 0, none⟩ c).setCell ⟨q, 0, none⟩ d).cell? ⟨q, 0, none⟩ = some d := by
  have h1 : (w.setCell ⟨p, 0, none⟩ a).heap[q]? = _ := (Below.heap_setCell _ _ _ _ (fun e => hne e.symm)).trans hq
  have h2 := Bh.heap_set (i := 0) b h1
  have h3 : (((w.setCell ⟨p, 0, none⟩ a).setCell ⟨q, 0, none⟩ b).setCell ⟨p, 0, none⟩ c).heap[q]? = _ := (Below.heap_setCell _ _ _ _ (fun e => hne e.symm)).trans h2
  exact Bh.cells1 (Bh.heap_set (i := 0) d h3)
/-- what written answers -/
def EncTold (r : Option (Option (List Nat))) (w : World) (e : Ending) (w' : World) : Prop :=
  Beh w w' ∧ match r with
    | none => e = .returned (.tuple #[.slice none 0 0, .int .i64 3])
    | some none => e = .returned (.tuple #[.slice none 0 0, .int .i64 2])
    | some (some l) => (l.length ≤ 16384 → ∃ b a cap, e = .returned (.tuple #[.slice a l.length cap, .int .i64 0]) ∧ OwnB 5 w' b a cap l ∧ w.heap.size ≤ b) ∧ (16384 < l.length → e = .returned (.tuple #[.slice none 0 0, .int .i64 2]))
set_option maxRecDepth 100000 in
theorem door_thrown {w0 w : World} {bw : Nat} {o : Option (List Nat)} {F : List (Nat × Obj)} {b c : Nat} {x y : Value} (h : Yw w0 w bw o F) (hb : (b, .cells #[x] 25) ∈ F) (hc : (c, .cells #[y] 30) ∈ F) (hne : b ≠ c) (h0 : w0.heap.size ≤ b) (h1 : w0.heap.size ≤ c) (tmps : Array Value)
    (t4 : tmps.getD 2 undef = .pointer (some ⟨b, 0, none⟩)) (t5 : tmps.getD 3 undef = .pointer (some ⟨c, 0, none⟩)) :
    Leaves Tryz.prog Tryz.f15 tmps (EncTold none w0) [{ target := .fn (.func 33) #[.pointer (some ⟨b, 0, none⟩), .pointer (some ⟨c, 0, none⟩)], args := #[] }] (.panicking thr) w := by
  refine leaves_cons (f := 33) (args := #[.pointer (some ⟨b, 0, none⟩), .pointer (some ⟨c, 0, none⟩)]) (by simp) (by simp [go_sem]) ?_
  refine (catchW_thrown (h.get hb) (h.get hc) hne).mono ?_
  rintro e u' w'' ⟨rfl, rfl, hb2, hc2, hk⟩
  have x0 := Bh.cells1 hb2
  have y0 := Bh.cells1 hc2
  refine ⟨.tuple #[.slice none 0 0, .int .i64 3], ?_, h.beh.below.trans (hk.below h.beh.size (fun k hk => ?_)), rfl⟩
  · rw [results_cells2 rfl, t4, t5]
    go_simp
  · rcases hk with rfl | rfl
    · exact h0
    · exact h1
end Go.Proofs.YtaengjgmchpabaaGreat.Wr
end
section
/- What written tells: its ways. -/
namespace Go.Proofs.YtaengjgmchpabaaGreat.Wr
open Go Go.RowKit Vl Kv Ss Cn Mem Lg Nm
theorem EncTold.from {r : Option (Option (List Nat))} {w w1 w' : World} {e : Ending} (hb : Beh w w1) (h : EncTold r w1 e w') : EncTold r w e w' := by
  obtain ⟨h1, h2⟩ := h
  refine ⟨hb.trans h1, ?_⟩
  match r, h2 with
  | none, h2 => exact h2
  | some none, h2 => exact h2
  | some (some l), h2 =>
    refine ⟨fun h => ?_, h2.2⟩
    obtain ⟨b, a, cap, e1, e2, e3⟩ := h2.1 h
    exact ⟨b, a, cap, e1, e2, Nat.le_trans hb.size e3⟩
theorem EncTold.ways {r : Option (Option (List Nat))} {w w' : World} {e : Ending} (h : EncTold r w e w') : (∃ c : Int, e = .returned (.tuple #[.slice none 0 0, .int .i64 c])) ∨ ∃ (l : List Nat) (a : Option Addr) (cap : Nat), e = .returned (.tuple #[.slice a l.length cap, .int .i64 0]) := by
  obtain ⟨_, h2⟩ := h
  match r, h2 with
  | none, h2 => exact .inl ⟨3, h2⟩
  | some none, h2 => exact .inl ⟨2, h2⟩
  | some (some l), h2 =>
    by_cases h : l.length ≤ 16384
    · obtain ⟨b, a, cap, e1, _⟩ := h2.1 h
      exact .inr ⟨l, a, cap, e1⟩
    · exact .inl ⟨2, h2.2 (by omega)⟩
end Go.Proofs.YtaengjgmchpabaaGreat.Wr
end
section
/- Cut out of WireF5 so that every seat fills it. -/
namespace Go.Proofs.YtaengjgmchpabaaGreat.Wr
open Go Go.RowKit Vl Kv Ss Cn Mem Lg Nm
attribute [local go_sem] Nm.run_bits Nm.run_frombits run_store_float
theorem ok_kind {x : E} (h : okE x = true) : x.kind = 0 ∨ x.kind = 1 ∨ x.kind = 2 := by
  unfold okE at h
  rw [Bool.and_eq_true, Bool.and_eq_true, Bool.and_eq_true, Bool.and_eq_true, decide_eq_true_eq, decide_eq_true_eq] at h
  omega
theorem refBytesW (x : E) (hf : FitE x) (ho : okE x = true) (w : World) : Calls Tryz.prog 72 #[x.agg] w (Pk.NewB (cEnt.enc x) w) := by
  have hk := ok_kind ho
  obtain ⟨tm, kd, ⟨cl, sq, ⟨ck, ky, ⟨o1, o2, o3⟩, ⟨u1, u2, u3⟩⟩⟩, ⟨f, wt, l, xx⟩⟩ := x
  rcases hk with h | h | h
  · have h : kd = 0 := h
    subst h
    exact refBytes0 tm cl sq ck ky o1 o2 o3 u1 u2 u3 f wt l xx w hf
  · have h : kd = 1 := h
    subst h
    exact refBytes1 tm cl sq ck ky o1 o2 o3 u1 u2 u3 f wt l xx w hf ho
  · have h : kd = 2 := h
    subst h
    exact refBytes2 tm cl sq ck ky o1 o2 o3 u1 u2 u3 f wt l xx w hf
set_option maxHeartbeats 800000 in
theorem sized_yes {a : Option Addr} {n cap : Nat} (h : n ≤ 16384) (w : World) : Calls Tryz.prog 22 #[.slice a n cap] w fun e w' => e = .returned (.tuple #[.slice a n cap, .int .i64 0]) ∧ w = w' := by
  have d1 : decide ((16384 : Int) < (n : Int)) = false := decide_eq_false (by omega)
  clear h
  go_enter Tryz.func22, Tryz.ntmps22
  go_wp2_with fail
  go_ret2
  exact ⟨rfl, rfl⟩
set_option maxHeartbeats 800000 in
theorem sized_no {a : Option Addr} {n cap : Nat} (h : ¬ n ≤ 16384) (w : World) : Calls Tryz.prog 22 #[.slice a n cap] w fun e w' => e = .returned (.tuple #[.slice none 0 0, .int .i64 2]) ∧ w = w' := by
  have d1 : decide ((16384 : Int) < (n : Int)) = true := decide_eq_true (by omega)
  clear h
  go_enter Tryz.func22, Tryz.ntmps22
  go_wp2_with fail
  go_ret2
  exact ⟨rfl, rfl⟩
theorem enc_yes {w w' : World} {l : List Nat} {b cap : Nat} {a : Option Addr} (h : l.length ≤ 16384) (ho : OwnB 5 w' b a cap l) (hl : w.heap.size ≤ b) (hb : Beh w w') : EncTold (some (some l)) w (.returned (.tuple #[.slice a l.length cap, .int .i64 0])) w' :=
  ⟨hb, fun _ => ⟨b, a, cap, rfl, ho, hl⟩, fun h2 => by omega⟩
theorem enc_no {w w' : World} {l : List Nat} (h : ¬ l.length ≤ 16384) (hb : Beh w w') : EncTold (some (some l)) w (.returned (.tuple #[.slice none 0 0, .int .i64 2])) w' :=
  ⟨hb, fun h2 => absurd h2 h, fun _ => rfl⟩
set_option maxHeartbeats 3200000 in
set_option maxRecDepth 100000 in
theorem refListW (a : Option Addr) (cap : Nat) (L : List E) (w : World) (h : EntAt w a cap L) (hf : ∀ x ∈ L, FitE x) (ho : okL L = true) (hm : L.length ≤ 100000) :
    Calls Tryz.prog 44 #[.slice a L.length cap] w (Pk.NewB (listB L) w) := by
  obtain ⟨i0, hi0, hz0, hz1, hz2⟩ := info_parts Pk.infoU8
  have HI := Lib.hid h
  have HF := Lib.hid hf
  have HOK := Lib.hid (List.all_eq_true.1 ho)
  obtain ⟨L0, hL0⟩ : ∃ L0, L0 = Pk.intB L.length := ⟨_, rfl⟩
  have HE : Hid (listB L = L0 ++ L.flatMap cEnt.enc) := Lib.hid (by rw [hL0]; rfl)
  rw [HE.out]
  have hl0 : L0.length ≤ 10 := by rw [hL0]; exact (Pk.intB_len _).2
  have HIN : Hid (Calls Tryz.prog 21 #[.int .i64 (L.length : Int)] w (Pk.NewB L0 w)) := by rw [hL0]; exact Pk.refInt_any (L.length : Int) w (by omega) (by omega)
  clear h hf ho hL0
  go_enter Tryz.func44, Tryz.ntmps44
  go_wp2_with fail
  refine Calls.mono HIN.out ?_
  rintro e w1 ⟨b1, a1, u1, rfl, ho, hb, hk, hb2⟩
  have HA := Lib.hid (Ac.start (w0 := w) ho hb hk hb2 [] (fun n o hn => nomatch hn))
  clear ho hb hk hb2 HIN
  go_wp2_with fail
  go_loopw [3, 4] (fun v i wr => ∃ k : Nat, k ≤ L.length ∧ i = .int .i64 k ∧ ∃ (P : List Nat) (b : Nat) (a : Option Addr) (u : Nat), v = .slice a P.length u ∧ P.length ≤ 10 + k * 60000 ∧ Hid (P = L0 ++ (L.take k).flatMap cEnt.enc) ∧ Hid (Ac w wr P b u a [])) (fun _ i _ => L.length - (intOf i).toNat)
  case atStart => exact ⟨0, by omega, rfl, L0, b1, a1, u1, rfl, by omega, Lib.hid (by simp), HA.out⟩
  case round =>
    clear HA
    obtain ⟨k, hk, rfl, P, b2, a2, u2, rfl, hpl, HP, HA⟩ := hrel
    have hb : Beh w wr := beh_kept HA.out.kept
    by_cases hlt : k < L.length
    · obtain ⟨cS, oS, rfl, _⟩ := EntAt.cells HI.out (by omega)
      obtain ⟨_, _, he, hc⟩ := EntAt.cells (HI.out.below hb) (by omega)
      cases he
      have hc := hc k hlt
      obtain ⟨c0, c1, c2, c3, c4, c5, c6, c7, c8, c9, c10, c11, c12, c13, c14, c15⟩ := hc
      have e1 : L.getD k E.zero ∈ L := by
        have e : L.getD k E.zero = L[k] := by simp [hlt]
        rw [e]; exact List.getElem_mem hlt
      obtain ⟨Q, hQ⟩ : ∃ Q, Q = cEnt.enc (L.getD k E.zero) := ⟨_, rfl⟩
      have HK : Hid (∀ W, Calls Tryz.prog 72 #[(L.getD k E.zero).agg] W (Pk.NewB Q W)) := fun W => by rw [hQ]; exact refBytesW _ (HF.out _ e1) (HOK.out _ e1) W
      have hql : Q.length ≤ 60000 := by rw [hQ]; exact cEnt_le (HF.out _ e1)
      have HT : Hid (P ++ Q = L0 ++ (L.take (k + 1)).flatMap cEnt.enc) := Lib.hid (by rw [HP.out, hQ, take_flat (z := E.zero) hlt]; simp only [List.append_assoc])
      clear hQ e1 hb HP
      generalize L.getD k E.zero = x at *
      go_wp2_with fail
      refine Calls.mono (HK.out _) ?_
      rintro e w3 ⟨b3, a3, u3, rfl, ho, hb, hk3, hb2⟩
      have HA := Lib.hid (HA.out.on (beh_kept hk3))
      have HO := Lib.hid ho
      clear ho hb hk3 hb2 HK c0 c1 c2 c3 c4 c5 c6 c7 c8 c9 c10 c11 c12 c13 c14 c15
      go_wp2_with (at_builtin; refine wpList_append_bytes rfl _ _ 25 rfl 5 i0 Tryz.underlying25 hi0 hz0 hz1 hz2 b2 a2 u2 _ _ rfl (HA.out).own rfl b3 a3 u3 _ _ rfl HO.out.src rfl (by omega) ?_; (intro b4_ a4 u4 w4 h2 h3 h4 h9); (obtain ⟨b4, h5⟩ := HA.out.app h2 h3 h4); (have HA := Lib.hid h5); (clear h2 h3 h4 h5 h9); (generalize hP : P ++ Q = P4 at HA ⊢); (have HP4 := Lib.hid hP); (have hp4l : P4.length ≤ 10 + (k + 1) * 60000 := by rw [← hP, List.length_append]; omega); (clear hP))
      go_roundw
      case rel => exact ⟨k + 1, by omega, by go_num, P4, b4, a4, u4, rfl, by omega, Lib.hid (by rw [← HP4.out]; exact HT.out), HA.out⟩
      case measure => simp [intOf]; omega
    · obtain rfl : k = L.length := by omega
      have HQ : Hid (P = L0 ++ L.flatMap cEnt.enc) := Lib.hid (by have := HP.out; rwa [List.take_length] at this)
      clear hb HP
      go_wp2_with fail
      go_ret
      rw [← HQ.out]
      exact HA.out.new (Kept.refl _ _)
end Go.Proofs.YtaengjgmchpabaaGreat.Wr
end
section
/- The Writer's Mark. -/
namespace Go.Proofs.YtaengjgmchpabaaGreat.Pk
open Go Go.RowKit Mem
set_option maxHeartbeats 1000000 in
theorem WMark_gen (bw : Nat) (b : Bool) (w : World) (Q : World → Prop) (hput : PutsNew bw w (markB b) Q) :
    Calls Tryz.prog 36 #[.pointer (some ⟨bw, 0, none⟩), .bool b] w fun x w' => x = .returned (.tuple #[]) ∧ Q w' := by
  have HP := Lib.hid hput
  have h0 : ∀ v, (w.alloc (.cells #[v] 107)).heap[w.heap.size]? = some (.cells #[v] 107 (0, 0)) := fun v => heap_alloc_new w _
  have H0 := Lib.hid h0
  clear hput h0
  cases b
  all_goals
    go_enter Tryz.func36, Tryz.ntmps36
    go_wp2_with fail
    refine (HP.out _ w.heap.size _ 1 1 ((Kept.refl _ _).alloc _) (Nat.le_refl _) (shows_made (H0.out _) rfl (by decide) (by decide)) rfl).mono ?_
    rintro x w' ⟨rfl, h1⟩
    have H1 := Lib.hid h1
    clear h1
    go_wp2
    go_end0
    exact ⟨rfl, H1.out⟩
theorem WMark_any (bw : Nat) (S : Nat → Prop) (l : List Nat) (b : Bool) (w : World) (h : WAt w bw S l) (hlen : l.length ≤ 35184372088832) :
    Calls Tryz.prog 36 #[.pointer (some ⟨bw, 0, none⟩), .bool b] w (Put bw S (l ++ markB b) w) :=
  WMark_gen bw b w _ (puts_new bw S l w h _ (by intro x hx; cases b <;> simp [markB] at hx <;> omega) (by show _ + 1 ≤ _; omega))

end Go.Proofs.YtaengjgmchpabaaGreat.Pk
end
section
/- Cut out of LongB so that every seat fills it. -/
namespace Go.Proofs.YtaengjgmchpabaaGreat.Pk
open Go Go.RowKit Mem
theorem WMark_long (bw : Nat) (S : Nat → Prop) (b : Bool) (w : World) (h : WL w bw S) :
    Calls Tryz.prog 36 #[.pointer (some ⟨bw, 0, Option.none⟩), .bool b] w (PutL bw S w) :=
  (WMark_gen bw b w _ (puts_long bw w h.2.2 _)).mono fun _ _ ⟨hx, hk, hl⟩ => PutL.of h hx hk hl
end Go.Proofs.YtaengjgmchpabaaGreat.Pk
end
section
/- Cut out of WireSt so that every seat fills it. -/
namespace Go.Proofs.YtaengjgmchpabaaGreat.Wr
open Go Go.RowKit Vl Kv Ss Cn Mem Lg
variable {w0 wr : World} {bw : Nat} {o : Option (List Nat)} {F : List (Nat × Obj)}
theorem yMark (h : Yw w0 wr bw o F) {n : Bool} (hl : lenO o ≤ 10000000000) :
    Calls Tryz.prog 36 #[.pointer (some ⟨bw, 0, none⟩), .bool n] wr fun x w' => x = .returned (.tuple #[]) ∧ Yw w0 w' bw (app o (Pk.markB n)) F := by
  obtain ⟨S, a, b, c, d⟩ := h
  cases o with
  | none => exact (Pk.WMark_long bw S n wr a).mono fun x w' hp => Yw.putL b c d hp
  | some l => exact (Pk.WMark_any bw S l n wr a (by simp only [lenO] at hl; omega)).mono fun x w' hp => Yw.putW b c d hp
end Go.Proofs.YtaengjgmchpabaaGreat.Wr
end
