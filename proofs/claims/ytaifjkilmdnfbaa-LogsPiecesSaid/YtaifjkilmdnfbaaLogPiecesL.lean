import Derived.Test.YtaifjkilmdnfbaaLogPieceM
import Derived.Test.YtaifjkilmdnfbaaMergeLgI
import Derived.Test.YtaifjkilmdnfbaaMergeLgO
import Derived.Test.YtaifjkilmdnfbaaMergeLgR
import Derived.Test.YtaifjkilmdnfbaaLogCode8
/- The law LogsPieces. -/
namespace Go.Proofs.Ytaifjkilmdnfbaa.Lg
open Go Go.RowKit Vl Kv Ss Cn Mem Li Nm
attribute [local go_sem] Nm.run_bits Nm.run_frombits run_store_float
attribute [local irreducible] wpQuiet
/-- a load of a whole struct out of the block i, under a guard that holds -/
theorem yif_load_bxw {P : Program} {ops : Array Oper} {S : World → Prop} {o : Oper} {a : Go.Act} {w0 : World} {l : List Obj} (i : Nat) (hS : ∀ w, S w → Bh.Bx w0 l w) {ty : TypeId} {d : TypeDesc} (hu : P.underlying ty = some d) {t : TypeId} {cs : Array Value} (hl : l[i]? = some (.cells cs t))
    {x : Operand} (hgd : Region.wanted o (yielded ops a.tmps) = true) (ho : o.op = .load ty x) (hx : a.eval x = .pointer (some ⟨w0.heap.size + i, 0, none⟩))
    (hd : (match d with | .struct _ | .array _ _ => true | _ => false) = true) (hi : (P.info? ty).map (·.size) = some cs.size) : YieldsIf P ops S o (.agg cs) a :=
  .inl ⟨hgd, fun w hw => by
    unfold execOp
    simp only [ho, hx, Instr.loadAt, Instr.sureAddr, Sem.run_bind, Sem.run_pure, Result.andThen_ok, run_loadVar_row w _ t ty cs (0, 0) d ((hS w hw).box i _ hl) hu hd hi]⟩
set_option maxHeartbeats 12800000 in
set_option maxRecDepth 100000 in
theorem LogsPieces_law (h : H) (p : Hp) (i n m : Int) (w : World) (hh : HardAt w h p) :
    Calls Try.prog 10 #[h.val p, .int .i64 i, .int .i64 n, .int .i64 m] w fun e w' => e = .returned (.bool true) ∧ Below w.heap.size w w' := by
  have HB := Lib.hid (Bh.Bx.one w (h.obj p))
  have HV1 : Hid (∀ W, Kv.Beh w W → Calls Try.prog 11 #[h.val p] W fun e w' => e = .returned (.bool (heavyL h.log || decide (32768 < (h.snap.length : Int)))) ∧ Below W.heap.size W w') := fun W hW => heavy_any h p W (hh.on hW)
  have HV2 : Hid (∀ W, Kv.Beh w W → Calls Try.prog 12 #[h.val p] W fun e w' => e = .returned (.bool (lookedB h)) ∧ Below W.heap.size W w') := fun W _ => looked_any h p W
  have HWK := fun w => Lib.hid (wakes_any w)
  (obtain ⟨c0, c1, c2, c3, c4, c5, c6, c7, c8, c9⟩ := cells10h (h := h) (p := p) HB.out.b0)
  have HA1 : Hid (HardAt w h p) := hh
  clear hh
  cases k1 : (heavyL h.log || decide (32768 < (h.snap.length : Int)))
  case true =>
    rw [k1] at HV1
    go_enter Try.func10, Try.ntmps10
    go_wp2_with (first
      | (go_at_call 11; (with_reducible refine Calls.mono (HV1.out _ ?_) ?_); exact HB.out.beh; rintro e wy ⟨rfl, hb⟩; (have HB := Lib.hid (HB.out.on hb)); clear hb; (obtain ⟨c0, c1, c2, c3, c4, c5, c6, c7, c8, c9⟩ := cells10h (h := h) (p := p) HB.out.b0))
      | (go_at_call 12; (with_reducible refine Calls.mono (HV2.out _ ?_) ?_); exact HB.out.beh; rintro e wy ⟨rfl, hb⟩; (have HB := Lib.hid (HB.out.on hb)); clear hb; (obtain ⟨c0, c1, c2, c3, c4, c5, c6, c7, c8, c9⟩ := cells10h (h := h) (p := p) HB.out.b0))
      | (apply Bh.load_bx 0 HB.out Try.underlying27; rfl; rfl; rfl; rfl; rfl; kernel_rfl))
    go_ret
    exact ⟨rfl, HB.out.beh⟩
  cases k2 : lookedB h
  case false =>
    rw [k1] at HV1
    rw [k2] at HV2
    go_enter Try.func10, Try.ntmps10
    go_wp2_with (first
      | (go_at_call 11; (with_reducible refine Calls.mono (HV1.out _ ?_) ?_); exact HB.out.beh; rintro e wy ⟨rfl, hb⟩; (have HB := Lib.hid (HB.out.on hb)); clear hb; (obtain ⟨c0, c1, c2, c3, c4, c5, c6, c7, c8, c9⟩ := cells10h (h := h) (p := p) HB.out.b0))
      | (go_at_call 12; (with_reducible refine Calls.mono (HV2.out _ ?_) ?_); exact HB.out.beh; rintro e wy ⟨rfl, hb⟩; (have HB := Lib.hid (HB.out.on hb)); clear hb; (obtain ⟨c0, c1, c2, c3, c4, c5, c6, c7, c8, c9⟩ := cells10h (h := h) (p := p) HB.out.b0))
      | (apply Bh.load_bx 0 HB.out Try.underlying27; rfl; rfl; rfl; rfl; rfl; kernel_rfl))
    go_ret
    exact ⟨rfl, HB.out.beh⟩
  cases k3 : decide (n < 0)
  case true =>
    rw [k1] at HV1
    rw [k2] at HV2
    go_enter Try.func10, Try.ntmps10
    go_wp2_with (first
      | (go_at_call 11; (with_reducible refine Calls.mono (HV1.out _ ?_) ?_); exact HB.out.beh; rintro e wy ⟨rfl, hb⟩; (have HB := Lib.hid (HB.out.on hb)); clear hb; (obtain ⟨c0, c1, c2, c3, c4, c5, c6, c7, c8, c9⟩ := cells10h (h := h) (p := p) HB.out.b0))
      | (go_at_call 12; (with_reducible refine Calls.mono (HV2.out _ ?_) ?_); exact HB.out.beh; rintro e wy ⟨rfl, hb⟩; (have HB := Lib.hid (HB.out.on hb)); clear hb; (obtain ⟨c0, c1, c2, c3, c4, c5, c6, c7, c8, c9⟩ := cells10h (h := h) (p := p) HB.out.b0))
      | (apply Bh.load_bx 0 HB.out Try.underlying27; rfl; rfl; rfl; rfl; rfl; kernel_rfl))
    go_ret
    exact ⟨rfl, HB.out.beh⟩
  cases k4 : decide ((200 : Int) < n)
  case true =>
    rw [k1] at HV1
    rw [k2] at HV2
    go_enter Try.func10, Try.ntmps10
    go_wp2_with (first
      | (go_at_call 11; (with_reducible refine Calls.mono (HV1.out _ ?_) ?_); exact HB.out.beh; rintro e wy ⟨rfl, hb⟩; (have HB := Lib.hid (HB.out.on hb)); clear hb; (obtain ⟨c0, c1, c2, c3, c4, c5, c6, c7, c8, c9⟩ := cells10h (h := h) (p := p) HB.out.b0))
      | (go_at_call 12; (with_reducible refine Calls.mono (HV2.out _ ?_) ?_); exact HB.out.beh; rintro e wy ⟨rfl, hb⟩; (have HB := Lib.hid (HB.out.on hb)); clear hb; (obtain ⟨c0, c1, c2, c3, c4, c5, c6, c7, c8, c9⟩ := cells10h (h := h) (p := p) HB.out.b0))
      | (apply Bh.load_bx 0 HB.out Try.underlying27; rfl; rfl; rfl; rfl; rfl; kernel_rfl))
    go_ret
    exact ⟨rfl, HB.out.beh⟩
  cases k5 : decide (m < 0)
  case true =>
    rw [k1] at HV1
    rw [k2] at HV2
    go_enter Try.func10, Try.ntmps10
    go_wp2_with (first
      | (go_at_call 11; (with_reducible refine Calls.mono (HV1.out _ ?_) ?_); exact HB.out.beh; rintro e wy ⟨rfl, hb⟩; (have HB := Lib.hid (HB.out.on hb)); clear hb; (obtain ⟨c0, c1, c2, c3, c4, c5, c6, c7, c8, c9⟩ := cells10h (h := h) (p := p) HB.out.b0))
      | (go_at_call 12; (with_reducible refine Calls.mono (HV2.out _ ?_) ?_); exact HB.out.beh; rintro e wy ⟨rfl, hb⟩; (have HB := Lib.hid (HB.out.on hb)); clear hb; (obtain ⟨c0, c1, c2, c3, c4, c5, c6, c7, c8, c9⟩ := cells10h (h := h) (p := p) HB.out.b0))
      | (apply Bh.load_bx 0 HB.out Try.underlying27; rfl; rfl; rfl; rfl; rfl; kernel_rfl))
    go_ret
    exact ⟨rfl, HB.out.beh⟩
  cases k6 : decide ((200 : Int) < m)
  case true =>
    rw [k1] at HV1
    rw [k2] at HV2
    go_enter Try.func10, Try.ntmps10
    go_wp2_with (first
      | (go_at_call 11; (with_reducible refine Calls.mono (HV1.out _ ?_) ?_); exact HB.out.beh; rintro e wy ⟨rfl, hb⟩; (have HB := Lib.hid (HB.out.on hb)); clear hb; (obtain ⟨c0, c1, c2, c3, c4, c5, c6, c7, c8, c9⟩ := cells10h (h := h) (p := p) HB.out.b0))
      | (go_at_call 12; (with_reducible refine Calls.mono (HV2.out _ ?_) ?_); exact HB.out.beh; rintro e wy ⟨rfl, hb⟩; (have HB := Lib.hid (HB.out.on hb)); clear hb; (obtain ⟨c0, c1, c2, c3, c4, c5, c6, c7, c8, c9⟩ := cells10h (h := h) (p := p) HB.out.b0))
      | (apply Bh.load_bx 0 HB.out Try.underlying27; rfl; rfl; rfl; rfl; rfl; kernel_rfl))
    go_ret
    exact ⟨rfl, HB.out.beh⟩
  cases k7 : decide (i ≤ h.base)
  case true =>
    rw [k1] at HV1
    rw [k2] at HV2
    go_enter Try.func10, Try.ntmps10
    go_wp2_with (first
      | (go_at_call 11; (with_reducible refine Calls.mono (HV1.out _ ?_) ?_); exact HB.out.beh; rintro e wy ⟨rfl, hb⟩; (have HB := Lib.hid (HB.out.on hb)); clear hb; (obtain ⟨c0, c1, c2, c3, c4, c5, c6, c7, c8, c9⟩ := cells10h (h := h) (p := p) HB.out.b0))
      | (go_at_call 12; (with_reducible refine Calls.mono (HV2.out _ ?_) ?_); exact HB.out.beh; rintro e wy ⟨rfl, hb⟩; (have HB := Lib.hid (HB.out.on hb)); clear hb; (obtain ⟨c0, c1, c2, c3, c4, c5, c6, c7, c8, c9⟩ := cells10h (h := h) (p := p) HB.out.b0))
      | (apply Bh.load_bx 0 HB.out Try.underlying27; rfl; rfl; rfl; rfl; rfl; kernel_rfl))
    go_ret
    exact ⟨rfl, HB.out.beh⟩
  cases k8 : decide ((2199023255552 : Int) < i)
  case true =>
    rw [k1] at HV1
    rw [k2] at HV2
    go_enter Try.func10, Try.ntmps10
    go_wp2_with (first
      | (go_at_call 11; (with_reducible refine Calls.mono (HV1.out _ ?_) ?_); exact HB.out.beh; rintro e wy ⟨rfl, hb⟩; (have HB := Lib.hid (HB.out.on hb)); clear hb; (obtain ⟨c0, c1, c2, c3, c4, c5, c6, c7, c8, c9⟩ := cells10h (h := h) (p := p) HB.out.b0))
      | (go_at_call 12; (with_reducible refine Calls.mono (HV2.out _ ?_) ?_); exact HB.out.beh; rintro e wy ⟨rfl, hb⟩; (have HB := Lib.hid (HB.out.on hb)); clear hb; (obtain ⟨c0, c1, c2, c3, c4, c5, c6, c7, c8, c9⟩ := cells10h (h := h) (p := p) HB.out.b0))
      | (apply Bh.load_bx 0 HB.out Try.underlying27; rfl; rfl; rfl; rfl; rfl; kernel_rfl))
    go_ret
    exact ⟨rfl, HB.out.beh⟩
  have hn := looked_num k2 (played k1)
  have hl1 := (played k1).log
  rw [k1] at HV1
  rw [k2] at HV2
  have j3 := of_decide_eq_false k3
  have j4 := of_decide_eq_false k4
  have j5 := of_decide_eq_false k5
  have j6 := of_decide_eq_false k6
  have j7 := of_decide_eq_false k7
  have j8 := of_decide_eq_false k8
  have i1 := hn.lo
  have i2 := hn.hi
  have hlast : h.last = h.base + (h.log.length : Int) := rfl
  have FR : Hid (∀ (x y : Int), y ≤ 9223372036854775807 → ∀ W, Kv.Beh w W → Calls Try.prog 25 #[h.val p, .int .i64 x, .int .i64 y] W (FromTold h x y W)) := fun x y hy W hW => From_any h p x y W hn (HA1.out.on hW) hy
  unfold FromTold at FR
  have FR1 := Lib.hid (FR.out i n (by omega))
  have FR2 := Lib.hid (FR.out (i + ((h.from_ i n).length : Nat)) m (by omega))
  have hla : (h.from_ i n).length ≤ 200 := by have := from_len (h := h) (i := i) (most := n); omega
  have hlb : (h.from_ (i + ((h.from_ i n).length : Nat)) m).length ≤ 200 := by have := from_len (h := h) (i := i + ((h.from_ i n).length : Nat)) (most := m); omega
  have FR3 := Lib.hid (FR.out i (((h.from_ i n).length : Nat) + m) (by omega))
  have FR4 := Lib.hid (FR.out (h.last + 1) m (by omega))
  have FR5 := Lib.hid (FR.out h.base m (by omega))
  rw [from_none (i := h.last + 1) (by omega)] at FR4
  rw [from_base] at FR5
  have HAB := Lib.hid (from_more (h := h) (i := i) (n := n) (m := m) (by omega) (by omega))
  have HST : Hid (((h.from_ i n).length : Int) < n → (h.from_ (i + ((h.from_ i n).length : Nat)) m).length = 0) := fun y => by rw [from_stop (by omega) y]; rfl
  have L1 : Hid (∀ W, Kv.Beh w W → Calls Try.prog 14 #[h.val p] W fun e w' => e = .returned (.tuple #[.int .i64 h.last, .int .i64 h.lastT]) ∧ Below W.heap.size W w') := fun W hW => Last_any h p W hn (HA1.out.on hW)
  clear FR
  generalize h.from_ (i + ((h.from_ i n).length : Nat)) m = B at *
  generalize h.from_ i (((h.from_ i n).length : Nat) + m) = L at *
  generalize h.from_ i n = A at *
  have w1 : IntKind.i64.wrap ((A.length : Int) + m) = (A.length : Int) + m := wrap_in (by omega) (by omega)
  have w2 : IntKind.i64.wrap (h.last + 1) = h.last + 1 := wrap_in (by omega) (by omega)
  clear hn hlast
  generalize h.last = ln at *
  generalize h.lastT = lt at *
  have HLEN : Hid (A.length + B.length = L.length) := by show _ = _; rw [← HAB.out, List.length_append]
  obtain ⟨nb, hnb⟩ : ∃ nb, B.length = nb := ⟨_, rfl⟩
  have HNB := Lib.hid hnb
  rw [hnb] at HLEN HST FR2 hlb
  clear hnb
  by_cases hc : (A.length : Int) < n
  case pos =>
    obtain rfl : nb = 0 := HST.out hc
    have d1 : decide ((A.length : Int) < n) = true := decide_eq_true hc
    clear HST
    as_aux_lemma =>
    go_enter Try.func10, Try.ntmps10
    go_wp2_with (first
      | (go_at_call 11; (with_reducible refine Calls.mono (HV1.out _ ?_) ?_); exact HB.out.beh; rintro e wy ⟨rfl, hb⟩; (have HB := Lib.hid (HB.out.on hb)); clear hb; (obtain ⟨c0, c1, c2, c3, c4, c5, c6, c7, c8, c9⟩ := cells10h (h := h) (p := p) HB.out.b0))
      | (go_at_call 12; (with_reducible refine Calls.mono (HV2.out _ ?_) ?_); exact HB.out.beh; rintro e wy ⟨rfl, hb⟩; (have HB := Lib.hid (HB.out.on hb)); clear hb; (obtain ⟨c0, c1, c2, c3, c4, c5, c6, c7, c8, c9⟩ := cells10h (h := h) (p := p) HB.out.b0))
      | (apply Bh.load_bx 0 HB.out Try.underlying27; rfl; rfl; rfl; rfl; rfl; kernel_rfl)
      | (go_at_call 25; (with_reducible refine Calls.mono (FR1.out _ ?_) ?_); exact HB.out.beh; rintro e wa ⟨lb1, la1, lc1, rfl, hm1⟩; (have HL1 := Lib.hid hm1); (have hB0 := HB); (have HB := Lib.hid (HB.out.on hm1.beh)); clear hm1; (obtain ⟨c0, c1, c2, c3, c4, c5, c6, c7, c8, c9⟩ := cells10h (h := h) (p := p) HB.out.b0))
      | (go_at_call 25; (with_reducible refine Calls.mono (FR2.out _ ?_) ?_); exact HB.out.beh; rintro e wb ⟨lb2, la2, lc2, rfl, hm2⟩; (have HL2 := Lib.hid hm2); (have HL1 := Lib.hid (HL1.out.on hm2.beh)); (have HB := Lib.hid (HB.out.on hm2.beh)); clear hm2; (obtain ⟨c0, c1, c2, c3, c4, c5, c6, c7, c8, c9⟩ := cells10h (h := h) (p := p) HB.out.b0))
      | (go_at_call 14; (with_reducible refine Calls.mono (L1.out _ ?_) ?_); exact HB.out.beh; rintro e wl ⟨rfl, hb⟩; (have HL2 := Lib.hid (HL2.out.on hb)); (have HL1 := Lib.hid (HL1.out.on hb)); (have HB := Lib.hid (HB.out.on hb)); clear hb))
    refine wp_region_held_drew (S := fun W => Bh.Bx w [h.obj p] W) (by kernel_rfl) (HB.out.drew) (fun hS => ?_)
    have HL1 := Lib.hid (HL1.out.on (Beh.start wl).drew)
    have HL2 := Lib.hid (HL2.out.on (Beh.start wl).drew)
    clear HB
    generalize World.drew wl = wd at HL1 HL2 hS ⊢
    (try simp only [Act.put, List.getElem_toArray, List.getElem_cons_succ, List.getElem_cons_zero, List.setIfInBounds_toArray, List.set_cons_zero, List.set_cons_succ])
    refine wpAnyH_take (i := 0) (v := ?_) rfl (by kernel_rfl) (by kernel_rfl) (by kernel_rfl) (fun _ _ _ h => h) (Or.inl ⟨by rfl, ?_⟩) hS ?_
    rotate_left
    · intro W hW; go_simp; try with_reducible rfl
    (try simp only [Act.put, List.getElem_toArray, List.getElem_cons_zero, List.setIfInBounds_toArray, List.set_cons_zero, List.set_cons_succ])
    refine wpAnyH_take (i := 1) (v := ?_) rfl (by kernel_rfl) (by kernel_rfl) (by kernel_rfl) (fun _ _ _ h => h) (Or.inl ⟨by rfl, ?_⟩) hS ?_
    rotate_left
    · intro W hW; go_simp; try with_reducible rfl
    (try simp only [Act.put, List.getElem_toArray, List.getElem_cons_succ, List.getElem_cons_zero, List.setIfInBounds_toArray, List.set_cons_zero, List.set_cons_succ])
    refine wpAnyH_take (i := 4) (v := ?_) rfl (by kernel_rfl) (by kernel_rfl) (by kernel_rfl) (fun _ _ _ h => h) (Or.inl ⟨by rfl, ?_⟩) hS ?_
    rotate_left
    · intro W hW; go_simp; try with_reducible rfl
    (try simp only [Act.put, List.getElem_toArray, List.getElem_cons_succ, List.getElem_cons_zero, List.setIfInBounds_toArray, List.set_cons_zero, List.set_cons_succ])
    refine wpAnyH_take (i := 5) (v := ?_) rfl (by kernel_rfl) (by kernel_rfl) (by kernel_rfl) (fun _ _ _ h => h) (Or.inl ⟨by rfl, ?_⟩) hS ?_
    rotate_left
    · intro W hW; go_simp; try with_reducible rfl
    (try simp only [Act.put, List.getElem_toArray, List.getElem_cons_succ, List.getElem_cons_zero, List.setIfInBounds_toArray, List.set_cons_zero, List.set_cons_succ])
    refine wpAnyH_take (i := 6) (v := ?_) rfl (by kernel_rfl) (by kernel_rfl) (by kernel_rfl) (fun _ _ _ h => h) (Or.inl ⟨by rfl, ?_⟩) hS ?_
    rotate_left
    · intro W hW; go_simp; try with_reducible rfl
    (try simp only [Act.put, List.getElem_toArray, List.getElem_cons_succ, List.getElem_cons_zero, List.setIfInBounds_toArray, List.set_cons_zero, List.set_cons_succ])
    refine wpAnyH_take (i := 7) (v := ?_) rfl (by kernel_rfl) (by kernel_rfl) (by kernel_rfl) (fun _ _ _ h => h) (Or.inl ⟨by rfl, ?_⟩) hS ?_
    rotate_left
    · intro W hW; go_simp; try with_reducible rfl
    (try simp only [Act.put, List.getElem_toArray, List.getElem_cons_succ, List.getElem_cons_zero, List.setIfInBounds_toArray, List.set_cons_zero, List.set_cons_succ])
    refine wpAnyH_take (i := 8) (v := ?_) rfl (by kernel_rfl) (by kernel_rfl) (by kernel_rfl) (fun _ _ _ h => h) (Or.inl ⟨by rfl, ?_⟩) hS ?_
    rotate_left
    · intro W hW; go_simp; try with_reducible rfl
    (try simp only [Act.put, List.getElem_toArray, List.getElem_cons_succ, List.getElem_cons_zero, List.setIfInBounds_toArray, List.set_cons_zero, List.set_cons_succ])
    refine' wpAnyH_take (i := 3) (v := _) rfl (by kernel_rfl) (by kernel_rfl) (by kernel_rfl) (fun _ _ _ h => h) (yif_load_bxw 0 (fun _ h => h) Try.underlying27 rfl rfl rfl rfl rfl (by kernel_rfl)) hS ?_
    (try simp only [Act.put, List.getElem_toArray, List.getElem_cons_succ, List.getElem_cons_zero, List.setIfInBounds_toArray, List.set_cons_zero, List.set_cons_succ])
    refine wpAnyH_ready (rs := [2]) (by kernel_rfl) (by simp) ?_
    refine AllReadyH.cons rfl (fun K hK => ?_) (AllReadyH.nil)
    all_goals (try simp only [List.getElem_toArray, List.getElem_cons_succ, List.getElem_cons_zero])
    rw [if_pos (Bh.want_all rfl)]
    refine wp_append_cells _ _ _ rfl 40 16 _ _ 152 Try.underlying25 rfl rfl rfl rfl rfl lb1 la1 lc1 _ (Li.flat A) rfl HL1.out.own la2 lc2 _ (Li.flat B) rfl (HNB.out ▸ HL2.out.list.src) flat_one (by omega) (by omega) ?_
    intro lbn lan lcn wn h2 h3 h4 h5
    have HLA := Lib.hid (HL1.out.more (M := B) (by rw [HNB.out]; exact h2) h3 h4)
    rw [HAB.out] at HLA
    rw [HLEN.out]
    refine hK.out _ _ (hB0.out.on HLA.out.beh) (fun hS => ?_)
    clear hK K
    (try simp only [Act.put, List.setIfInBounds_toArray, List.set_cons_zero, List.set_cons_succ])
    clear h2 h3 h4 h5 HL1 HL2
    refine wpAnyH_ready (rs := [9]) (by kernel_rfl) (by simp) ?_
    refine AllReadyH.cons rfl (fun K hK => ?_) (AllReadyH.nil)
    all_goals (try simp only [List.getElem_toArray, List.getElem_cons_succ, List.getElem_cons_zero])
    go_simp
    go_at_call 25
    (with_reducible refine Calls.mono (FR3.out _ ?_) ?_)
    exact hS.beh
    rintro e wf ⟨lb3, la3, lc3, rfl, hm3⟩
    have hb : Below _ _ _ := hm3.beh
    refine hK.out _ _ (hS.on hb) (fun hS => ?_)
    clear hK K
    (try simp only [Act.put, List.getElem_toArray, List.getElem_cons_succ, List.getElem_cons_zero, List.setIfInBounds_toArray, List.set_cons_zero, List.set_cons_succ])
    have HLA := Lib.hid (HLA.out.on hb)
    have HLC := Lib.hid hm3.list
    clear hm3 hb
    refine wpAnyH_ready (rs := [10]) (by kernel_rfl) (by simp) ?_
    refine AllReadyH.cons rfl (fun K hK => ?_) (AllReadyH.nil)
    all_goals (try simp only [List.getElem_toArray, List.getElem_cons_succ, List.getElem_cons_zero])
    go_simp
    go_at_call 27
    refine Calls.mono (keepEnts_self lan lcn la3 lc3 L _ HLA.out.list HLC.out) ?_
    rintro e we ⟨rfl, hb⟩
    refine hK.out _ _ (hS.on hb) (fun hS => ?_)
    clear hK K
    (try simp only [Act.put, List.getElem_toArray, List.getElem_cons_succ, List.getElem_cons_zero, List.setIfInBounds_toArray, List.set_cons_zero, List.set_cons_succ])
    clear hb HLA HLC
    refine wpAnyH_take (i := 11) (v := ?_) rfl (by kernel_rfl) (by kernel_rfl) (by kernel_rfl) (fun _ _ _ h => h) (Or.inl ⟨by rfl, ?_⟩) hS ?_
    rotate_left
    · intro W hW; go_simp; try with_reducible rfl
    (try simp only [Act.put, List.getElem_toArray, List.getElem_cons_succ, List.getElem_cons_zero, List.setIfInBounds_toArray, List.set_cons_zero, List.set_cons_succ])
    refine' wpAnyH_take (i := 12) (v := _) rfl (by kernel_rfl) (by kernel_rfl) (by kernel_rfl) (fun _ _ _ h => h) (yif_load_bxw 0 (fun _ h => h) Try.underlying27 rfl rfl rfl rfl rfl (by kernel_rfl)) hS ?_
    (try simp only [Act.put, List.getElem_toArray, List.getElem_cons_succ, List.getElem_cons_zero, List.setIfInBounds_toArray, List.set_cons_zero, List.set_cons_succ])
    refine wpAnyH_take (i := 13) (v := ?_) rfl (by kernel_rfl) (by kernel_rfl) (by kernel_rfl) (fun _ _ _ h => h) (Or.inl ⟨by rfl, ?_⟩) hS ?_
    rotate_left
    · intro W hW; go_simp; try with_reducible rfl
    (try simp only [Act.put, List.getElem_toArray, List.getElem_cons_succ, List.getElem_cons_zero, List.setIfInBounds_toArray, List.set_cons_zero, List.set_cons_succ])
    refine wpAnyH_take (i := 14) (v := ?_) rfl (by kernel_rfl) (by kernel_rfl) (by kernel_rfl) (fun _ _ _ h => h) (Or.inl ⟨by rfl, ?_⟩) hS ?_
    rotate_left
    · intro W hW; go_simp; try with_reducible rfl
    (try simp only [Act.put, List.getElem_toArray, List.getElem_cons_succ, List.getElem_cons_zero, List.setIfInBounds_toArray, List.set_cons_zero, List.set_cons_succ])
    refine wpAnyH_take (i := 15) (v := ?_) rfl (by kernel_rfl) (by kernel_rfl) (by kernel_rfl) (fun _ _ _ h => h) (Or.inl ⟨by rfl, ?_⟩) hS ?_
    rotate_left
    · intro W hW; go_simp; try with_reducible rfl
    (try simp only [Act.put, List.getElem_toArray, List.getElem_cons_succ, List.getElem_cons_zero, List.setIfInBounds_toArray, List.set_cons_zero, List.set_cons_succ])
    refine wpAnyH_ready (rs := [16]) (by kernel_rfl) (by simp) ?_
    refine AllReadyH.cons rfl (fun K hK => ?_) (AllReadyH.nil)
    all_goals (try simp only [List.getElem_toArray, List.getElem_cons_succ, List.getElem_cons_zero])
    go_simp
    go_at_call 25
    (with_reducible refine Calls.mono (FR4.out _ ?_) ?_)
    exact hS.beh
    rintro e wg ⟨lb4, la4, lc4, rfl, hm4⟩
    have hb : Below _ _ _ := hm4.beh
    refine hK.out _ _ (hS.on hb) (fun hS => ?_)
    clear hK K
    (try simp only [Act.put, List.getElem_toArray, List.getElem_cons_succ, List.getElem_cons_zero, List.setIfInBounds_toArray, List.set_cons_zero, List.set_cons_succ])
    clear hm4 hb
    refine wpAnyH_take (i := 17) (v := ?_) rfl (by kernel_rfl) (by kernel_rfl) (by kernel_rfl) (fun _ _ _ h => h) (Or.inl ⟨by rfl, ?_⟩) hS ?_
    rotate_left
    · intro W hW; go_simp; try with_reducible rfl
    (try simp only [Act.put, List.getElem_toArray, List.getElem_cons_succ, List.getElem_cons_zero, List.setIfInBounds_toArray, List.set_cons_zero, List.set_cons_succ])
    refine wpAnyH_take (i := 18) (v := ?_) rfl (by kernel_rfl) (by kernel_rfl) (by kernel_rfl) (fun _ _ _ h => h) (Or.inl ⟨by rfl, ?_⟩) hS ?_
    rotate_left
    · intro W hW; go_simp; try with_reducible rfl
    (try simp only [Act.put, List.getElem_toArray, List.getElem_cons_succ, List.getElem_cons_zero, List.setIfInBounds_toArray, List.set_cons_zero, List.set_cons_succ])
    refine wpAnyH_take (i := 19) (v := ?_) rfl (by kernel_rfl) (by kernel_rfl) (by kernel_rfl) (fun _ _ _ h => h) (Or.inl ⟨by rfl, ?_⟩) hS ?_
    rotate_left
    · intro W hW; go_simp; try with_reducible rfl
    (try simp only [Act.put, List.getElem_toArray, List.getElem_cons_succ, List.getElem_cons_zero, List.setIfInBounds_toArray, List.set_cons_zero, List.set_cons_succ])
    refine wpAnyH_take (i := 20) (v := ?_) rfl (by kernel_rfl) (by kernel_rfl) (by kernel_rfl) (fun _ _ _ h => h) (Or.inl ⟨by rfl, ?_⟩) hS ?_
    rotate_left
    · intro W hW; go_simp; try with_reducible rfl
    (try simp only [Act.put, List.getElem_toArray, List.getElem_cons_succ, List.getElem_cons_zero, List.setIfInBounds_toArray, List.set_cons_zero, List.set_cons_succ])
    refine' wpAnyH_take (i := 21) (v := _) rfl (by kernel_rfl) (by kernel_rfl) (by kernel_rfl) (fun _ _ _ h => h) (yif_load_bxw 0 (fun _ h => h) Try.underlying27 rfl rfl rfl rfl rfl (by kernel_rfl)) hS ?_
    (try simp only [Act.put, List.getElem_toArray, List.getElem_cons_succ, List.getElem_cons_zero, List.setIfInBounds_toArray, List.set_cons_zero, List.set_cons_succ])
    refine wpAnyH_take (i := 22) (v := ?_) rfl (by kernel_rfl) (by kernel_rfl) (by kernel_rfl) (fun _ _ _ h => h) (Or.inl ⟨by rfl, ?_⟩) hS ?_
    rotate_left
    · intro W hW; go_simp; try with_reducible rfl
    (try simp only [Act.put, List.getElem_toArray, List.getElem_cons_succ, List.getElem_cons_zero, List.setIfInBounds_toArray, List.set_cons_zero, List.set_cons_succ])
    refine wpAnyH_take (i := 23) (v := ?_) rfl (by kernel_rfl) (by kernel_rfl) (by kernel_rfl) (fun _ _ _ h => h) (Or.inl ⟨by rfl, ?_⟩) hS ?_
    rotate_left
    · intro W hW; (obtain ⟨x0, x1, x2, x3, x4, x5, x6, x7, x8, x9⟩ := cells10h hW.b0); go_simp; try with_reducible rfl
    (try simp only [Act.put, List.getElem_toArray, List.getElem_cons_succ, List.getElem_cons_zero, List.setIfInBounds_toArray, List.set_cons_zero, List.set_cons_succ])
    refine wpAnyH_take (i := 24) (v := ?_) rfl (by kernel_rfl) (by kernel_rfl) (by kernel_rfl) (fun _ _ _ h => h) (Or.inl ⟨by rfl, ?_⟩) hS ?_
    rotate_left
    · intro W hW; go_simp; try with_reducible rfl
    (try simp only [Act.put, List.getElem_toArray, List.getElem_cons_succ, List.getElem_cons_zero, List.setIfInBounds_toArray, List.set_cons_zero, List.set_cons_succ])
    refine wpAnyH_ready (rs := [25]) (by kernel_rfl) (by simp) ?_
    refine AllReadyH.cons rfl (fun K hK => ?_) (AllReadyH.nil)
    all_goals (try simp only [List.getElem_toArray, List.getElem_cons_succ, List.getElem_cons_zero])
    go_simp
    go_at_call 25
    (with_reducible refine Calls.mono (FR5.out _ ?_) ?_)
    exact hS.beh
    rintro e wg2 ⟨lb5, la5, lc5, rfl, hm5⟩
    have hb : Below _ _ _ := hm5.beh
    refine hK.out _ _ (hS.on hb) (fun hS => ?_)
    clear hK K
    (try simp only [Act.put, List.getElem_toArray, List.getElem_cons_succ, List.getElem_cons_zero, List.setIfInBounds_toArray, List.set_cons_zero, List.set_cons_succ])
    clear hm5 hb
    refine wpAnyH_take (i := 26) (v := ?_) rfl (by kernel_rfl) (by kernel_rfl) (by kernel_rfl) (fun _ _ _ h => h) (Or.inl ⟨by rfl, ?_⟩) hS ?_
    rotate_left
    · intro W hW; go_simp; try with_reducible rfl
    (try simp only [Act.put, List.getElem_toArray, List.getElem_cons_succ, List.getElem_cons_zero, List.setIfInBounds_toArray, List.set_cons_zero, List.set_cons_succ])
    refine wpAnyH_take (i := 27) (v := ?_) rfl (by kernel_rfl) (by kernel_rfl) (by kernel_rfl) (fun _ _ _ h => h) (Or.inl ⟨by rfl, ?_⟩) hS ?_
    rotate_left
    · intro W hW; go_simp; try with_reducible rfl
    (try simp only [Act.put, List.getElem_toArray, List.getElem_cons_succ, List.getElem_cons_zero, List.setIfInBounds_toArray, List.set_cons_zero, List.set_cons_succ])
    refine wpAnyH_take (i := 28) (v := ?_) rfl (by kernel_rfl) (by kernel_rfl) (by kernel_rfl) (fun _ _ _ h => h) (Or.inl ⟨by rfl, ?_⟩) hS ?_
    rotate_left
    · intro W hW; go_simp; try with_reducible rfl
    (try simp only [Act.put, List.getElem_toArray, List.getElem_cons_succ, List.getElem_cons_zero, List.setIfInBounds_toArray, List.set_cons_zero, List.set_cons_succ])
    refine wpAnyH_take (i := 29) (v := ?_) rfl (by kernel_rfl) (by kernel_rfl) (by kernel_rfl) (fun _ _ _ h => h) (Or.inl ⟨by rfl, ?_⟩) hS ?_
    rotate_left
    · intro W hW; go_simp; try with_reducible rfl
    (try simp only [Act.put, List.getElem_toArray, List.getElem_cons_succ, List.getElem_cons_zero, List.setIfInBounds_toArray, List.set_cons_zero, List.set_cons_succ])
    refine wpAnyH_ready (rs := [30]) (by kernel_rfl) (by simp) ?_
    refine AllReadyH.cons rfl (fun K hK => ?_) (AllReadyH.nil)
    all_goals (try simp only [List.getElem_toArray, List.getElem_cons_succ, List.getElem_cons_zero])
    go_simp
    go_at_call 35
    refine ((HWK _).out).mono ?_
    rintro e wg3 ⟨rfl, hb⟩
    refine hK.out _ _ (hS.on hb) (fun hS => ?_)
    clear hK K
    (try simp only [Act.put, List.getElem_toArray, List.getElem_cons_succ, List.getElem_cons_zero, List.setIfInBounds_toArray, List.set_cons_zero, List.set_cons_succ])
    clear hb
    refine wpAnyH_take (i := 31) (v := ?_) rfl (by kernel_rfl) (by kernel_rfl) (by kernel_rfl) (fun _ _ _ h => h) (Or.inl ⟨by rfl, ?_⟩) hS ?_
    rotate_left
    · intro W hW; go_simp; try with_reducible rfl
    (try simp only [Act.put, List.getElem_toArray, List.getElem_cons_succ, List.getElem_cons_zero, List.setIfInBounds_toArray, List.set_cons_zero, List.set_cons_succ])
    refine wpAnyH_take (i := 32) (v := ?_) rfl (by kernel_rfl) (by kernel_rfl) (by kernel_rfl) (fun _ _ _ h => h) (Or.inl ⟨by rfl, ?_⟩) hS ?_
    rotate_left
    · intro W hW; go_simp; try with_reducible rfl
    (try simp only [Act.put, List.getElem_toArray, List.getElem_cons_succ, List.getElem_cons_zero, List.setIfInBounds_toArray, List.set_cons_zero, List.set_cons_succ])
    refine wpAnyH_done (by kernel_rfl) ?_ _
    have HB := Lib.hid hS
    go_wp2_with fail
    go_ret
    exact ⟨rfl, HB.out.beh⟩
  case neg =>
    have d1 : decide ((A.length : Int) < n) = false := decide_eq_false hc
    clear HST
    as_aux_lemma =>
    go_enter Try.func10, Try.ntmps10
    go_wp2_with (first
      | (go_at_call 11; (with_reducible refine Calls.mono (HV1.out _ ?_) ?_); exact HB.out.beh; rintro e wy ⟨rfl, hb⟩; (have HB := Lib.hid (HB.out.on hb)); clear hb; (obtain ⟨c0, c1, c2, c3, c4, c5, c6, c7, c8, c9⟩ := cells10h (h := h) (p := p) HB.out.b0))
      | (go_at_call 12; (with_reducible refine Calls.mono (HV2.out _ ?_) ?_); exact HB.out.beh; rintro e wy ⟨rfl, hb⟩; (have HB := Lib.hid (HB.out.on hb)); clear hb; (obtain ⟨c0, c1, c2, c3, c4, c5, c6, c7, c8, c9⟩ := cells10h (h := h) (p := p) HB.out.b0))
      | (apply Bh.load_bx 0 HB.out Try.underlying27; rfl; rfl; rfl; rfl; rfl; kernel_rfl)
      | (go_at_call 25; (with_reducible refine Calls.mono (FR1.out _ ?_) ?_); exact HB.out.beh; rintro e wa ⟨lb1, la1, lc1, rfl, hm1⟩; (have HL1 := Lib.hid hm1); (have hB0 := HB); (have HB := Lib.hid (HB.out.on hm1.beh)); clear hm1; (obtain ⟨c0, c1, c2, c3, c4, c5, c6, c7, c8, c9⟩ := cells10h (h := h) (p := p) HB.out.b0))
      | (go_at_call 25; (with_reducible refine Calls.mono (FR2.out _ ?_) ?_); exact HB.out.beh; rintro e wb ⟨lb2, la2, lc2, rfl, hm2⟩; (have HL2 := Lib.hid hm2); (have HL1 := Lib.hid (HL1.out.on hm2.beh)); (have HB := Lib.hid (HB.out.on hm2.beh)); clear hm2; (obtain ⟨c0, c1, c2, c3, c4, c5, c6, c7, c8, c9⟩ := cells10h (h := h) (p := p) HB.out.b0))
      | (go_at_call 14; (with_reducible refine Calls.mono (L1.out _ ?_) ?_); exact HB.out.beh; rintro e wl ⟨rfl, hb⟩; (have HL2 := Lib.hid (HL2.out.on hb)); (have HL1 := Lib.hid (HL1.out.on hb)); (have HB := Lib.hid (HB.out.on hb)); clear hb))
    refine wp_region_held_drew (S := fun W => Bh.Bx w [h.obj p] W) (by kernel_rfl) (HB.out.drew) (fun hS => ?_)
    have HL1 := Lib.hid (HL1.out.on (Beh.start wl).drew)
    have HL2 := Lib.hid (HL2.out.on (Beh.start wl).drew)
    clear HB
    generalize World.drew wl = wd at HL1 HL2 hS ⊢
    (try simp only [Act.put, List.getElem_toArray, List.getElem_cons_succ, List.getElem_cons_zero, List.setIfInBounds_toArray, List.set_cons_zero, List.set_cons_succ])
    refine wpAnyH_take (i := 0) (v := ?_) rfl (by kernel_rfl) (by kernel_rfl) (by kernel_rfl) (fun _ _ _ h => h) (Or.inl ⟨by rfl, ?_⟩) hS ?_
    rotate_left
    · intro W hW; go_simp; try with_reducible rfl
    (try simp only [Act.put, List.getElem_toArray, List.getElem_cons_zero, List.setIfInBounds_toArray, List.set_cons_zero, List.set_cons_succ])
    refine wpAnyH_take (i := 1) (v := ?_) rfl (by kernel_rfl) (by kernel_rfl) (by kernel_rfl) (fun _ _ _ h => h) (Or.inl ⟨by rfl, ?_⟩) hS ?_
    rotate_left
    · intro W hW; go_simp; try with_reducible rfl
    (try simp only [Act.put, List.getElem_toArray, List.getElem_cons_succ, List.getElem_cons_zero, List.setIfInBounds_toArray, List.set_cons_zero, List.set_cons_succ])
    refine wpAnyH_take (i := 4) (v := ?_) rfl (by kernel_rfl) (by kernel_rfl) (by kernel_rfl) (fun _ _ _ h => h) (Or.inl ⟨by rfl, ?_⟩) hS ?_
    rotate_left
    · intro W hW; go_simp; try with_reducible rfl
    (try simp only [Act.put, List.getElem_toArray, List.getElem_cons_succ, List.getElem_cons_zero, List.setIfInBounds_toArray, List.set_cons_zero, List.set_cons_succ])
    refine wpAnyH_take (i := 5) (v := ?_) rfl (by kernel_rfl) (by kernel_rfl) (by kernel_rfl) (fun _ _ _ h => h) (Or.inl ⟨by rfl, ?_⟩) hS ?_
    rotate_left
    · intro W hW; go_simp; try with_reducible rfl
    (try simp only [Act.put, List.getElem_toArray, List.getElem_cons_succ, List.getElem_cons_zero, List.setIfInBounds_toArray, List.set_cons_zero, List.set_cons_succ])
    refine wpAnyH_take (i := 6) (v := ?_) rfl (by kernel_rfl) (by kernel_rfl) (by kernel_rfl) (fun _ _ _ h => h) (Or.inl ⟨by rfl, ?_⟩) hS ?_
    rotate_left
    · intro W hW; go_simp; try with_reducible rfl
    (try simp only [Act.put, List.getElem_toArray, List.getElem_cons_succ, List.getElem_cons_zero, List.setIfInBounds_toArray, List.set_cons_zero, List.set_cons_succ])
    refine wpAnyH_take (i := 7) (v := ?_) rfl (by kernel_rfl) (by kernel_rfl) (by kernel_rfl) (fun _ _ _ h => h) (Or.inl ⟨by rfl, ?_⟩) hS ?_
    rotate_left
    · intro W hW; go_simp; try with_reducible rfl
    (try simp only [Act.put, List.getElem_toArray, List.getElem_cons_succ, List.getElem_cons_zero, List.setIfInBounds_toArray, List.set_cons_zero, List.set_cons_succ])
    refine wpAnyH_take (i := 8) (v := ?_) rfl (by kernel_rfl) (by kernel_rfl) (by kernel_rfl) (fun _ _ _ h => h) (Or.inl ⟨by rfl, ?_⟩) hS ?_
    rotate_left
    · intro W hW; go_simp; try with_reducible rfl
    (try simp only [Act.put, List.getElem_toArray, List.getElem_cons_succ, List.getElem_cons_zero, List.setIfInBounds_toArray, List.set_cons_zero, List.set_cons_succ])
    refine' wpAnyH_take (i := 3) (v := _) rfl (by kernel_rfl) (by kernel_rfl) (by kernel_rfl) (fun _ _ _ h => h) (yif_load_bxw 0 (fun _ h => h) Try.underlying27 rfl rfl rfl rfl rfl (by kernel_rfl)) hS ?_
    (try simp only [Act.put, List.getElem_toArray, List.getElem_cons_succ, List.getElem_cons_zero, List.setIfInBounds_toArray, List.set_cons_zero, List.set_cons_succ])
    refine wpAnyH_ready (rs := [2]) (by kernel_rfl) (by simp) ?_
    refine AllReadyH.cons rfl (fun K hK => ?_) (AllReadyH.nil)
    all_goals (try simp only [List.getElem_toArray, List.getElem_cons_succ, List.getElem_cons_zero])
    rw [if_pos (Bh.want_all rfl)]
    refine wp_append_cells _ _ _ rfl 40 16 _ _ 152 Try.underlying25 rfl rfl rfl rfl rfl lb1 la1 lc1 _ (Li.flat A) rfl HL1.out.own la2 lc2 _ (Li.flat B) rfl (HNB.out ▸ HL2.out.list.src) flat_one (by omega) (by omega) ?_
    intro lbn lan lcn wn h2 h3 h4 h5
    have HLA := Lib.hid (HL1.out.more (M := B) (by rw [HNB.out]; exact h2) h3 h4)
    rw [HAB.out] at HLA
    rw [HLEN.out]
    refine hK.out _ _ (hB0.out.on HLA.out.beh) (fun hS => ?_)
    clear hK K
    (try simp only [Act.put, List.setIfInBounds_toArray, List.set_cons_zero, List.set_cons_succ])
    clear h2 h3 h4 h5 HL1 HL2
    refine wpAnyH_ready (rs := [9]) (by kernel_rfl) (by simp) ?_
    refine AllReadyH.cons rfl (fun K hK => ?_) (AllReadyH.nil)
    all_goals (try simp only [List.getElem_toArray, List.getElem_cons_succ, List.getElem_cons_zero])
    go_simp
    go_at_call 25
    (with_reducible refine Calls.mono (FR3.out _ ?_) ?_)
    exact hS.beh
    rintro e wf ⟨lb3, la3, lc3, rfl, hm3⟩
    have hb : Below _ _ _ := hm3.beh
    refine hK.out _ _ (hS.on hb) (fun hS => ?_)
    clear hK K
    (try simp only [Act.put, List.getElem_toArray, List.getElem_cons_succ, List.getElem_cons_zero, List.setIfInBounds_toArray, List.set_cons_zero, List.set_cons_succ])
    have HLA := Lib.hid (HLA.out.on hb)
    have HLC := Lib.hid hm3.list
    clear hm3 hb
    refine wpAnyH_ready (rs := [10]) (by kernel_rfl) (by simp) ?_
    refine AllReadyH.cons rfl (fun K hK => ?_) (AllReadyH.nil)
    all_goals (try simp only [List.getElem_toArray, List.getElem_cons_succ, List.getElem_cons_zero])
    go_simp
    go_at_call 27
    refine Calls.mono (keepEnts_self lan lcn la3 lc3 L _ HLA.out.list HLC.out) ?_
    rintro e we ⟨rfl, hb⟩
    refine hK.out _ _ (hS.on hb) (fun hS => ?_)
    clear hK K
    (try simp only [Act.put, List.getElem_toArray, List.getElem_cons_succ, List.getElem_cons_zero, List.setIfInBounds_toArray, List.set_cons_zero, List.set_cons_succ])
    clear hb HLA HLC
    refine wpAnyH_take (i := 11) (v := ?_) rfl (by kernel_rfl) (by kernel_rfl) (by kernel_rfl) (fun _ _ _ h => h) (Or.inl ⟨by rfl, ?_⟩) hS ?_
    rotate_left
    · intro W hW; go_simp; try with_reducible rfl
    (try simp only [Act.put, List.getElem_toArray, List.getElem_cons_succ, List.getElem_cons_zero, List.setIfInBounds_toArray, List.set_cons_zero, List.set_cons_succ])
    refine' wpAnyH_take (i := 12) (v := _) rfl (by kernel_rfl) (by kernel_rfl) (by kernel_rfl) (fun _ _ _ h => h) (yif_load_bxw 0 (fun _ h => h) Try.underlying27 rfl rfl rfl rfl rfl (by kernel_rfl)) hS ?_
    (try simp only [Act.put, List.getElem_toArray, List.getElem_cons_succ, List.getElem_cons_zero, List.setIfInBounds_toArray, List.set_cons_zero, List.set_cons_succ])
    refine wpAnyH_take (i := 13) (v := ?_) rfl (by kernel_rfl) (by kernel_rfl) (by kernel_rfl) (fun _ _ _ h => h) (Or.inl ⟨by rfl, ?_⟩) hS ?_
    rotate_left
    · intro W hW; go_simp; try with_reducible rfl
    (try simp only [Act.put, List.getElem_toArray, List.getElem_cons_succ, List.getElem_cons_zero, List.setIfInBounds_toArray, List.set_cons_zero, List.set_cons_succ])
    refine wpAnyH_take (i := 14) (v := ?_) rfl (by kernel_rfl) (by kernel_rfl) (by kernel_rfl) (fun _ _ _ h => h) (Or.inl ⟨by rfl, ?_⟩) hS ?_
    rotate_left
    · intro W hW; go_simp; try with_reducible rfl
    (try simp only [Act.put, List.getElem_toArray, List.getElem_cons_succ, List.getElem_cons_zero, List.setIfInBounds_toArray, List.set_cons_zero, List.set_cons_succ])
    refine wpAnyH_take (i := 15) (v := ?_) rfl (by kernel_rfl) (by kernel_rfl) (by kernel_rfl) (fun _ _ _ h => h) (Or.inl ⟨by rfl, ?_⟩) hS ?_
    rotate_left
    · intro W hW; go_simp; try with_reducible rfl
    (try simp only [Act.put, List.getElem_toArray, List.getElem_cons_succ, List.getElem_cons_zero, List.setIfInBounds_toArray, List.set_cons_zero, List.set_cons_succ])
    refine wpAnyH_ready (rs := [16]) (by kernel_rfl) (by simp) ?_
    refine AllReadyH.cons rfl (fun K hK => ?_) (AllReadyH.nil)
    all_goals (try simp only [List.getElem_toArray, List.getElem_cons_succ, List.getElem_cons_zero])
    go_simp
    go_at_call 25
    (with_reducible refine Calls.mono (FR4.out _ ?_) ?_)
    exact hS.beh
    rintro e wg ⟨lb4, la4, lc4, rfl, hm4⟩
    have hb : Below _ _ _ := hm4.beh
    refine hK.out _ _ (hS.on hb) (fun hS => ?_)
    clear hK K
    (try simp only [Act.put, List.getElem_toArray, List.getElem_cons_succ, List.getElem_cons_zero, List.setIfInBounds_toArray, List.set_cons_zero, List.set_cons_succ])
    clear hm4 hb
    refine wpAnyH_take (i := 17) (v := ?_) rfl (by kernel_rfl) (by kernel_rfl) (by kernel_rfl) (fun _ _ _ h => h) (Or.inl ⟨by rfl, ?_⟩) hS ?_
    rotate_left
    · intro W hW; go_simp; try with_reducible rfl
    (try simp only [Act.put, List.getElem_toArray, List.getElem_cons_succ, List.getElem_cons_zero, List.setIfInBounds_toArray, List.set_cons_zero, List.set_cons_succ])
    refine wpAnyH_take (i := 18) (v := ?_) rfl (by kernel_rfl) (by kernel_rfl) (by kernel_rfl) (fun _ _ _ h => h) (Or.inl ⟨by rfl, ?_⟩) hS ?_
    rotate_left
    · intro W hW; go_simp; try with_reducible rfl
    (try simp only [Act.put, List.getElem_toArray, List.getElem_cons_succ, List.getElem_cons_zero, List.setIfInBounds_toArray, List.set_cons_zero, List.set_cons_succ])
    refine wpAnyH_take (i := 19) (v := ?_) rfl (by kernel_rfl) (by kernel_rfl) (by kernel_rfl) (fun _ _ _ h => h) (Or.inl ⟨by rfl, ?_⟩) hS ?_
    rotate_left
    · intro W hW; go_simp; try with_reducible rfl
    (try simp only [Act.put, List.getElem_toArray, List.getElem_cons_succ, List.getElem_cons_zero, List.setIfInBounds_toArray, List.set_cons_zero, List.set_cons_succ])
    refine wpAnyH_take (i := 20) (v := ?_) rfl (by kernel_rfl) (by kernel_rfl) (by kernel_rfl) (fun _ _ _ h => h) (Or.inl ⟨by rfl, ?_⟩) hS ?_
    rotate_left
    · intro W hW; go_simp; try with_reducible rfl
    (try simp only [Act.put, List.getElem_toArray, List.getElem_cons_succ, List.getElem_cons_zero, List.setIfInBounds_toArray, List.set_cons_zero, List.set_cons_succ])
    refine' wpAnyH_take (i := 21) (v := _) rfl (by kernel_rfl) (by kernel_rfl) (by kernel_rfl) (fun _ _ _ h => h) (yif_load_bxw 0 (fun _ h => h) Try.underlying27 rfl rfl rfl rfl rfl (by kernel_rfl)) hS ?_
    (try simp only [Act.put, List.getElem_toArray, List.getElem_cons_succ, List.getElem_cons_zero, List.setIfInBounds_toArray, List.set_cons_zero, List.set_cons_succ])
    refine wpAnyH_take (i := 22) (v := ?_) rfl (by kernel_rfl) (by kernel_rfl) (by kernel_rfl) (fun _ _ _ h => h) (Or.inl ⟨by rfl, ?_⟩) hS ?_
    rotate_left
    · intro W hW; go_simp; try with_reducible rfl
    (try simp only [Act.put, List.getElem_toArray, List.getElem_cons_succ, List.getElem_cons_zero, List.setIfInBounds_toArray, List.set_cons_zero, List.set_cons_succ])
    refine wpAnyH_take (i := 23) (v := ?_) rfl (by kernel_rfl) (by kernel_rfl) (by kernel_rfl) (fun _ _ _ h => h) (Or.inl ⟨by rfl, ?_⟩) hS ?_
    rotate_left
    · intro W hW; (obtain ⟨x0, x1, x2, x3, x4, x5, x6, x7, x8, x9⟩ := cells10h hW.b0); go_simp; try with_reducible rfl
    (try simp only [Act.put, List.getElem_toArray, List.getElem_cons_succ, List.getElem_cons_zero, List.setIfInBounds_toArray, List.set_cons_zero, List.set_cons_succ])
    refine wpAnyH_take (i := 24) (v := ?_) rfl (by kernel_rfl) (by kernel_rfl) (by kernel_rfl) (fun _ _ _ h => h) (Or.inl ⟨by rfl, ?_⟩) hS ?_
    rotate_left
    · intro W hW; go_simp; try with_reducible rfl
    (try simp only [Act.put, List.getElem_toArray, List.getElem_cons_succ, List.getElem_cons_zero, List.setIfInBounds_toArray, List.set_cons_zero, List.set_cons_succ])
    refine wpAnyH_ready (rs := [25]) (by kernel_rfl) (by simp) ?_
    refine AllReadyH.cons rfl (fun K hK => ?_) (AllReadyH.nil)
    all_goals (try simp only [List.getElem_toArray, List.getElem_cons_succ, List.getElem_cons_zero])
    go_simp
    go_at_call 25
    (with_reducible refine Calls.mono (FR5.out _ ?_) ?_)
    exact hS.beh
    rintro e wg2 ⟨lb5, la5, lc5, rfl, hm5⟩
    have hb : Below _ _ _ := hm5.beh
    refine hK.out _ _ (hS.on hb) (fun hS => ?_)
    clear hK K
    (try simp only [Act.put, List.getElem_toArray, List.getElem_cons_succ, List.getElem_cons_zero, List.setIfInBounds_toArray, List.set_cons_zero, List.set_cons_succ])
    clear hm5 hb
    refine wpAnyH_take (i := 26) (v := ?_) rfl (by kernel_rfl) (by kernel_rfl) (by kernel_rfl) (fun _ _ _ h => h) (Or.inl ⟨by rfl, ?_⟩) hS ?_
    rotate_left
    · intro W hW; go_simp; try with_reducible rfl
    (try simp only [Act.put, List.getElem_toArray, List.getElem_cons_succ, List.getElem_cons_zero, List.setIfInBounds_toArray, List.set_cons_zero, List.set_cons_succ])
    refine wpAnyH_take (i := 27) (v := ?_) rfl (by kernel_rfl) (by kernel_rfl) (by kernel_rfl) (fun _ _ _ h => h) (Or.inl ⟨by rfl, ?_⟩) hS ?_
    rotate_left
    · intro W hW; go_simp; try with_reducible rfl
    (try simp only [Act.put, List.getElem_toArray, List.getElem_cons_succ, List.getElem_cons_zero, List.setIfInBounds_toArray, List.set_cons_zero, List.set_cons_succ])
    refine wpAnyH_take (i := 28) (v := ?_) rfl (by kernel_rfl) (by kernel_rfl) (by kernel_rfl) (fun _ _ _ h => h) (Or.inl ⟨by rfl, ?_⟩) hS ?_
    rotate_left
    · intro W hW; go_simp; try with_reducible rfl
    (try simp only [Act.put, List.getElem_toArray, List.getElem_cons_succ, List.getElem_cons_zero, List.setIfInBounds_toArray, List.set_cons_zero, List.set_cons_succ])
    refine wpAnyH_take (i := 29) (v := ?_) rfl (by kernel_rfl) (by kernel_rfl) (by kernel_rfl) (fun _ _ _ h => h) (Or.inl ⟨by rfl, ?_⟩) hS ?_
    rotate_left
    · intro W hW; go_simp; try with_reducible rfl
    (try simp only [Act.put, List.getElem_toArray, List.getElem_cons_succ, List.getElem_cons_zero, List.setIfInBounds_toArray, List.set_cons_zero, List.set_cons_succ])
    refine wpAnyH_ready (rs := [30]) (by kernel_rfl) (by simp) ?_
    refine AllReadyH.cons rfl (fun K hK => ?_) (AllReadyH.nil)
    all_goals (try simp only [List.getElem_toArray, List.getElem_cons_succ, List.getElem_cons_zero])
    go_simp
    go_at_call 35
    refine ((HWK _).out).mono ?_
    rintro e wg3 ⟨rfl, hb⟩
    refine hK.out _ _ (hS.on hb) (fun hS => ?_)
    clear hK K
    (try simp only [Act.put, List.getElem_toArray, List.getElem_cons_succ, List.getElem_cons_zero, List.setIfInBounds_toArray, List.set_cons_zero, List.set_cons_succ])
    clear hb
    refine wpAnyH_take (i := 31) (v := ?_) rfl (by kernel_rfl) (by kernel_rfl) (by kernel_rfl) (fun _ _ _ h => h) (Or.inl ⟨by rfl, ?_⟩) hS ?_
    rotate_left
    · intro W hW; go_simp; try with_reducible rfl
    (try simp only [Act.put, List.getElem_toArray, List.getElem_cons_succ, List.getElem_cons_zero, List.setIfInBounds_toArray, List.set_cons_zero, List.set_cons_succ])
    refine wpAnyH_take (i := 32) (v := ?_) rfl (by kernel_rfl) (by kernel_rfl) (by kernel_rfl) (fun _ _ _ h => h) (Or.inl ⟨by rfl, ?_⟩) hS ?_
    rotate_left
    · intro W hW; go_simp; try with_reducible rfl
    (try simp only [Act.put, List.getElem_toArray, List.getElem_cons_succ, List.getElem_cons_zero, List.setIfInBounds_toArray, List.set_cons_zero, List.set_cons_succ])
    refine wpAnyH_done (by kernel_rfl) ?_ _
    have HB := Lib.hid hS
    go_wp2_with fail
    go_ret
    exact ⟨rfl, HB.out.beh⟩
end Go.Proofs.Ytaifjkilmdnfbaa.Lg
