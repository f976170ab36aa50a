/- The landed writer: entries. -/
import Derived.Test.YtaengjgmchpabaaGreatWireW5
namespace Go.Proofs.YtaengjgmchpabaaGreat.Wr
open Go Go.RowKit Vl Kv Ss Cn Mem Lg Nm
attribute [local go_sem] Nm.run_bits Nm.run_frombits run_store_float
variable {w0 wr : World} {bw : Nat} {o : Option (List Nat)} {F : List (Nat × Obj)}
theorem Yw.laid {w1 w3 : World} {ob : Obj} (h : Yw w0 w1 bw o F) (hB : Beh w1 w3) (hg : w3.heap[w1.heap.size]? = some ob) : Yw w0 w3 bw o ((w1.heap.size, ob) :: F) := by
  obtain ⟨S, h1, h2, h3, h4⟩ := h
  refine ⟨S, h1.kept (kept_beh hB) (fun _ _ h => h), h2, h3.trans (kept_beh hB), fun x hx => ?_⟩
  rcases List.mem_cons.1 hx with rfl | hx
  · exact ⟨hg, fun e => by have := h1.lt _ e; omega⟩
  · exact ⟨hB.box (h4 x hx).1, (h4 x hx).2⟩
theorem entry_yes (h : Yw w0 wr bw o F) {x : E} (hx : FitE x) (hk : okE x = true) (hl : lenO o ≤ 7000000000) :
    Calls Tryz.prog 65 #[.pointer (some ⟨bw, 0, none⟩), x.agg] wr fun y w' => y = .returned (.tuple #[]) ∧ Yw w0 w' bw (app o (cEnt.enc x)) F := by
  have := entry_any h hx hl
  unfold eR at this
  rw [if_pos hk] at this
  exact this
theorem entry_no (h : Yw w0 wr bw o F) {x : E} (hx : FitE x) (hk : okE x = false) (hl : lenO o ≤ 7000000000) :
    Calls Tryz.prog 65 #[.pointer (some ⟨bw, 0, none⟩), x.agg] wr fun y w' => y = .panicked thr ∧ ∃ o, Yw w0 w' bw o F := by
  have := entry_any h hx hl
  unfold eR at this
  rw [if_neg (by rw [hk]; decide)] at this
  exact this
theorem cEnt_le {x : E} (h : FitE x) : (cEnt.enc x).length ≤ 60000 := by
  show ((Pk.intB x.term ++ Pk.intB x.kind) ++ (entPart x.kind).enc (x.call, x.conf)).length ≤ 60000
  have h1 := (Pk.intB_len x.term).2
  have h2 := (Pk.intB_len x.kind).2
  have h3 : ((entPart x.kind).enc (x.call, x.conf)).length ≤ 59000 := by
    unfold entPart
    split
    · show (cCall.enc x.call).length ≤ _
      rw [cCall_enc]
      have a1 := (Pk.intB_len x.call.client).2
      have a2 := (Pk.intB_len x.call.seq).2
      have a3 := (Pk.intB_len x.call.cmd.kind).2
      have a4 := textB_len (bl x.call.cmd.key)
      have a5 := h.call.key
      have a6 := valB_le x.call.cmd.old h.call.old.text
      have a7 := valB_le x.call.cmd.val h.call.val.text
      rw [bl_length] at a4
      simp only [List.length_append]
      omega
    · split
      · show (cConf.enc x.conf).length ≤ _
        rw [cConf_enc]
        have a1 := (Pk.intB_len x.conf.f).2
        have a2 := (Pk.intB_len x.conf.w).2
        have a3 := (Pk.intB_len x.conf.l).2
        have a4 := (Pk.intB_len x.conf.x).2
        simp only [List.length_append]
        omega
      · split
        · show ([] : List Nat).length ≤ _
          simp
        · show ([] : List Nat).length ≤ _
          simp
  simp only [List.length_append]
  omega
/-- a list of entries as bytes -/
def listB (L : List E) : List Nat := Pk.intB L.length ++ L.flatMap cEnt.enc
theorem flat_le {L : List E} (h : ∀ x ∈ L, FitE x) : (L.flatMap cEnt.enc).length ≤ L.length * 60000 := flat_len fun x hx => cEnt_le (h x hx)
theorem listB_le {L : List E} (h : ∀ x ∈ L, FitE x) : (listB L).length ≤ 10 + L.length * 60000 := by
  unfold listB
  rw [List.length_append]
  have := (Pk.intB_len (L.length : Int)).2
  have := flat_le h
  omega
theorem listB_enc {P : Int → Bool} {L : List E} (h : P L.length = true) : (cList cEnt P).enc L = listB L := cList_enc cEnt h
/-- what entries leaves -/
def lR (o : Option (List Nat)) (L : List E) (most : Int) : Option (Option (List Nat)) := if (L.length : Int) ≤ most ∧ okL L = true then some (app o (listB L)) else none
theorem okL_next {L : List E} {k : Nat} (hk : k < L.length) (h : okL (L.take k) = true) (hx : okE (L.getD k E.zero) = true) : okL (L.take (k + 1)) = true := by
  have e : L.getD k E.zero = L[k] := by simp [hk]
  rw [e] at hx
  unfold okL at *
  rw [List.take_succ_eq_append_getElem hk, List.all_append, h]
  simp [hx]
theorem okL_hit {L : List E} {k : Nat} (hk : k < L.length) (hx : okE (L.getD k E.zero) = false) : okL L = false := by
  have e : L.getD k E.zero = L[k] := by simp [hk]
  rw [e] at hx
  unfold okL
  rw [List.all_eq_false]
  exact ⟨_, List.getElem_mem hk, by rw [hx]; decide⟩
theorem ent_getD {L : List E} {k : Nat} (hk : k < L.length) : L.getD k E.zero ∈ L := by
  have e : L.getD k E.zero = L[k] := by simp [hk]
  rw [e]; exact List.getElem_mem hk
theorem enc_next {L : List E} {k : Nat} (hk : k < L.length) : (L.take (k + 1)).flatMap cEnt.enc = (L.take k).flatMap cEnt.enc ++ cEnt.enc (L.getD k E.zero) := by
  have e : L.getD k E.zero = L[k] := by simp [hk]
  rw [List.take_succ_eq_append_getElem hk, List.flatMap_append, e]
  simp
set_option maxRecDepth 100000 in
theorem take_le {L : List E} (h : ∀ x ∈ L, FitE x) (k : Nat) : ((L.take k).flatMap cEnt.enc).length ≤ L.length * 60000 := by
  exact Nat.le_trans (flat_le (L := L.take k) (fun x hx => h x (List.mem_of_mem_take hx))) (Nat.mul_le_mul_right _ (by rw [List.length_take]; omega))
set_option maxHeartbeats 12800000 in
set_option maxRecDepth 100000 in
theorem entries_any (h : Yw w0 wr bw o F) {a : Option Addr} {cap : Nat} {L : List E} (hL : EntAt w0 a cap L) (hf : ∀ x ∈ L, FitE x) (hn : L.length ≤ 14000) (most : Int) (hl : lenO o ≤ 1500000000) :
    Calls Tryz.prog 37 #[.pointer (some ⟨bw, 0, none⟩), .slice a L.length cap, .int .i64 most] wr (Wrote w0 bw F (lR o L most)) := by
  have HX := Lib.hid h
  have HO : Hid (∀ b, okL L = b → lR o L most = if (L.length : Int) ≤ most ∧ b = true then some (app o (listB L)) else none) := fun b hb => by subst hb; rfl
  have HI := Lib.hid hL
  have HF := Lib.hid hf
  clear h hL hf
  have hl1 := lenO_int o L.length
  by_cases hle : (L.length : Int) ≤ most
  · have HLE := Lib.hid hle
    go_enter Tryz.func37, Tryz.ntmps37
    go_wp2_with fail
    refine Calls.mono (upTo_yes HX.out most (by omega) hle (by omega) (by omega)) ?_
    rintro e w' ⟨rfl, hx⟩
    have HX := Lib.hid hx
    clear hx hle
    go_wp2_with fail
    go_loopw [7, 15] (fun _ i wq => ∃ k : Nat, k ≤ L.length ∧ i = .int .i64 k ∧ Hid (okL (L.take k) = true) ∧ Hid (Yw w0 wq bw (app (app o (Pk.intB L.length)) ((L.take k).flatMap cEnt.enc)) F)) (fun _ i _ => L.length - (intOf i).toNat)
    case atStart => exact ⟨0, by omega, rfl, rfl, by show Yw _ _ _ _ _; rw [List.take_zero, List.flatMap_nil, app_nil]; exact HX.out⟩
    case round =>
      clear HX
      obtain ⟨k, hk, rfl, HS, HX⟩ := hrel
      by_cases hlt : k < L.length
      · obtain ⟨b, off, rfl, hc⟩ := EntAt.cells (HI.out.below HX.out.beh) (by omega)
        obtain ⟨c0, c1, c2, c3, c4, c5, c6, c7, c8, c9, c10, c11, c12, c13, c14, c15⟩ := hc k hlt
        clear hc
        have HN := Lib.hid (okL_next hlt HS.out)
        have HH := Lib.hid (okL_hit hlt)
        have HE := Lib.hid (enc_next hlt)
        have HFx := Lib.hid (HF.out _ (ent_getD hlt))
        have hl2 := lenO_app (app o (Pk.intB L.length)) ((L.take k).flatMap cEnt.enc)
        have hl3 := take_le HF.out k
        have hl4 : lenO (app (app o (Pk.intB L.length)) ((L.take k).flatMap cEnt.enc)) ≤ 7000000000 := by omega
        clear hl2 hl3
        have HB := Lib.hid (Bh.Bx.one wr E.zero.obj)
        generalize L.getD k E.zero = x at *
        cases hq : okE x
        · go_wp2_with (first
            | (apply Bh.store_bx 16 0 HB.out; rfl; rfl; rfl; rfl; rfl; rfl; kernel_rfl; rfl; rfl; intro wz hz; have HB := Lib.hid hz; clear hz; have HX := Lib.hid (HX.out.laid HB.out.beh HB.out.b0))
            | (apply Bh.load_bx 0 HB.out Tryz.underlying70; rfl; rfl; rfl; rfl; rfl; kernel_rfl)
            | (go_at_call 65; refine Calls.mono (entry_no (x := x) HX.out HFx.out hq hl4) ?_; rintro e w' ⟨rfl, hx⟩; (have HX2 := Lib.hid (tail_ex hx)); clear hx))
          exact ⟨rfl, Wrote.no2 HX2.out ((HO.out false (HH.out hq)).trans (by simp))⟩
        · go_wp2_with (first
            | (apply Bh.store_bx 16 0 HB.out; rfl; rfl; rfl; rfl; rfl; rfl; kernel_rfl; rfl; rfl; intro wz hz; have HB := Lib.hid hz; clear hz; have HX := Lib.hid (HX.out.laid HB.out.beh HB.out.b0))
            | (apply Bh.load_bx 0 HB.out Tryz.underlying70; rfl; rfl; rfl; rfl; rfl; kernel_rfl)
            | (go_at_call 65; refine Calls.mono (entry_yes (x := x) HX.out HFx.out hq hl4) ?_; rintro e w' ⟨rfl, hx⟩; (have HX := Lib.hid hx.tail); clear hx))
          go_roundw
          case rel => exact ⟨k + 1, by omega, by go_num, HN.out hq, by show Yw _ _ _ _ _; rw [HE.out, ← app_app]; exact HX.out⟩
          case measure => simp [intOf]; omega
      · obtain rfl : k = L.length := by omega
        have HR := Lib.hid (HO.out (okL (L.take L.length)) (by rw [List.take_length]))
        go_wp2
        go_end0
        have hx := HX.out
        rw [List.take_length, app_app] at hx
        exact Wrote.ok hx (HR.out.trans (if_pos ⟨HLE.out, HS.out⟩))
  · have HN : Hid (¬ (0 ≤ (L.length : Int) ∧ (L.length : Int) ≤ most)) := fun h => hle h.2
    have HR := Lib.hid (HO.out (okL L) rfl |>.trans (if_neg (fun h => hle h.1)))
    clear hle
    go_enter Tryz.func37, Tryz.ntmps37
    go_wp2_with (first | (go_at_call 40; refine (upTo_no HX.out most ⟨by omega, by omega⟩ HN.out (by omega)).mono ?_; rintro e w' ⟨rfl, hx⟩; (have HX2 := Lib.hid hx); clear hx))
    exact ⟨rfl, Wrote.no2 HX2.out HR.out⟩
end Go.Proofs.YtaengjgmchpabaaGreat.Wr
