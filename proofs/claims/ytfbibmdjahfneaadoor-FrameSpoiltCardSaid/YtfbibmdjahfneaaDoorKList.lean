/- Rows of bytes (slices of slices) that are read: what comes in, what a call has told; the keeper's Rows. -/
import Derived.Test.YtfbibmdjahfneaaDoorKeepB
import Derived.Test.YtfbibmdjahfneaaDoorOwnV
namespace Go.Proofs.YtfbibmdjahfneaaDoor.Kp
open Go Go.RowKit Mem
/-- a row: the block, where it begins, its room, its bytes -/
structure Row where
  b : Nat
  a : Option Addr
  cap : Nat
  l : List Nat
def Row.val (r : Row) : Value := .slice r.a r.l.length r.cap
instance : Inhabited Row := ⟨⟨0, none, 0, []⟩⟩
/-- a slice shows values: where it has cells, they lie in block b -/
def ShowsV (w : World) (b : Nat) (a : Option Addr) (cap : Nat) (xs : List Value) : Prop :=
  xs.length ≤ cap ∧ cap ≤ 9223372036854775807 ∧ ((a = none ∧ xs = [] ∧ cap = 0) ∨ ∃ off, a = some ⟨b, off, none⟩ ∧ ∀ i, i < xs.length → w.cell? ⟨b, off + i, none⟩ = some (xs.getD i undef))
def SrcV (w : World) (b : Nat) (a : Option Addr) (cap : Nat) (xs : List Value) : Prop := ShowsV w b a cap xs ∨ (xs = [] ∧ a ≠ none)
theorem SrcV.at_ {w : World} {b : Nat} {a : Option Addr} {cap : Nat} {xs : List Value} (h : SrcV w b a cap xs) (h0 : 0 < xs.length) : ∃ off, a = some ⟨b, off, none⟩ ∧ ∀ i, i < xs.length → w.cell? ⟨b, off + i, none⟩ = some (xs.getD i undef) := by
  rcases h with ⟨_, _, ⟨_, rfl, _⟩ | h⟩ | ⟨rfl, _⟩
  · simp at h0
  · exact h
  · simp at h0
theorem ShowsV.kept {S : Nat → Prop} {w w' : World} {b : Nat} {a : Option Addr} {cap : Nat} {xs : List Value} (h : ShowsV w b a cap xs) (hk : Kept S w w') (hs : xs ≠ [] → ¬ S b) : ShowsV w' b a cap xs := by
  obtain ⟨h1, h2, h3⟩ := h
  refine ⟨h1, h2, ?_⟩
  rcases h3 with h3 | ⟨off, ha, hc⟩
  · exact .inl h3
  · refine .inr ⟨off, ha, fun i hi => ?_⟩
    have hlt := World.block_lt_of_cell? w _ (hc i hi)
    exact (hk.cell (p := ⟨b, off + i, none⟩) hlt (hs (by intro e; subst e; simp at hi))).trans (hc i hi)
theorem SrcV.kept {S : Nat → Prop} {w w' : World} {b : Nat} {a : Option Addr} {cap : Nat} {xs : List Value} (h : SrcV w b a cap xs) (hk : Kept S w w') (hs : xs ≠ [] → ¬ S b) : SrcV w' b a cap xs := by
  rcases h with h | h
  · exact .inl (h.kept hk hs)
  · exact .inr h
theorem ownV_shows {e : TypeId} {w : World} {b : Nat} {a : Option Addr} {cap : Nat} {xs : List Value} (h : OwnV e w b a cap xs) : ShowsV w b a cap xs := by
  have hc := h
  rcases h with ⟨rfl, rfl, rfl⟩ | ⟨rfl, h1, h2, _⟩
  · exact ⟨Nat.le_refl _, by decide, .inl ⟨rfl, rfl, rfl⟩⟩
  · unfold maxLen at h2
    exact ⟨h1, h2, .inr ⟨0, rfl, fun i hi => by rw [Nat.zero_add]; exact (hc.cellAt i hi).2⟩⟩
/-- rows that may be read -/
def RowsAt (w : World) (a : Option Addr) (cap : Nat) (R : List Row) : Prop := ∃ b, SrcV w b a cap (R.map Row.val) ∧ ∀ r ∈ R, Src w r.b r.a r.cap r.l
/-- what they hold -/
def bytesOf (R : List Row) : List (List Nat) := R.map Row.l
theorem RowsAt.kept {w w' : World} {a : Option Addr} {cap : Nat} {R : List Row} (h : RowsAt w a cap R) (hk : Kept None w w') : RowsAt w' a cap R := by
  obtain ⟨b, h1, h2⟩ := h
  exact ⟨b, h1.kept hk (fun _ h => h), fun r hr => (h2 r hr).kept hk (fun _ h => h)⟩
theorem RowsAt.at_ {w : World} {a : Option Addr} {cap : Nat} {R : List Row} (h : RowsAt w a cap R) (i : Nat) (hi : i < R.length) : ∃ b off bi ai ci, a = some ⟨b, off, none⟩ ∧ w.cell? ⟨b, off + i, none⟩ = some (.slice ai ((bytesOf R).getD i []).length ci) ∧ Src w bi ai ci ((bytesOf R).getD i []) := by
  obtain ⟨b, h1, h2⟩ := h
  obtain ⟨off, ha, hc⟩ := h1.at_ (by rw [List.length_map]; omega)
  have hl : (bytesOf R).getD i [] = R[i].l := by simp [bytesOf, hi]
  refine ⟨b, off, R[i].b, R[i].a, R[i].cap, ha, ?_, by rw [hl]; exact h2 _ (List.getElem_mem hi)⟩
  rw [hc i (by rw [List.length_map]; exact hi), hl]
  simp [hi, Row.val]
/-- what the comparison of rows answers -/
def SameR (L M : List (List Nat)) (w : World) (x : Ending) (w' : World) : Prop := x = .returned (.bool (decide (L = M))) ∧ ∃ n, w' = w.drewN n
theorem rows_next {L M : List (List Nat)} {k : Nat} (hk : k < L.length) (hm : k < M.length) (h : L.take k = M.take k) (he : L.getD k [] = M.getD k []) : L.take (k + 1) = M.take (k + 1) := by
  rw [List.take_succ_eq_append_getElem hk, List.take_succ_eq_append_getElem hm, h]
  simp [hk, hm] at he
  rw [he]
theorem rows_not {L M : List (List Nat)} {k : Nat} (h : ¬ L.getD k [] = M.getD k []) : decide (L = M) = false := by
  simp only [decide_eq_false_iff_not]
  intro e; subst e; exact h rfl
def Short (R : List Row) : Prop := ∀ r ∈ R, r.l.length ≤ 35184372088832
theorem Short.at_ {R : List Row} (h : Short R) {i : Nat} (hi : i < R.length) : ((bytesOf R).getD i []).length ≤ 35184372088832 := by
  have hl : (bytesOf R).getD i [] = R[i].l := by simp [bytesOf, hi]
  rw [hl]; exact h _ (List.getElem_mem hi)
set_option maxHeartbeats 2000000 in
theorem KRows_any (a : Option Addr) (cap : Nat) (R : List Row) (a2 : Option Addr) (cap2 : Nat) (M : List Row) (w : World) (h : RowsAt w a cap R) (h2 : RowsAt w a2 cap2 M) (hs : Short R) (hs2 : Short M) (hl : R.length ≤ 35184372088832) :
    Calls Tryd.prog 21 #[.slice a R.length cap, .slice a2 M.length cap2] w (SameR (bytesOf R) (bytesOf M) w) := by
  have HS := Lib.hid h
  have HS2 := Lib.hid h2
  have HT := Lib.hid hs
  have HT2 := Lib.hid hs2
  have bl : ∀ X : List Row, (bytesOf X).length = X.length := fun X => by simp [bytesOf]
  have BL := Lib.hid bl
  clear h h2 hs hs2 bl
  by_cases hlen : R.length = M.length
  · have HLEN := Lib.hid hlen
    have hne : ((R.length : Int) != M.length) = false := by simp [hlen]
    clear hlen
    go_enter Tryd.func21, Tryd.ntmps21
    go_wp2
    go_loopw [5] (fun i wr => ∃ k : Nat, k ≤ R.length ∧ i = .int .i64 k ∧ Hid ((bytesOf R).take k = (bytesOf M).take k) ∧ Hid (∃ n, wr = w.drewN n)) (fun i _ => R.length - (intOf i).toNat)
    case atStart => exact ⟨0, by omega, rfl, rfl, 0, rfl⟩
    case round =>
      obtain ⟨k, hk, rfl, hs, hw⟩ := hrel
      have hkp : Hid (Kept None w wr) := by obtain ⟨n, rfl⟩ := hw.out; exact (Kept.refl _ _).drewN n
      by_cases hlt : k < R.length
      · have hlt2 : k < M.length := by rw [← HLEN.out]; exact hlt
        obtain ⟨b1, o1, bi1, ai1, ci1, rfl, d1, s1⟩ := (HS.out.kept hkp.out).at_ k hlt
        obtain ⟨b2, o2, bi2, ai2, ci2, rfl, d2, s2⟩ := (HS2.out.kept hkp.out).at_ k hlt2
        have hsn := Lib.hid (rows_next (L := bytesOf R) (M := bytesOf M) (by rw [BL.out]; exact hlt) (by rw [BL.out]; exact hlt2) hs.out)
        have hno := Lib.hid (rows_not (L := bytesOf R) (M := bytesOf M) (k := k))
        have t1 := HT.out.at_ hlt
        have t2 := HT2.out.at_ hlt2
        generalize (bytesOf R).getD k [] = y1 at *
        generalize (bytesOf M).getD k [] = y2 at *
        have hcall : ∀ v : World, v.heap = wr.heap → Calls Tryd.prog 12 #[.slice ai1 y1.length ci1, .slice ai2 y2.length ci2] v (SameB y1 y2 v) := fun v hv => KBytes_any bi1 ai1 ci1 y1 bi2 ai2 ci2 y2 v (s1.heap hv) (s2.heap hv) t1 t2
        obtain ⟨q, hq⟩ : ∃ q, decide (y1 = y2) = q := ⟨_, rfl⟩
        have HQ := Lib.hid hq
        unfold SameB at hcall
        rw [hq] at hcall
        have HC := Lib.hid hcall
        clear hcall s1 s2 hq
        cases q
        · go_wp2
          go_quiet ((go_at_call 12; exact Calls.quiet_of (HC.out _ rfl)))
          go_wp2
          go_ret
          obtain ⟨n, rfl⟩ := hw.out; exact ⟨ret_bool (hno.out (by have := HQ.out; simpa using this)).symm, n + nq, by first | rfl | (rw [World.drewN_drewN])⟩
        · go_wp2
          go_quiet ((go_at_call 12; exact Calls.quiet_of (HC.out _ rfl)))
          go_wp2
          go_roundw
          case rel =>
            obtain ⟨n, rfl⟩ := hw.out
            exact ⟨k + 1, by omega, by go_num, hsn.out (by have := HQ.out; simpa using this), n + nq, by first | rfl | (rw [World.drewN_drewN])⟩
          case measure => simp [intOf]; omega
      · obtain rfl : k = R.length := by omega
        go_wp2
        go_ret
        have e := hs.out
        rw [show R.length = (bytesOf R).length from (BL.out R).symm, List.take_length, BL.out, HLEN.out, show M.length = (bytesOf M).length from (BL.out M).symm, List.take_length] at e
        obtain ⟨n, rfl⟩ := hw.out; exact ⟨ret_bool (by simp [e]), n, rfl⟩
  · have HLEN := Lib.hid hlen
    have hne : ((R.length : Int) != M.length) = true := by simp; omega
    clear hlen
    go_enter Tryd.func21, Tryd.ntmps21
    go_wp2
    go_ret
    exact ⟨ret_bool (by simp only [Bool.false_eq, decide_eq_false_iff_not]; intro e; exact HLEN.out (by rw [← BL.out, e, BL.out])), 0, rfl⟩
end Go.Proofs.YtfbibmdjahfneaaDoor.Kp
