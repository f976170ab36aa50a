/- A Writer that was told of a text that is too long. -/
import Derived.Test.YtjlpmmbmjkbdiaaWant
namespace Go.Proofs.Ytjlpmmbmjkbdiaa.Pk
open Go Go.RowKit Mem
/-- it is so at bw, in the blocks of S -/
def WL (w : World) (bw : Nat) (S : Nat → Prop) : Prop := S bw ∧ (∀ k, S k → k < w.heap.size) ∧ WLong w bw
theorem WL.kept {w w' : World} {bw : Nat} {S T : Nat → Prop} (h : WL w bw S) (hk : Kept T w w') (hd : ∀ k, S k → ¬ T k) : WL w' bw S :=
  ⟨h.1, fun k hs => Nat.lt_of_lt_of_le (h.2.1 k hs) hk.size, hk.heap h.2.2 (hd _ h.1)⟩
set_option maxHeartbeats 1000000 in
theorem put_long (bw : Nat) (a2 : Option Addr) (n cap2 : Nat) (w : World) (h : WLong w bw) :
    Calls Try.prog 41 #[.pointer (some ⟨bw, 0, Option.none⟩), .slice a2 n cap2] w fun x w' => x = .returned (.tuple #[]) ∧ w = w' := by
  have c2 := cell_heap h 2
  simp at c2
  clear h
  go_enter Try.func41, Try.ntmps41
  go_wp2
  refine bodyPost_ret (results_none rfl _ _ _) rfl ?_
  exact ⟨rfl, rfl⟩
theorem puts_long (bw : Nat) (w : World) (h : WLong w bw) (m : List Nat) : PutsNew bw w m fun w' => Kept Mem.None w w' ∧ WLong w' bw := by
  intro w1 b2 a2 cap2 n hk _ _ _
  exact (put_long bw a2 n cap2 w1 (hk.heap h (fun h => h))).mono fun x w' ⟨hx, hw⟩ => ⟨hx, by rw [← hw]; exact hk, by rw [← hw]; exact hk.heap h (fun h => h)⟩
/-- what is known behind a call: it stays so -/
def PutL (bw : Nat) (S : Nat → Prop) (w : World) (x : Ending) (w' : World) : Prop := x = .returned (.tuple #[]) ∧ WL w' bw S ∧ Kept S w w'
theorem PutL.of {bw : Nat} {S : Nat → Prop} {w : World} {x : Ending} {w' : World} (h : WL w bw S) (hx : x = .returned (.tuple #[])) (hk : Kept Mem.None w w') (hl : WLong w' bw) : PutL bw S w x w' :=
  ⟨hx, ⟨h.1, fun k hs => Nat.lt_of_lt_of_le (h.2.1 k hs) hk.size, hl⟩, hk.ofNone⟩
theorem PutL.later {bw : Nat} {S : Nat → Prop} {w w1 : World} {x : Ending} {w' : World} (h : PutL bw S w1 x w') (hk : Kept Mem.None w w1) : PutL bw S w x w' := ⟨h.1, h.2.1, hk.ofNone.trans h.2.2⟩
theorem WInt_long (bw : Nat) (S : Nat → Prop) (n : Int) (w : World) (h : WL w bw S) (h1 : -9223372036854775808 ≤ n) (h2 : n ≤ 9223372036854775807) :
    Calls Try.prog 21 #[.pointer (some ⟨bw, 0, Option.none⟩), .int .i64 n] w (PutL bw S w) :=
  (WInt_gen bw n w h1 h2 _ (puts_long bw w h.2.2 _)).mono fun _ _ ⟨hx, hk, hl⟩ => PutL.of h hx hk hl
theorem WMark_long (bw : Nat) (S : Nat → Prop) (b : Bool) (w : World) (h : WL w bw S) :
    Calls Try.prog 23 #[.pointer (some ⟨bw, 0, Option.none⟩), .bool b] w (PutL bw S w) :=
  (WMark_gen bw b w _ (puts_long bw w h.2.2 _)).mono fun _ _ ⟨hx, hk, hl⟩ => PutL.of h hx hk hl
theorem WFloat_long (bw : Nat) (S : Nat → Prop) (y : Nat) (w : World) (h : WL w bw S) :
    Calls Try.prog 25 #[.pointer (some ⟨bw, 0, Option.none⟩), .float .f64 y] w (PutL bw S w) :=
  (WFloat_gen bw y w _ (puts_long bw w h.2.2 _)).mono fun _ _ ⟨hx, hk, hl⟩ => PutL.of h hx hk hl
set_option maxHeartbeats 1000000 in
theorem WText_long (bw : Nat) (S : Nat → Prop) (w : World) (h : WL w bw S) (a2 : Option Addr) (cap2 n : Nat) (hn : n ≤ 16384) :
    Calls Try.prog 27 #[.pointer (some ⟨bw, 0, Option.none⟩), .slice a2 n cap2] w (PutL bw S w) := by
  have HA := Lib.hid h
  clear h
  go_enter Try.func27, Try.ntmps27
  go_wp2_with fail
  refine (WInt_long bw S n w HA.out (by omega) (by omega)).mono ?_
  rintro x w1 ⟨rfl, h1, h2⟩
  have H1 := Lib.hid h1
  have H2 := Lib.hid h2
  clear h1 h2
  go_wp2_with fail
  refine (put_long bw a2 n cap2 w1 H1.out.2.2).mono ?_
  rintro x w2 ⟨rfl, rfl⟩
  go_wp2
  go_end0
  exact ⟨rfl, H1.out, H2.out⟩
/-- a text that is too long, told to whatever Writer -/
theorem WText_over (bw : Nat) (S : Nat → Prop) (w : World) (v0 v1 v2 : Value) (hS : S bw) (hlt : ∀ k, S k → k < w.heap.size) (h : w.heap[bw]? = some (.cells #[v0, v1, v2] 27 (0, 0))) (a2 : Option Addr) (cap2 n : Nat) (hn : 16384 < n) (hn2 : n ≤ 35184372088832) :
    Calls Try.prog 27 #[.pointer (some ⟨bw, 0, Option.none⟩), .slice a2 n cap2] w (PutL bw S w) := by
  have c0 := cell_heap h 0
  have c1 := cell_heap h 1
  have c2 := cell_heap h 2
  have f0 := frozen_heap h 0
  have f1 := frozen_heap h 1
  have f2 := frozen_heap h 2
  simp at c0 c1 c2
  have HH := Lib.hid h
  have HL := Lib.hid hlt
  clear h hlt
  go_enter Try.func27, Try.ntmps27
  go_wp2
  refine bodyPost_ret (results_none rfl _ _ _) rfl ?_
  have k : Kept S w (((w.setCell ⟨bw, 0, Option.none⟩ (.pointer Option.none)).setCell ⟨bw, 1, Option.none⟩ (.int .i64 0)).setCell ⟨bw, 2, Option.none⟩ (.bool true)) :=
    (((Kept.refl _ _).setAt (.inl hS) _ _).setAt (.inl hS) _ _).setAt (.inl hS) _ _
  refine ⟨rfl, ⟨hS, fun k' hs => Nat.lt_of_lt_of_le (HL.out k' hs) k.size, ?_⟩, k⟩
  show _ = _
  rw [heap_set (heap_set (heap_set HH.out 0 _) 1 _) 2]
  rfl
set_option maxHeartbeats 1000000 in
theorem Bytes_long (bw : Nat) (w : World) (h : WLong w bw) :
    Calls Try.prog 15 #[.pointer (some ⟨bw, 0, Option.none⟩)] w fun x w' => x = .returned (.tuple #[.slice Option.none 0 0, .int .i64 2]) ∧ w = w' := by
  have c2 := cell_heap h 2
  simp at c2
  clear h
  go_enter Try.func15, Try.ntmps15
  go_wp2
  go_ret2
  exact ⟨rfl, rfl⟩
/-- what a Writer holds: bytes; or that a text was too long -/
def St (w : World) (bw : Nat) (S : Nat → Prop) (o : Option (List Nat)) : Prop := match o with
  | some l => WAt w bw S l
  | Option.none => WL w bw S
theorem St.kept {w w' : World} {bw : Nat} {S T : Nat → Prop} {o : Option (List Nat)} (h : St w bw S o) (hk : Kept T w w') (hd : ∀ k, S k → ¬ T k) : St w' bw S o := by
  cases o with
  | none => exact WL.kept h hk hd
  | some l => exact WAt.kept h hk hd
theorem St.lt {w : World} {bw : Nat} {S : Nat → Prop} {o : Option (List Nat)} (h : St w bw S o) : ∀ k, S k → k < w.heap.size := by
  cases o with
  | none => exact h.2.1
  | some l => exact h.2.1
def stepO (o : Option (List Nat)) (x : It) : Option (List Nat) := match o with
  | some l => if x.long then Option.none else some (l ++ x.v.enc)
  | Option.none => Option.none
def PutO (bw : Nat) (S : Nat → Prop) (o : Option (List Nat)) (w : World) (x : Ending) (w' : World) : Prop := x = .returned (.tuple #[]) ∧ St w' bw (Grow S w w') o ∧ Kept S w w'
theorem PutL.put {bw : Nat} {S : Nat → Prop} {w : World} {x : Ending} {w' : World} (h : PutL bw S w x w') : PutO bw S Option.none w x w' := by
  obtain ⟨hx, ⟨h1, h2, h3⟩, hk⟩ := h
  exact ⟨hx, ⟨.inl h1, fun k hs => hs.elim (h2 k) (fun h => h.2), h3⟩, hk⟩
theorem It.long_kind {x : It} (h : x.long = true) : kq x.K 0 = false ∧ kq x.K 1 = false ∧ kq x.K 2 = false ∧ 16384 < x.t.length := by
  unfold It.long at h
  simp at h
  exact ⟨h.1.1.1, h.1.1.2, h.1.2, h.2⟩
set_option maxHeartbeats 2000000 in
set_option maxRecDepth 100000 in
/-- where nothing is written any more, or what comes is too long -/
theorem write_long (bw : Nat) (S : Nat → Prop) (x : It) (w : World) (v0 v1 v2 : Value) (hS : S bw) (hlt : ∀ k, S k → k < w.heap.size) (hh : w.heap[bw]? = some (.cells #[v0, v1, v2] 27 (0, 0)))
    (hor : WLong w bw ∨ x.long = true) (hx : x.ok w) (ht : x.t.length ≤ 32768) :
    Calls Try.prog 11 #[.pointer (some ⟨bw, 0, Option.none⟩), x.agg] w (PutL bw S w) := by
  have HLK : Hid (x.long = true → kq x.K 0 = false ∧ kq x.K 1 = false ∧ kq x.K 2 = false ∧ 16384 < x.t.length) := It.long_kind
  obtain ⟨K, N, I, X, tb, ta, tc, t⟩ := x
  obtain ⟨hK, hN, hX, hT, h8⟩ := hx
  unfold It.agg
  simp only at hK hN hX hT h8 ht HLK ⊢
  have hK1 := hK.1
  have hK2 := hK.2
  have hN1 := hN.1
  have hN2 := hN.2
  obtain ⟨w1, hw1⟩ : ∃ w1, w1 = w.alloc (.cells #[.int .i64 K, .int .i64 N, .bool I, .float .f64 X, .slice ta t.length tc] 32) := ⟨_, rfl⟩
  have k1 : Kept Mem.None w w1 := by rw [hw1]; exact (Kept.refl _ _).alloc _
  have HH1 : Hid (w1.heap[bw]? = some (.cells #[v0, v1, v2] 27 (0, 0))) := k1.heap hh (fun h => h)
  have HL1 : Hid (∀ k, S k → k < w1.heap.size) := fun k hs => Nat.lt_of_lt_of_le (hlt k hs) k1.size
  have HWL : Hid (WLong w bw → WL w1 bw S) := fun h => ⟨hS, HL1.out, k1.heap h (fun h => h)⟩
  have HOR := Lib.hid hor
  have HK1 := Lib.hid k1
  have HW1 := Lib.hid hw1
  clear hK hN hT k1 hw1 hh hlt hor
  cases q0 : kq K 0 <;> cases q1 : kq K 1 <;> cases q2 : kq K 2
  case false.false.false =>
    unfold kq at q0 q1 q2
    go_enter Try.func11, Try.ntmps11
    go_wp2_with fail
    rw [← HW1.out]
    by_cases hbig : 16384 < t.length
    · refine (WText_over bw S w1 v0 v1 v2 hS HL1.out HH1.out ta tc t.length hbig (by omega)).mono ?_
      intro x w' hp
      obtain ⟨rfl, h1, h2⟩ := hp.later HK1.out
      clear hp
      go_wp2
      go_end0
      exact ⟨rfl, h1, h2⟩
    · have hwl : WLong w bw := by
        rcases HOR.out with h | h
        · exact h
        · exact absurd (HLK.out h).2.2.2 hbig
      refine (WText_long bw S w1 (HWL.out hwl) ta tc t.length (by omega)).mono ?_
      intro x w' hp
      obtain ⟨rfl, h1, h2⟩ := hp.later HK1.out
      clear hp hwl
      go_wp2
      go_end0
      exact ⟨rfl, h1, h2⟩
  all_goals
    have hwl : WL w1 bw S := by
      rcases HOR.out with h | h
      · exact HWL.out h
      · obtain ⟨h0, h1, h2, _⟩ := HLK.out h
        simp_all
    have HW := Lib.hid hwl
    clear hwl
    unfold kq at q0 q1 q2
    go_enter Try.func11, Try.ntmps11
    go_wp2_with fail
    rw [← HW1.out]
    first
    | (refine (WFloat_long bw S X w1 HW.out).mono ?_)
    | (refine (WMark_long bw S I w1 HW.out).mono ?_)
    | (refine (WInt_long bw S N w1 HW.out hN1 hN2).mono ?_)
    intro x w' hp
    obtain ⟨rfl, h1, h2⟩ := hp.later HK1.out
    clear hp
    go_wp2
    go_end0
    exact ⟨rfl, h1, h2⟩
theorem write_st (bw : Nat) (S : Nat → Prop) (o : Option (List Nat)) (x : It) (w : World) (h : St w bw S o) (hx : x.ok w) (hs : x.t ≠ [] → ¬ S x.tb) (ht : x.t.length ≤ 32768) (hlen : ∀ l, o = some l → l.length ≤ 35184372088832) :
    Calls Try.prog 11 #[.pointer (some ⟨bw, 0, Option.none⟩), x.agg] w (PutO bw S (stepO o x) w) := by
  cases o with
  | none => exact (write_long bw S x w _ _ _ h.1 h.2.1 h.2.2 (.inl h.2.2) hx ht).mono fun _ _ hp => hp.put
  | some l =>
    unfold stepO
    cases hl : x.long
    · refine (write_any bw S l x w h hx hs (fun q0 q1 q2 => ?_) (hlen l rfl)).mono fun _ _ hp => hp
      unfold It.long at hl
      rw [q0, q1, q2] at hl
      simp at hl
      exact hl
    · obtain ⟨h1, h2, h8, h3⟩ := h
      rcases h3 with ⟨hh, _⟩ | ⟨bp, bd, a, cap, hh, _⟩
      · exact (write_long bw S x w _ _ _ h1 h2 hh (.inr hl) hx ht).mono fun _ _ hp => hp.put
      · exact (write_long bw S x w _ _ _ h1 h2 hh (.inr hl) hx ht).mono fun _ _ hp => hp.put
end Go.Proofs.Ytjlpmmbmjkbdiaa.Pk
