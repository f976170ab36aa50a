/- PackCuts' walk. -/
import Derived.Test.YtjlpmmbmjkbdiaaBack
namespace Go.Proofs.Ytjlpmmbmjkbdiaa.Pk
open Go Go.RowKit Mem
/-- items read one behind the other -/
def run : List It → List Nat × Int → List Nat × Int
  | [], s => s
  | x :: L, s => run L (gotOut x s.1 s.2).2
theorem run_snoc (L : List It) (x : It) : ∀ s, run (L ++ [x]) s = (gotOut x (run L s).1 (run L s).2).2 := by
  induction L with
  | nil => intro s; rfl
  | cons y L ih => intro s; exact ih _
theorem run_take {L : List It} {k : Nat} (h : k < L.length) (s : List Nat × Int) : run (L.take (k + 1)) s = (gotOut (L.getD k It.none) (run (L.take k) s).1 (run (L.take k) s).2).2 := by
  rw [List.take_succ_eq_append_getElem h, run_snoc]; simp [h]
theorem run_encs {w : World} {L : List It} (h : ∀ x ∈ L, x.ok w) (ht : ∀ x ∈ L, x.t.length ≤ 16384) (r : List Nat) : run L (encs L ++ r, 0) = (r, 0) := by
  induction L with
  | nil => rfl
  | cons x L ih =>
    rw [encs_cons, List.append_assoc]
    show run L (gotOut x (x.v.enc ++ (encs L ++ r)) 0).2 = _
    rw [gotOut_enc (h x (List.mem_cons_self ..)) (ht x (List.mem_cons_self ..))]
    exact ih (fun y hy => h y (List.mem_cons_of_mem _ hy)) (fun y hy => ht y (List.mem_cons_of_mem _ hy))
theorem fltOut_lt {r : List Nat} {e : Int} (h8 : B8 r) : (fltOut r e).1 < 18446744073709551616 := by
  unfold fltOut
  cases hd : rdFlt r with
  | none => exact (by decide : 0 < 18446744073709551616)
  | some p =>
    obtain ⟨n, r'⟩ := p
    exact (rd_sound (k := 2) (v := .flt n) (r := r') (by decide) h8 (by simp [rd, hd])).2.1
/-- what is read is read with more behind it, too -/
theorem gotOut_more {x : It} {r : List Nat} {e : Int} (h8 : B8 r) (h : (gotOut x r e).2.2 = 0) (d : List Nat) : e = 0 ∧ (gotOut x (r ++ d) e).2 = ((gotOut x r e).2.1 ++ d, 0) ∧ B8 (gotOut x r e).2.1 := by
  unfold gotOut at *
  split at h
  · rename_i q
    rw [if_pos q, if_pos q]
    obtain ⟨hs, hb⟩ := intOut_step (r := r) (e := e) h8
    obtain ⟨e0, er⟩ := hs h
    have h2 : intOut (r ++ d) e = ((intOut r e).1, (intOut r e).2.1 ++ d, e) := by
      conv => lhs; rw [er]
      rw [List.append_assoc, intOut_enc hb.1 hb.2]
    refine ⟨e0, by show (intOut (r ++ d) e).2 = ((intOut r e).2.1 ++ d, 0); rw [h2, e0], fun y hy => h8 y ?_⟩
    rw [er]; exact List.mem_append_right _ hy
  · rename_i q
    rw [if_neg q, if_neg q]
    split at h
    · rename_i q
      rw [if_pos q, if_pos q]
      obtain ⟨e0, er⟩ := markOut_step (r := r) (e := e) h8 h
      have h2 : markOut (r ++ d) e = ((markOut r e).1, (markOut r e).2.1 ++ d, e) := by
        conv => lhs; rw [er]
        rw [List.append_assoc, markOut_enc]
      refine ⟨e0, by show (markOut (r ++ d) e).2 = ((markOut r e).2.1 ++ d, 0); rw [h2, e0], fun y hy => h8 y ?_⟩
      rw [er]; exact List.mem_append_right _ hy
    · rename_i q
      rw [if_neg q, if_neg q]
      split at h
      · rename_i q
        rw [if_pos q, if_pos q]
        obtain ⟨e0, er⟩ := fltOut_step (r := r) (e := e) h8 h
        have h2 : (fltOut (r ++ d) e).2 = ((fltOut r e).2.1 ++ d, e) := by
          conv => lhs; rw [er]
          rw [List.append_assoc, fltOut_enc (fltOut_lt h8)]
        refine ⟨e0, by show (fltOut (r ++ d) e).2 = ((fltOut r e).2.1 ++ d, 0); rw [h2, e0], fun y hy => h8 y ?_⟩
        rw [er]; exact List.mem_append_right _ hy
      · rename_i q
        rw [if_neg q, if_neg q]
        obtain ⟨hs, _, hb⟩ := textOut_step (r := r) (e := e) h8
        obtain ⟨e0, er⟩ := hs h
        have h2 : textOut (r ++ d) e = ((textOut r e).1, (textOut r e).2.1 ++ d, e) := by
          conv => lhs; rw [er]
          rw [List.append_assoc, textOut_enc hb]
        refine ⟨e0, by show (textOut (r ++ d) e).2 = ((textOut r e).2.1 ++ d, 0); rw [h2, e0], fun y hy => h8 y ?_⟩
        rw [er]; exact List.mem_append_right _ hy
theorem gotOut_keeps {x : It} {r : List Nat} {e : Int} (he : e ≠ 0) : (gotOut x r e).2.2 ≠ 0 := by
  unfold gotOut
  split
  · show (intOut r e).2.2 ≠ 0
    unfold intOut
    split
    · exact he
    · exact keep3 e
  · split
    · show (markOut r e).2.2 ≠ 0
      unfold markOut
      split
      · exact he
      · exact keep3 e
    · split
      · show (fltOut r e).2.2 ≠ 0
        unfold fltOut
        split
        · exact he
        · exact keep3 e
      · show (textOut r e).2.2 ≠ 0
        unfold textOut
        split
        · exact he
        · rename_i h
          rcases rdText_err h with rfl | rfl
          · exact keep2 e
          · exact keep3 e
theorem run_bad : ∀ (L : List It) (s : List Nat × Int), s.2 ≠ 0 → (run L s).2 ≠ 0 := by
  intro L
  induction L with
  | nil => intro s h; exact h
  | cons x L ih => intro s h; exact ih _ (gotOut_keeps h)
theorem run_more (L : List It) (d : List Nat) : ∀ r, B8 r → (run L (r, 0)).2 = 0 → run L (r ++ d, 0) = ((run L (r, 0)).1 ++ d, 0) := by
  induction L with
  | nil => intro r _ _; rfl
  | cons x L ih =>
    intro r h8 h
    have hx : (gotOut x r 0).2.2 = 0 := by
      by_cases hx : (gotOut x r 0).2.2 = 0
      · exact hx
      · exact absurd h (run_bad L _ hx)
    obtain ⟨_, h2, h3⟩ := gotOut_more h8 hx d
    have h1 : (gotOut x r 0).2 = ((gotOut x r 0).2.1, 0) := Prod.ext rfl hx
    show run L (gotOut x (r ++ d) 0).2 = _
    rw [h2]
    show _ = ((run L (gotOut x r 0).2).1 ++ d, 0)
    rw [h1]
    refine ih _ h3 ?_
    have h4 : (run L (gotOut x r 0).2).2 = 0 := h
    rw [h1] at h4
    exact h4
/-- a strict beginning is not read as all of it -/
theorem cut_bad {w : World} {L : List It} (h : ∀ x ∈ L, x.ok w) (ht : ∀ x ∈ L, x.t.length ≤ 16384) {p : Nat} (hp : p < (encs L).length) (h8 : B8 (encs L)) : run L ((encs L).take p, 0) ≠ ([], 0) := by
  intro e
  have h1 := run_more L ((encs L).drop p) ((encs L).take p) (h8.take p) (by rw [e])
  rw [List.take_append_drop, e] at h1
  have h2 := run_encs h ht []
  rw [List.append_nil] at h2
  rw [h2] at h1
  have h3 : ((encs L).drop p).length = 0 := by
    have := congrArg (fun s => s.1.length) h1
    simpa using this.symm
  rw [List.length_drop] at h3
  omega
theorem more_bad {w : World} {L : List It} (h : ∀ x ∈ L, x.ok w) (ht : ∀ x ∈ L, x.t.length ≤ 16384) (m : Nat) : run L (encs L ++ [m], 0) ≠ ([], 0) := by
  rw [run_encs h ht]; simp
theorem gotOut_len {x : It} {r : List Nat} {e : Int} (h8 : B8 r) (he : (gotOut x r e).2.2 ≠ 0 → (gotOut x r e).2.1 = []) : (gotOut x r e).2.1.length ≤ r.length := by
  by_cases h : (gotOut x r e).2.2 = 0
  · obtain ⟨_, h2, _⟩ := gotOut_more h8 h []
    unfold gotOut at h ⊢
    split at h
    · rename_i q; rw [if_pos q]; exact out_len (intOut_step h8).1 (fun h' => absurd h h')
    · rename_i q; rw [if_neg q]
      split at h
      · rename_i q; rw [if_pos q]; exact out_len (markOut_step h8) (fun h' => absurd h h')
      · rename_i q; rw [if_neg q]
        split at h
        · rename_i q; rw [if_pos q]; exact out_len (fltOut_step h8) (fun h' => absurd h h')
        · rename_i q; rw [if_neg q]; exact out_len (textOut_step h8).1 (fun h' => absurd h h')
  · rw [he h]; simp
theorem encs_pos {w : World} {L : List It} (h : ∀ x ∈ L, x.ok w) (ht : ∀ x ∈ L, x.t.length ≤ 16384) (h0 : 0 < L.length) : 0 < (encs L).length := by
  cases L with
  | nil => simp at h0
  | cons x L =>
    rw [encs_cons, List.length_append]
    have : 0 < x.v.enc.length := by
      have hv := It.v_ok (h x (List.mem_cons_self ..)) (ht x (List.mem_cons_self ..))
      cases hx : x.v with
      | int n => exact (intB_len n).1
      | mark b => exact Nat.one_pos
      | flt y => show 0 < (high8 _).length; exact Nat.succ_pos _
      | text t => show 0 < (intB t.length ++ t).length; rw [List.length_append]; have := (intB_len t.length).1; omega
    omega
end Go.Proofs.Ytjlpmmbmjkbdiaa.Pk
