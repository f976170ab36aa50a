import Derived.Test.YtjdebdfbjcpjgaaMergeWr28
/- Lists as codes, read one by one. Plain. -/
namespace Go.Proofs.Ytjdebdfbjcpjgaa.Wr
open Go Go.RowKit Vl Kv Ss Cn Mem Lg
variable {α : Type} {A : Cod α}
theorem rep_zero (l : List Nat) : (A.rep 0).rd l = some ([], l) := rfl
theorem rep_succ (n : Nat) (l : List Nat) : (A.rep (n + 1)).rd l = match A.rd l with
    | none => none
    | some (a, q) => match (A.rep n).rd q with
      | none => none
      | some (L, r) => some (a :: L, r) := rfl
theorem rep_snoc {k : Nat} {l r q : List Nat} {L : List α} {x : α} (h : (A.rep k).rd l = some (L, r)) (h2 : A.rd r = some (x, q)) : (A.rep (k + 1)).rd l = some (L ++ [x], q) := by
  induction k generalizing l L with
  | zero =>
    rw [rep_zero] at h
    injection h with h
    injection h with h1 h3
    subst h1 h3
    rw [rep_succ, h2]
    rfl
  | succ k ih =>
    rw [rep_succ] at h
    cases ha : A.rd l with
    | none => rw [ha] at h; cases h
    | some p =>
      obtain ⟨a, q1⟩ := p
      rw [ha] at h
      simp only at h
      cases hb : (A.rep k).rd q1 with
      | none => rw [hb] at h; cases h
      | some p2 =>
        obtain ⟨L2, r2⟩ := p2
        rw [hb] at h
        simp only at h
        injection h with h
        injection h with h1 h3
        subst h1 h3
        rw [rep_succ, ha]
        simp only
        rw [ih hb]
        rfl
theorem rep_stop {k n : Nat} {l r : List Nat} {L : List α} (h : (A.rep k).rd l = some (L, r)) (h2 : A.rd r = none) (hn : k < n) : (A.rep n).rd l = none := by
  induction k generalizing l L n with
  | zero =>
    rw [rep_zero] at h
    injection h with h
    injection h with h1 h3
    subst h1 h3
    obtain ⟨m, rfl⟩ : ∃ m, n = m + 1 := ⟨n - 1, by omega⟩
    rw [rep_succ, h2]
  | succ k ih =>
    obtain ⟨m, rfl⟩ : ∃ m, n = m + 1 := ⟨n - 1, by omega⟩
    rw [rep_succ] at h
    cases ha : A.rd l with
    | none => rw [ha] at h; cases h
    | some p =>
      obtain ⟨a, q1⟩ := p
      rw [ha] at h
      simp only at h
      cases hb : (A.rep k).rd q1 with
      | none => rw [hb] at h; cases h
      | some p2 =>
        obtain ⟨L2, r2⟩ := p2
        rw [rep_succ, ha]
        simp only
        rw [hb] at h
        simp only at h
        injection h with h
        injection h with _ h3
        subst h3
        rw [ih hb (by omega)]
theorem rep_length {k : Nat} {l r : List Nat} {L : List α} (h8 : B8 l) (h : (A.rep k).rd l = some (L, r)) : L.length = k := (rep_ok.1 ((A.rep k).sound l h8 L r h).2).1
theorem rep_le {k m : Nat} {l r : List Nat} {L : List α} (h8 : B8 l) (h : (A.rep k).rd l = some (L, r)) (hA : ∀ x, m ≤ (A.enc x).length) : k * m + r.length ≤ l.length := by
  obtain ⟨e, o⟩ := (A.rep k).sound l h8 L r h
  obtain ⟨hl, _⟩ := rep_ok.1 o
  rw [rep_enc hl] at e
  have := flat_ge (f := A.enc) (n := m) (L := L) (fun x _ => hA x)
  rw [e, List.length_append, ← hl]
  omega
/-- a list with at most so many -/
abbrev cLi (A : Cod α) (most : Int) : Cod (List α) := cList A (fun n => decide (n ≤ most))
theorem cList_rd {P : Int → Bool} (l : List Nat) : (cList A P).rd l = match (cInt.sel (fun n => if 0 ≤ n ∧ P n = true then A.rep n.toNat else Cod.non)).rd l with
    | none => none
    | some (a, r) => some (a.2, r) := by
  cases h : (cInt.sel (fun n => if 0 ≤ n ∧ P n = true then A.rep n.toNat else Cod.non)).rd l with
  | none => exact emb_no h
  | some p => obtain ⟨a, r⟩ := p; exact emb_yes h
theorem cLi_no1 {most : Int} {l : List Nat} (h : rdUp most l = none) : (cLi A most).rd l = none := by
  rw [cList_rd]
  cases hd : cInt.rd l with
  | none => rw [sel_no1 hd]
  | some p =>
    obtain ⟨n, r⟩ := p
    have hn : ¬ (0 ≤ n ∧ decide (n ≤ most) = true) := fun e => by
      rw [rdUp_yes hd e.1 (of_decide_eq_true e.2)] at h; cases h
    rw [sel_no2 hd (by rw [if_neg hn]; rfl)]
theorem cLi_no2 {most n : Int} {l r : List Nat} (h : rdUp most l = some (n, r)) (h2 : (A.rep n.toNat).rd r = none) : (cLi A most).rd l = none := by
  obtain ⟨hd, h0, h1⟩ := rdUp_int h
  rw [cList_rd, sel_no2 hd (by rw [if_pos ⟨h0, decide_eq_true h1⟩]; exact h2)]
theorem cLi_yes {most n : Int} {l r q : List Nat} {L : List α} (h : rdUp most l = some (n, r)) (h2 : (A.rep n.toNat).rd r = some (L, q)) : (cLi A most).rd l = some (L, q) := by
  obtain ⟨hd, h0, h1⟩ := rdUp_int h
  rw [cList_rd, sel_yes hd (by rw [if_pos ⟨h0, decide_eq_true h1⟩]; exact h2)]
/-- a list of entries: no more than there are bytes -/
theorem list_all {l : List Nat} (h8 : B8 l) : (cLi cEnt l.length).rd l = (cList cEnt (fun _ => true)).rd l := by
  cases hu : rdUp (l.length : Int) l with
  | none =>
    rw [cLi_no1 hu, cList_rd]
    cases hd : cInt.rd l with
    | none => rw [sel_no1 hd]
    | some p =>
      obtain ⟨n, r⟩ := p
      by_cases h0 : 0 ≤ n
      · have hle := rd_le cInt h8 hd
        cases hr : (cEnt.rep n.toNat).rd r with
        | none => rw [sel_no2 hd (by rw [if_pos ⟨h0, rfl⟩]; exact hr)]
        | some p2 =>
          obtain ⟨L, q⟩ := p2
          have := rep_le (m := 2) (rd_b8 cInt h8 hd) hr cEnt_len
          rw [rdUp_yes hd h0 (by omega)] at hu
          cases hu
      · rw [sel_no2 hd (by rw [if_neg (fun e => h0 e.1)]; rfl)]
  | some p =>
    obtain ⟨n, r⟩ := p
    obtain ⟨hd, h0, h1⟩ := rdUp_int hu
    cases hr : (cEnt.rep n.toNat).rd r with
    | none => rw [cLi_no2 hu hr, cList_rd, sel_no2 hd (by rw [if_pos ⟨h0, rfl⟩]; exact hr)]
    | some p2 =>
      obtain ⟨L, q⟩ := p2
      rw [cLi_yes hu hr, cList_rd, sel_yes hd (by rw [if_pos ⟨h0, rfl⟩]; exact hr)]
end Go.Proofs.Ytjdebdfbjcpjgaa.Wr
