/- Plain mathematics of layer 3: bytes within a payload, turned one after another. No program. -/
import Derived.Test.YtfbibmdjahfneaaDoorFrames
namespace Go.Proofs.YtfbibmdjahfneaaDoor.Fr
open Go Mem
theorem lows_snoc (i : Nat) : ∀ X, lows (i + 1) X = lows i X ++ [X / 256 ^ i % 256] := by
  induction i with
  | zero => intro X; show [X % 256] = [X / 256 ^ 0 % 256]; rw [Nat.pow_zero, Nat.div_one]
  | succ i ih =>
    intro X
    show X % 256 :: lows (i + 1) (X / 256) = X % 256 :: (lows i (X / 256) ++ _)
    rw [ih, Nat.div_div_eq_div_mul, ← Nat.pow_succ']
theorem diff_next {n k i X : Nat} (h : k + i < n) : diff n k (i + 1) X = (diff n k i X).set (k + i) (X / 256 ^ i % 256) := by
  unfold diff
  have e : n - k - i = (n - k - (i + 1)) + 1 := by omega
  have hl : (List.replicate k 0 ++ lows i X).length = k + i := by simp [lows_len]
  rw [e, List.replicate_succ, List.set_append_right _ _ (by rw [hl]; exact Nat.le_refl _), hl, Nat.sub_self, List.set_cons_zero, lows_snoc]
  simp
theorem diff_at {n k i X : Nat} (h : k + i < n) : (diff n k i X).getD (k + i) 0 = 0 := by
  unfold diff
  have e : n - k - i = (n - k - (i + 1)) + 1 := by omega
  have hl : (List.replicate k 0 ++ lows i X).length = k + i := by simp [lows_len]
  rw [e, List.replicate_succ, List.getD_eq_getElem?_getD, List.getElem?_append_right (by rw [hl]; exact Nat.le_refl _), hl, Nat.sub_self]
  rfl
theorem turn_len : ∀ l d : List Nat, (turn l d).length = l.length := by
  intro l
  induction l with
  | nil => intro d; cases d <;> rfl
  | cons a l ih =>
    intro d
    cases d with
    | nil => rfl
    | cons b d => show (turn l d).length + 1 = l.length + 1; rw [ih]
theorem turn_set : ∀ (l d : List Nat) (j y : Nat), l.length = d.length → j < l.length → d.getD j 0 = 0 → turn l (d.set j y) = (turn l d).set j (l.getD j 0 ^^^ y) ∧ (turn l d).getD j 0 = l.getD j 0 := by
  intro l
  induction l with
  | nil => intro d j y _ h; simp at h
  | cons a l ih =>
    intro d j y hl hj h0
    cases d with
    | nil => simp at hl
    | cons b d =>
      cases j with
      | zero =>
        have hb : b = 0 := by simpa using h0
        subst hb
        refine ⟨rfl, ?_⟩
        show a ^^^ 0 = a
        exact Nat.xor_zero a
      | succ j =>
        obtain ⟨h1, h2⟩ := ih d j y (by simpa using hl) (by simpa using hj) (by simpa using h0)
        refine ⟨?_, ?_⟩
        · show (a ^^^ b) :: turn l (d.set j y) = (a ^^^ b) :: (turn l d).set j _
          rw [h1]; rfl
        · show (turn l d).getD j 0 = l.getD j 0
          exact h2
theorem turn_b8 : ∀ l d : List Nat, B8 l → B8 d → B8 (turn l d) := by
  intro l
  induction l with
  | nil => intro d _ _; cases d <;> exact B8.nil
  | cons a l ih =>
    intro d hl hd
    cases d with
    | nil => exact hl
    | cons b d =>
      intro x hx
      rcases List.mem_cons.1 hx with rfl | hx
      · exact Nat.xor_lt_two_pow (n := 8) (hl a (List.mem_cons_self ..)) (hd b (List.mem_cons_self ..))
      · exact ih d (fun y hy => hl y (List.mem_cons_of_mem _ hy)) (fun y hy => hd y (List.mem_cons_of_mem _ hy)) x hx
theorem diff_b8 (n k m X : Nat) : B8 (diff n k m X) := by
  unfold diff
  refine (B8.append ?_ (lows_b8 _ _)).append ?_
  · intro x hx; rw [(List.mem_replicate.1 hx).2]; decide
  · intro x hx; rw [(List.mem_replicate.1 hx).2]; decide
/-- a frame's head -/
def headB (p : List Nat) : List Nat := 157 :: (be4 p.length ++ be4 (crc (be4 p.length ++ p)))
theorem head_len (p : List Nat) : (headB p).length = 9 := rfl
theorem seal_head (p : List Nat) : sealB p = headB p ++ p := by unfold sealB headB; simp
/-- a frame of whose payload i bytes have been turned, from place K on -/
def spoilB (p : List Nat) (K i X : Nat) : List Nat := headB p ++ turn p (diff p.length K i X)
theorem spoil_len (p : List Nat) (K i X : Nat) : (spoilB p K i X).length = p.length + 9 := by
  unfold spoilB; rw [List.length_append, head_len, turn_len]; omega
theorem spoil_zero (p : List Nat) (K X : Nat) (h : K ≤ p.length) : spoilB p K 0 X = sealB p := by
  unfold spoilB; rw [diff_none (by omega) (by rfl), seal_head]
theorem spoil_next {p : List Nat} {K i X : Nat} (h : K + i < p.length) : (spoilB p K i X).set (9 + K + i) (p.getD (K + i) 0 ^^^ (X / 256 ^ i % 256)) = spoilB p K (i + 1) X ∧ (spoilB p K i X).getD (9 + K + i) 0 = p.getD (K + i) 0 := by
  obtain ⟨h1, h2⟩ := turn_set p (diff p.length K i X) (K + i) (X / 256 ^ i % 256) (diff_len (by omega) _).symm h (diff_at h)
  unfold spoilB
  refine ⟨?_, ?_⟩
  · rw [List.set_append_right _ _ (by rw [head_len]; omega), head_len, show 9 + K + i - 9 = K + i by omega, diff_next h, h1]
  · rw [List.getD_eq_getElem?_getD, List.getElem?_append_right (by rw [head_len]; omega), head_len, show 9 + K + i - 9 = K + i by omega, ← List.getD_eq_getElem?_getD, h2]
theorem spoil_b8 {p : List Nat} (h8 : B8 p) (K i X : Nat) : B8 (spoilB p K i X) := by
  unfold spoilB
  refine B8.append ?_ (turn_b8 _ _ h8 (diff_b8 _ _ _ _))
  intro y hy
  rcases List.mem_cons.1 hy with rfl | hy
  · decide
  · exact ((be4_b8 _).append (be4_b8 _)) y hy
/-- whether i bytes of X turn anything -/
def turnsB (i X : Nat) : Bool := decide (X % 256 ^ i ≠ 0)
theorem turns_zero (X : Nat) : turnsB 0 X = false := by unfold turnsB; rw [Nat.pow_zero, Nat.mod_one]; rfl
theorem turns_next (i X : Nat) : turnsB (i + 1) X = (turnsB i X || (X / 256 ^ i % 256 != 0)) := by
  unfold turnsB
  rw [Nat.pow_succ, Nat.mod_mul]
  have hp : 0 < 256 ^ i := Nat.pow_pos (by decide)
  generalize X % 256 ^ i = u at *
  generalize X / 256 ^ i % 256 = v at *
  generalize 256 ^ i = q at *
  by_cases hu : u = 0
  · subst hu
    by_cases hv : v = 0
    · subst hv; simp
    · have : q * v ≠ 0 := Nat.mul_ne_zero (by omega) hv
      simp [hv, this]
  · have : u + q * v ≠ 0 := by omega
    simp [hu]
theorem first_spoilt {p : List Nat} (h8 : B8 p) (hp : p.length ≤ 16384) {K m s B : Nat} (h : K + m ≤ p.length) (hs : s < 8) (hB : B < 4294967296) (hm : m ≤ 5) :
    firstB (spoilB p K m (2 ^ s * B)) = if turnsB m (2 ^ s * B) = true then none else some (p, p.length + 9) := by
  by_cases ht : turnsB m (2 ^ s * B) = true
  · rw [if_pos ht]
    have h0 : little (lows m (2 ^ s * B)) ≠ 0 := by rw [little_lows]; unfold turnsB at ht; exact of_decide_eq_true ht
    have hb := burst (p := p) (pre := be4 p.length) h hs hB hm h0
    have e : spoilB p K m (2 ^ s * B) = 157 :: (be4 p.length ++ (be4 (crc (be4 p.length ++ p)) ++ turn p (diff p.length K m (2 ^ s * B)))) := by unfold spoilB headB; simp
    rw [e, first_parts _ _ _ rfl (by omega), turn_len, if_neg (by omega), List.take_of_length_le (by rw [turn_len]; exact Nat.le_refl _), num_be4 (crc_lt ((be4_b8 _).append h8)), if_neg hb]
  · rw [if_neg ht]
    have h0 : little (lows m (2 ^ s * B)) = 0 := by
      rw [little_lows]; unfold turnsB at ht
      have := of_decide_eq_false (Bool.eq_false_iff.2 ht)
      omega
    have e : spoilB p K m (2 ^ s * B) = sealB p ++ [] := by unfold spoilB; rw [diff_none h h0, List.append_nil, seal_head]
    rw [e, first_seal h8 hp]
end Go.Proofs.YtfbibmdjahfneaaDoor.Fr
