/- Plain mathematics of layer 3: frames: sealed, found, scanned. No program. -/
import Derived.Test.YtfbibmdjahfneaaDoorCrc
namespace Go.Proofs.YtfbibmdjahfneaaDoor.Fr
open Go Mem

def be4 (x : Nat) : List Nat := [x / 16777216 % 256, x / 65536 % 256, x / 256 % 256, x % 256]
def num (l : List Nat) : Nat := l.foldl (fun a b => a * 256 + b) 0
theorem be4_b8 (x : Nat) : B8 (be4 x) := by intro y hy; simp [be4] at hy; omega
theorem num_be4 {x : Nat} (h : x < 4294967296) : num (be4 x) = x := by simp [num, be4]; omega
theorem be4_num {l : List Nat} (hl : l.length = 4) (h : B8 l) : be4 (num l) = l ∧ num l < 4294967296 := by
  match l, hl with
  | [a, b, c, d], _ =>
    have ha := h a (by simp)
    have hb := h b (by simp)
    have hc := h c (by simp)
    have hd := h d (by simp)
    refine ⟨?_, by simp [num]; omega⟩
    simp [num, be4]
    refine ⟨?_, ?_, ?_, ?_⟩ <;> omega
/-- a payload's frame -/
def sealB (p : List Nat) : List Nat := 157 :: (be4 p.length ++ (be4 (crc (be4 p.length ++ p)) ++ p))
/-- the frame that bytes begin with: its payload, its length -/
def firstB (b : List Nat) : Option (List Nat × Nat) :=
  if b.length < 9 ∨ b.getD 0 0 ≠ 157 then none
  else if 16384 < num ((b.drop 1).take 4) ∨ b.length - 9 < num ((b.drop 1).take 4) then none
  else if crc ((b.drop 1).take 4 ++ (b.drop 9).take (num ((b.drop 1).take 4))) = num ((b.drop 5).take 4) then some ((b.drop 9).take (num ((b.drop 1).take 4)), num ((b.drop 1).take 4) + 9) else none
theorem seal_len (p : List Nat) : (sealB p).length = p.length + 9 := by unfold sealB; simp [be4]
theorem seal_b8 {p : List Nat} (h : B8 p) : B8 (sealB p) := by
  intro y hy
  rcases List.mem_cons.1 hy with rfl | hy
  · decide
  · exact ((be4_b8 _).append ((be4_b8 _).append h)) y hy
/-- the parts of what begins with a frame's head -/
theorem parts (n : Nat) (s p : List Nat) (hs : s.length = 4) : ((157 :: (be4 n ++ (s ++ p))).drop 1).take 4 = be4 n ∧ ((157 :: (be4 n ++ (s ++ p))).drop 5).take 4 = s ∧ (157 :: (be4 n ++ (s ++ p))).drop 9 = p := by
  match s, hs with
  | [a, b, c, d], _ => exact ⟨rfl, rfl, rfl⟩
theorem first_parts (n : Nat) (s q : List Nat) (hs : s.length = 4) (hn : n < 4294967296) : firstB (157 :: (be4 n ++ (s ++ q))) =
    if 16384 < n ∨ q.length < n then none else if crc (be4 n ++ q.take n) = num s then some (q.take n, n + 9) else none := by
  obtain ⟨h1, h2, h3⟩ := parts n s q hs
  have hl : (157 :: (be4 n ++ (s ++ q))).length = q.length + 9 := by simp [be4, hs]; omega
  unfold firstB
  rw [if_neg (by rw [hl]; simp), h1, h2, h3, num_be4 hn, hl]
  simp
theorem first_seal {p : List Nat} (h8 : B8 p) (hp : p.length ≤ 16384) (r : List Nat) : firstB (sealB p ++ r) = some (p, p.length + 9) := by
  have e : sealB p ++ r = 157 :: (be4 p.length ++ (be4 (crc (be4 p.length ++ p)) ++ (p ++ r))) := by unfold sealB; simp
  rw [e, first_parts _ _ _ rfl (by omega), if_neg (by rw [List.length_append]; omega)]
  have ht : (p ++ r).take p.length = p := List.take_left
  rw [ht, num_be4 (crc_lt ((be4_b8 _).append h8)), if_pos rfl]
theorem first_none_head {b : List Nat} (h : b.length < 9 ∨ b.getD 0 0 ≠ 157) : firstB b = none := by unfold firstB; rw [if_pos h]
/-- bytes of at least nine that begin with 157, in parts -/
theorem split9 {b : List Nat} (h8 : B8 b) (h : ¬ (b.length < 9 ∨ b.getD 0 0 ≠ 157)) : ∃ n s q, n < 4294967296 ∧ s.length = 4 ∧ b = 157 :: (be4 n ++ (s ++ q)) ∧ B8 s ∧ B8 q := by
  have h9 : 9 ≤ b.length := by omega
  match b, h9 with
  | x :: a0 :: a1 :: a2 :: a3 :: s0 :: s1 :: s2 :: s3 :: q, _ =>
    have hx : x = 157 := by
      have : ¬ x ≠ 157 := fun e => h (.inr e)
      omega
    subst hx
    have hb : B8 [a0, a1, a2, a3] := fun y hy => h8 y (by simp at hy ⊢; omega)
    obtain ⟨e, hlt⟩ := be4_num (l := [a0, a1, a2, a3]) rfl hb
    refine ⟨num [a0, a1, a2, a3], [s0, s1, s2, s3], q, hlt, rfl, by rw [e]; rfl, fun y hy => h8 y (by simp at hy ⊢; omega), fun y hy => h8 y ?_⟩
    simp [hy]
theorem first_sound {b p : List Nat} {n : Nat} (h8 : B8 b) (h : firstB b = some (p, n)) : n = p.length + 9 ∧ p.length ≤ 16384 ∧ b = sealB p ++ b.drop n ∧ B8 p := by
  by_cases h0 : b.length < 9 ∨ b.getD 0 0 ≠ 157
  · rw [first_none_head h0] at h; cases h
  · obtain ⟨m, s, q, hm, hs, rfl, hs8, hq8⟩ := split9 h8 h0
    rw [first_parts _ _ _ hs hm] at h
    split at h
    · cases h
    · rename_i h1
      split at h
      · rename_i h2
        simp only [Option.some.injEq, Prod.mk.injEq] at h
        obtain ⟨rfl, rfl⟩ := h
        have hl : (q.take m).length = m := by rw [List.length_take]; omega
        refine ⟨by rw [hl], by rw [hl]; omega, ?_, hq8.take m⟩
        unfold sealB
        rw [hl, h2, (be4_num hs hs8).1]
        have hd : (157 :: (be4 m ++ (s ++ q))).drop (m + 9) = q.drop m := by
          rw [Nat.add_comm, ← List.drop_drop, (parts m s q hs).2.2]
        rw [hd]
        simp
      · cases h
/-- a strict beginning of a frame is none -/
theorem first_cut {p : List Nat} (hp : p.length ≤ 16384) {k : Nat} (hk : k < p.length + 9) : firstB ((sealB p).take k) = none := by
  by_cases h9 : k < 9
  · exact first_none_head (.inl (by rw [List.length_take]; omega))
  · obtain ⟨j, rfl⟩ : ∃ j, k = j + 9 := ⟨k - 9, by omega⟩
    have e : (sealB p).take (j + 9) = 157 :: (be4 p.length ++ (be4 (crc (be4 p.length ++ p)) ++ p.take j)) := rfl
    rw [e, first_parts _ _ _ rfl (by omega), if_pos (by rw [List.length_take]; omega)]
/-- another payload's frame -/
theorem seal_inj {p q : List Nat} (h : sealB p = sealB q) : p = q := by
  have h1 := congrArg (List.drop 9) h
  exact h1

/-- frames, from the beginning on -/
def scanN : Nat → List Nat → List (List Nat) × Nat
  | 0, _ => ([], 0)
  | f + 1, b => match firstB b with
    | none => ([], 0)
    | some (p, n) => (p :: (scanN f (b.drop n)).1, n + (scanN f (b.drop n)).2)
def scanB (b : List Nat) : List (List Nat) × Nat := scanN (b.length + 1) b
def seals (L : List (List Nat)) : List Nat := (L.map sealB).flatten
theorem seals_cons (p : List Nat) (L : List (List Nat)) : seals (p :: L) = sealB p ++ seals L := by unfold seals; simp
theorem seals_snoc (p : List Nat) (L : List (List Nat)) : seals (L ++ [p]) = seals L ++ sealB p := by unfold seals; simp
def Fit (L : List (List Nat)) : Prop := ∀ p ∈ L, B8 p ∧ p.length ≤ 16384
theorem scanN_seals {r : List Nat} (hr : firstB r = none) : ∀ (L : List (List Nat)) (f : Nat), Fit L → L.length < f → scanN f (seals L ++ r) = (L, (seals L).length) := by
  intro L
  induction L with
  | nil =>
    intro f _ hf
    obtain ⟨f, rfl⟩ : ∃ g, f = g + 1 := ⟨f - 1, by omega⟩
    show scanN (f + 1) r = _
    unfold scanN; rw [hr]; rfl
  | cons p L ih =>
    intro f hL hf
    obtain ⟨f, rfl⟩ : ∃ g, f = g + 1 := ⟨f - 1, by omega⟩
    have hp := hL p (List.mem_cons_self ..)
    rw [seals_cons, List.append_assoc]
    unfold scanN
    rw [first_seal hp.1 hp.2]
    have hd : (sealB p ++ (seals L ++ r)).drop (p.length + 9) = seals L ++ r := by rw [← seal_len]; exact List.drop_left
    simp only
    rw [hd, ih f (fun q hq => hL q (List.mem_cons_of_mem _ hq)) (by simp at hf; omega)]
    simp [seal_len]
theorem seals_len_le (L : List (List Nat)) : L.length ≤ (seals L).length := by
  induction L with
  | nil => simp [seals]
  | cons p L ih => rw [seals_cons, List.length_append, seal_len, List.length_cons]; omega
theorem scan_seals {L : List (List Nat)} {r : List Nat} (hL : Fit L) (hr : firstB r = none) : scanB (seals L ++ r) = (L, (seals L).length) := by
  refine scanN_seals hr L _ hL ?_
  have := seals_len_le L
  rw [List.length_append]; omega
theorem first_nil : firstB [] = none := first_none_head (.inl (by simp))
/-- frames cut off anywhere: the whole ones -/
theorem scan_cut {L : List (List Nat)} (hL : Fit L) {k c : Nat} (hk : k ≤ L.length) (h1 : (seals (L.take k)).length ≤ c) (h2 : k < L.length → c < (seals (L.take (k + 1))).length) :
    scanB ((seals L).take c) = (L.take k, (seals (L.take k)).length) := by
  have hT : Fit (L.take k) := fun p hp => hL p (List.mem_of_mem_take hp)
  have e : seals L = seals (L.take k) ++ seals (L.drop k) := by unfold seals; rw [← List.flatten_append, ← List.map_append, List.take_append_drop]
  rw [e, List.take_append, List.take_of_length_le h1]
  refine scan_seals hT ?_
  by_cases hlt : k < L.length
  · have h5 := h2 hlt
    rw [List.take_succ_eq_append_getElem hlt, seals_snoc, List.length_append, seal_len] at h5
    rw [List.drop_eq_getElem_cons hlt, seals_cons, List.take_append_of_le_length (by rw [seal_len]; omega)]
    exact first_cut (hL _ (List.getElem_mem hlt)).2 (by omega)
  · rw [List.drop_eq_nil_of_le (by omega)]
    exact first_none_head (.inl (by simp [seals]))
end Go.Proofs.YtfbibmdjahfneaaDoor.Fr
