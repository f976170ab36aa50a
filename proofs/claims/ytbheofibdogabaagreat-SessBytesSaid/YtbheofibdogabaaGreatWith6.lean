import Derived.Test.YtbheofibdogabaaGreatMergeSb14
import Derived.Test.YtbheofibdogabaaGreatMergeSb13
import Derived.Test.YtbheofibdogabaaGreatThrow6
/- The landed with: new pairs in which a key has a value. -/
namespace Go.Proofs.YtbheofibdogabaaGreat.Kv
open Go Go.RowKit Vl Nm Mem
attribute [local go_sem] run_bits run_frombits run_store_float

theorem concat_any2 (B0 : Nat) (a1 a2 a3 : Option Addr) (n1 n2 n3 c1 c2 c3 : Nat) (L1 L2 L3 M : List Pr) (w : World)
    (e1 : L1.length = n1) (e2 : L2.length = n2) (e3 : L3.length = n3) (eM : L1 ++ L2 ++ L3 = M)
    (hh : w.heap[B0]? = some (.cells #[.slice a1 n1 c1, .slice a2 n2 c2, .slice a3 n3 c3] 22))
    (h1 : PairsAt w a1 c1 L1) (h2 : PairsAt w a2 c2 L2) (h3 : PairsAt w a3 c3 L3) (l1 : n1 ≤ 1000) (l2 : n2 ≤ 1000) (l3 : n3 ≤ 1000) :
    Calls Tryz.prog 109 #[.slice (some ⟨B0, 0, none⟩) 3 3] w fun e w' => ∃ b' a' cap', e = .returned (.slice a' M.length cap') ∧ Made w w' b' a' cap' M := by
  subst e1 e2 e3 eM
  exact concat_any B0 a1 a2 a3 c1 c2 c3 L1 L2 L3 w hh h1 h2 h3 l1 l2 l3
theorem add_four (x : Addr) : x.add (1 * 4) = ⟨x.block, x.off + 4, none⟩ := by simp [Addr.add]
theorem PairsAt.void (w : World) (ad : Addr) (c : Nat) (hc : c ≤ 9223372036854775807) : PairsAt w (some ad) c [] := ⟨Nat.zero_le _, hc, fun h => (by cases h), fun h => by simp at h⟩
theorem set_of {L : List Pr} (hp : L.Pairwise (fun p q => klt p.key q.key)) {key : ByteArray} {n : Nat} {f : Bool} (h : Stands L key n f) (v : V) :
    set L key v = L.take n ++ (if v.kind = 0 then [] else [⟨key, v⟩]) ++ (if f = true then L.drop (n + 1) else L.drop n) := by
  obtain ⟨h1, h2, h3⟩ := cut_set hp h.le h.lt h.ge
  unfold set
  rw [← h1]
  cases f
  · rw [if_neg (by decide : ¬ (false = true))]
    rw [h3 (fun hn he => by have := h.found.2 ⟨hn, he⟩; cases this)]
  · rw [if_pos rfl]
    obtain ⟨hn, he⟩ := h.found.1 rfl
    rw [h2 hn he]
/-- a pair in a block of its own -/
theorem one_pair {w : World} {b : Nat} {p : Pr} (h : w.heap[b]? = some p.obj) : PairsAt w (some ⟨b, 0, none⟩) 1 [p] := by
  refine ⟨Nat.le_refl _, by omega, fun h => (by cases h), fun _ => ⟨b, 0, rfl, fun i hi => ?_⟩⟩
  obtain rfl : i = 0 := by simp at hi; omega
  obtain ⟨h0, h1, h2, h3⟩ := cells4 h
  exact ⟨h0, h1, h2, h3⟩
set_option maxHeartbeats 3200000 in
set_option maxRecDepth 100000 in
theorem with_ok (a : Option Addr) (cap : Nat) (L : List Pr) (key : ByteArray) (v : V) (w : World) (h : PairsAt w a cap L) (hp : L.Pairwise (fun p q => klt p.key q.key)) (hl : L.length ≤ 32) (hm : (set L key v).length ≤ 32) :
    Calls Tryz.prog 88 #[.slice a L.length cap, .string key, v.val] w fun e w' => ∃ b' a' cap', e = .returned (.slice a' (set L key v).length cap') ∧ Made w w' b' a' cap' (set L key v) := by
  have HI := Lib.hid h
  have HP := Lib.hid hp
  have hlc := h.len
  have hmax := h.max
  have HA := Lib.hid (alloc_here (w := w) (Vobj v) rfl)
  have HB := Lib.hid ((Beh.start w).alloc (Vobj v))
  have HSO : Hid (∀ n f, Stands L key n f → set L key v = L.take n ++ (if v.kind = 0 then [] else [⟨key, v⟩]) ++ (if f = true then L.drop (n + 1) else L.drop n)) := fun n f hst => set_of hp hst v
  clear h hp
  generalize set L key v = M at *
  have HM := Lib.hid hm
  have d32 : decide ((32 : Int) < (M.length : Int)) = false := decide_eq_false (by omega)
  clear hm
  obtain ⟨vk, vn, vs⟩ := v
  unfold Vobj at HA HB
  dsimp only at HSO
  cases a with
  | none =>
    obtain ⟨hL, hc0⟩ := HI.out.bare
    subst hL hc0
    simp only [List.length_nil] at *
    go_enter Tryz.func88, Tryz.ntmps88
    go_wp2_with fail
    refine Calls.mono (search_any none 0 [] _ _ (by exact HI.out.alloc _) HP.out (by simp)) ?_
    rintro e w1 ⟨n, f, rfl, hst, hb⟩
    obtain rfl : n = 0 := by have := hst.le; simp at this; exact this
    obtain rfl : f = false := by cases f; rfl; have := (hst.found.1 rfl).1; simp at this
    have HSET := Lib.hid (HSO.out _ _ hst)
    have HA1 := Lib.hid (box_on HA.out hb)
    have HB1 := Lib.hid (HB.out.on hb)
    obtain ⟨a0, a1, a2, _⟩ := cells3 HA1.out
    clear hb hst
    by_cases hk0 : vk = 0
    · have hk := int_bne hk0
      have hS : Hid (([] : List Pr) ++ [] ++ [] = M) := by show _ = _; rw [HSET.out, if_pos hk0]; simp
      clear hk0
      go_wp2_with fail
      refine Calls.mono (concat_any2 _ none none none 0 0 0 0 0 0 [] [] [] M _ rfl rfl rfl hS.out (by exact alloc_here _ rfl) (PairsAt.empty _) (PairsAt.empty _) (PairsAt.empty _) (by omega) (by first | omega | simp) (by omega)) ?_
      rintro e w2 ⟨b', a', cap', rfl, hmade⟩
      have HMD := Lib.hid ((hmade.from (Beh.start _ |>.alloc _)).from HB1.out)
      clear hmade
      go_wp2_with fail
      go_ret
      exact ⟨b', a', cap', rfl, HMD.out⟩
    · have hk := int_nbne hk0
      have hS : Hid (([] : List Pr) ++ [⟨key, ⟨vk, vn, vs⟩⟩] ++ [] = M) := by show _ = _; rw [HSET.out, if_neg hk0]; simp
      clear hk0
      go_wp2_with fail
      refine Calls.mono (concat_any2 _ none (some ⟨w1.heap.size, 0, none⟩) none 0 1 0 0 1 0 [] [⟨key, ⟨vk, vn, vs⟩⟩] [] M _ rfl rfl rfl hS.out (by exact alloc_here _ (by simp)) (PairsAt.empty _) (by exact one_pair (old_alloc _ (alloc_here _ rfl))) (PairsAt.empty _) (by omega) (by first | omega | simp) (by omega)) ?_
      rintro e w2 ⟨b', a', cap', rfl, hmade⟩
      have HMD := Lib.hid ((hmade.from (Beh.start _ |>.alloc _ |>.alloc _)).from HB1.out)
      clear hmade
      go_wp2_with fail
      go_ret
      exact ⟨b', a', cap', rfl, HMD.out⟩
  | some ad =>
    go_enter Tryz.func88, Tryz.ntmps88
    go_wp2_with fail
    refine Calls.mono (search_any _ _ _ _ _ (by exact HI.out.alloc _) HP.out (by omega)) ?_
    rintro e w1 ⟨n, f, rfl, hst, hb⟩
    have HST := Lib.hid hst
    have hn := hst.le
    have HSET := Lib.hid (HSO.out _ _ hst)
    have HA1 := Lib.hid (box_on HA.out hb)
    have HB1 := Lib.hid (HB.out.on hb)
    have HI1 := Lib.hid (HI.out.below HB1.out.below)
    obtain ⟨a0, a1, a2, _⟩ := cells3 HA1.out
    clear hb hst
    -- what stands behind the key
    obtain ⟨C, a3, n3, c3, HC3, HP3, hn3, HE3⟩ : ∃ (C : List Pr) (a3 : Addr) (n3 c3 : Nat), Hid (C.length = n3) ∧ Hid (PairsAt w1 (some a3) c3 C) ∧ n3 ≤ 32 ∧
        Hid ((f = false ∧ cap = n ∧ a3 = ad ∧ n3 = 0 ∧ c3 = 0 ∧ L.drop n = C) ∨ (f = false ∧ cap ≠ n ∧ a3 = ad.add (n * 4) ∧ n3 = L.length - n ∧ c3 = cap - n ∧ L.drop n = C)
          ∨ (f = true ∧ cap - n = 1 ∧ a3 = ad.add (n * 4) ∧ n3 = L.length - n - 1 ∧ c3 = 0 ∧ L.drop (n + 1) = C) ∨ (f = true ∧ cap - n ≠ 1 ∧ a3 = ⟨(ad.add (n * 4)).block, (ad.add (n * 4)).off + 4, none⟩ ∧ n3 = L.length - n - 1 ∧ c3 = cap - n - 1 ∧ L.drop (n + 1) = C)) := by
      cases f
      · by_cases hcn : cap = n
        · exact ⟨[], ad, 0, 0, rfl, PairsAt.void _ _ _ (by omega), by omega, .inl ⟨rfl, hcn, rfl, rfl, rfl, List.drop_eq_nil_of_le (by omega)⟩⟩
        · exact ⟨L.drop n, ad.add (n * 4), L.length - n, cap - n, by show _ = _; simp, HI1.out.drop hn, by omega, .inr (.inl ⟨rfl, hcn, rfl, rfl, rfl, rfl⟩)⟩
      · have hn1 : n < L.length := (HST.out.found.1 rfl).1
        by_cases hcn : cap - n = 1
        · exact ⟨[], ad.add (n * 4), L.length - n - 1, 0, by show 0 = _; omega, PairsAt.void _ _ _ (by omega), by omega, .inr (.inr (.inl ⟨rfl, hcn, rfl, rfl, rfl, List.drop_eq_nil_of_le (by omega)⟩))⟩
        · refine ⟨L.drop (n + 1), ⟨(ad.add (n * 4)).block, (ad.add (n * 4)).off + 4, none⟩, L.length - n - 1, cap - n - 1, by show _ = _; simp; omega, ?_, by omega, .inr (.inr (.inr ⟨rfl, hcn, rfl, rfl, rfl, rfl⟩))⟩
          have := (HI1.out.drop hn).drop (n := 1) (by rw [List.length_drop]; omega)
          rw [List.drop_drop] at this
          rw [← add_four]
          exact this
    have HPT := Lib.hid (HI1.out.take hn)
    have HTL : Hid ((L.take n).length = n) := by show _ = _; rw [List.length_take]; omega
    have HFN : Hid (f = true → n < L.length) := fun h => (HST.out.found.1 h).1
    have HE4 := HE3.out
    clear HE3
    rcases HE4 with ⟨rfl, hcn, ha3, hn3', hc3, hC⟩ | ⟨rfl, hcn, ha3, hn3', hc3, hC⟩ | ⟨rfl, hcn, ha3, hn3', hc3, hC⟩ | ⟨rfl, hcn, ha3, hn3', hc3, hC⟩
    case' inr.inr.inl | inr.inr.inr =>
      have hn1 : n < L.length := HFN.out rfl
      have hcn0 : ¬ cap = n := by omega
      have hone : (1 : Int) ≤ ((L.length - n : Nat) : Int) := by omega
      replace HSET := Lib.hid (HSET.out.trans (by rw [if_pos rfl, hC]))
    case' inl =>
      replace hcn := hcn.symm
      subst hcn
    case' inl | inr.inl =>
      replace HSET := Lib.hid (HSET.out.trans (by rw [if_neg (fun h : false = true => by cases h), hC]))
    all_goals
      clear hC
      obtain ⟨b, off, spot⟩ := ad
      subst ha3 hn3' hc3
      by_cases hk0 : vk = 0
      · have hk := int_bne hk0
        have hS : Hid (L.take n ++ [] ++ C = M) := by show _ = _; rw [HSET.out, if_pos hk0]
        clear hk0
        go_wp2_with fail
        refine Calls.mono (concat_any2 _ _ _ _ _ _ _ _ _ _ (L.take n) [] C M _ HTL.out rfl HC3.out hS.out (by exact alloc_here _ rfl) (by exact HPT.out.alloc _) (PairsAt.empty _) (by exact HP3.out.alloc _) (by omega) (by first | omega | simp) (by omega)) ?_
        rintro e w2 ⟨b', a', cap', rfl, hmade⟩
        have HMD := Lib.hid ((hmade.from (Beh.start _ |>.alloc _)).from HB1.out)
        clear hmade
        go_wp2_with fail
        go_ret
        exact ⟨b', a', cap', rfl, HMD.out⟩
      · have hk := int_nbne hk0
        have hS : Hid (L.take n ++ [⟨key, ⟨vk, vn, vs⟩⟩] ++ C = M) := by show _ = _; rw [HSET.out, if_neg hk0]
        clear hk0
        go_wp2_with fail
        refine Calls.mono (concat_any2 _ _ _ _ _ _ _ _ _ _ (L.take n) [⟨key, ⟨vk, vn, vs⟩⟩] C M _ HTL.out rfl HC3.out hS.out (by exact alloc_here _ (by simp)) (by exact (HPT.out.alloc _).alloc _) (by exact one_pair (old_alloc _ (alloc_here _ rfl))) (by exact (HP3.out.alloc _).alloc _) (by omega) (by first | omega | simp) (by omega)) ?_
        rintro e w2 ⟨b', a', cap', rfl, hmade⟩
        have HMD := Lib.hid ((hmade.from (Beh.start _ |>.alloc _ |>.alloc _)).from HB1.out)
        clear hmade
        go_wp2_with fail
        go_ret
        exact ⟨b', a', cap', rfl, HMD.out⟩
set_option maxHeartbeats 3200000 in
set_option maxRecDepth 100000 in
theorem with_full (a : Option Addr) (cap : Nat) (L : List Pr) (key : ByteArray) (v : V) (w : World) (h : PairsAt w a cap L) (hp : L.Pairwise (fun p q => klt p.key q.key)) (hl : L.length ≤ 32) (hm : 32 < (set L key v).length) :
    Calls Tryz.prog 88 #[.slice a L.length cap, .string key, v.val] w fun e w' => e = .panicked (thrown 5 V.zero) ∧ Beh w w' := by
  have HI := Lib.hid h
  have HP := Lib.hid hp
  have hlc := h.len
  have hmax := h.max
  have HA := Lib.hid (alloc_here (w := w) (Vobj v) rfl)
  have HB := Lib.hid ((Beh.start w).alloc (Vobj v))
  have HSO : Hid (∀ n f, Stands L key n f → set L key v = L.take n ++ (if v.kind = 0 then [] else [⟨key, v⟩]) ++ (if f = true then L.drop (n + 1) else L.drop n)) := fun n f hst => set_of hp hst v
  clear h hp
  generalize set L key v = M at *
  have HM := Lib.hid hm
  have d32 : decide ((32 : Int) < (M.length : Int)) = true := decide_eq_true (by omega)
  clear hm
  obtain ⟨vk, vn, vs⟩ := v
  unfold Vobj at HA HB
  dsimp only at HSO
  cases a with
  | none =>
    obtain ⟨hL, hc0⟩ := HI.out.bare
    subst hL hc0
    simp only [List.length_nil] at *
    go_enter Tryz.func88, Tryz.ntmps88
    go_wp2_with fail
    refine Calls.mono (search_any none 0 [] _ _ (by exact HI.out.alloc _) HP.out (by simp)) ?_
    rintro e w1 ⟨n, f, rfl, hst, hb⟩
    obtain rfl : n = 0 := by have := hst.le; simp at this; exact this
    obtain rfl : f = false := by cases f; rfl; have := (hst.found.1 rfl).1; simp at this
    have HSET := Lib.hid (HSO.out _ _ hst)
    have HA1 := Lib.hid (box_on HA.out hb)
    have HB1 := Lib.hid (HB.out.on hb)
    obtain ⟨a0, a1, a2, _⟩ := cells3 HA1.out
    clear hb hst
    by_cases hk0 : vk = 0
    · have hk := int_bne hk0
      have hS : Hid (([] : List Pr) ++ [] ++ [] = M) := by show _ = _; rw [HSET.out, if_pos hk0]; simp
      clear hk0
      go_wp2_with fail
      refine Calls.mono (concat_any2 _ none none none 0 0 0 0 0 0 [] [] [] M _ rfl rfl rfl hS.out (by exact alloc_here _ rfl) (PairsAt.empty _) (PairsAt.empty _) (PairsAt.empty _) (by omega) (by first | omega | simp) (by omega)) ?_
      rintro e w2 ⟨b', a', cap', rfl, hmade⟩
      have HMD := Lib.hid ((hmade.from (Beh.start _ |>.alloc _)).from HB1.out)
      clear hmade
      go_wp2_with fail
      exact ⟨rfl, rfl, HMD.out.beh⟩
    · have hk := int_nbne hk0
      have hS : Hid (([] : List Pr) ++ [⟨key, ⟨vk, vn, vs⟩⟩] ++ [] = M) := by show _ = _; rw [HSET.out, if_neg hk0]; simp
      clear hk0
      go_wp2_with fail
      refine Calls.mono (concat_any2 _ none (some ⟨w1.heap.size, 0, none⟩) none 0 1 0 0 1 0 [] [⟨key, ⟨vk, vn, vs⟩⟩] [] M _ rfl rfl rfl hS.out (by exact alloc_here _ (by simp)) (PairsAt.empty _) (by exact one_pair (old_alloc _ (alloc_here _ rfl))) (PairsAt.empty _) (by omega) (by first | omega | simp) (by omega)) ?_
      rintro e w2 ⟨b', a', cap', rfl, hmade⟩
      have HMD := Lib.hid ((hmade.from (Beh.start _ |>.alloc _ |>.alloc _)).from HB1.out)
      clear hmade
      go_wp2_with fail
      exact ⟨rfl, rfl, HMD.out.beh⟩
  | some ad =>
    go_enter Tryz.func88, Tryz.ntmps88
    go_wp2_with fail
    refine Calls.mono (search_any _ _ _ _ _ (by exact HI.out.alloc _) HP.out (by omega)) ?_
    rintro e w1 ⟨n, f, rfl, hst, hb⟩
    have HST := Lib.hid hst
    have hn := hst.le
    have HSET := Lib.hid (HSO.out _ _ hst)
    have HA1 := Lib.hid (box_on HA.out hb)
    have HB1 := Lib.hid (HB.out.on hb)
    have HI1 := Lib.hid (HI.out.below HB1.out.below)
    obtain ⟨a0, a1, a2, _⟩ := cells3 HA1.out
    clear hb hst
    -- what stands behind the key
    obtain ⟨C, a3, n3, c3, HC3, HP3, hn3, HE3⟩ : ∃ (C : List Pr) (a3 : Addr) (n3 c3 : Nat), Hid (C.length = n3) ∧ Hid (PairsAt w1 (some a3) c3 C) ∧ n3 ≤ 32 ∧
        Hid ((f = false ∧ cap = n ∧ a3 = ad ∧ n3 = 0 ∧ c3 = 0 ∧ L.drop n = C) ∨ (f = false ∧ cap ≠ n ∧ a3 = ad.add (n * 4) ∧ n3 = L.length - n ∧ c3 = cap - n ∧ L.drop n = C)
          ∨ (f = true ∧ cap - n = 1 ∧ a3 = ad.add (n * 4) ∧ n3 = L.length - n - 1 ∧ c3 = 0 ∧ L.drop (n + 1) = C) ∨ (f = true ∧ cap - n ≠ 1 ∧ a3 = ⟨(ad.add (n * 4)).block, (ad.add (n * 4)).off + 4, none⟩ ∧ n3 = L.length - n - 1 ∧ c3 = cap - n - 1 ∧ L.drop (n + 1) = C)) := by
      cases f
      · by_cases hcn : cap = n
        · exact ⟨[], ad, 0, 0, rfl, PairsAt.void _ _ _ (by omega), by omega, .inl ⟨rfl, hcn, rfl, rfl, rfl, List.drop_eq_nil_of_le (by omega)⟩⟩
        · exact ⟨L.drop n, ad.add (n * 4), L.length - n, cap - n, by show _ = _; simp, HI1.out.drop hn, by omega, .inr (.inl ⟨rfl, hcn, rfl, rfl, rfl, rfl⟩)⟩
      · have hn1 : n < L.length := (HST.out.found.1 rfl).1
        by_cases hcn : cap - n = 1
        · exact ⟨[], ad.add (n * 4), L.length - n - 1, 0, by show 0 = _; omega, PairsAt.void _ _ _ (by omega), by omega, .inr (.inr (.inl ⟨rfl, hcn, rfl, rfl, rfl, List.drop_eq_nil_of_le (by omega)⟩))⟩
        · refine ⟨L.drop (n + 1), ⟨(ad.add (n * 4)).block, (ad.add (n * 4)).off + 4, none⟩, L.length - n - 1, cap - n - 1, by show _ = _; simp; omega, ?_, by omega, .inr (.inr (.inr ⟨rfl, hcn, rfl, rfl, rfl, rfl⟩))⟩
          have := (HI1.out.drop hn).drop (n := 1) (by rw [List.length_drop]; omega)
          rw [List.drop_drop] at this
          rw [← add_four]
          exact this
    have HPT := Lib.hid (HI1.out.take hn)
    have HTL : Hid ((L.take n).length = n) := by show _ = _; rw [List.length_take]; omega
    have HFN : Hid (f = true → n < L.length) := fun h => (HST.out.found.1 h).1
    have HE4 := HE3.out
    clear HE3
    rcases HE4 with ⟨rfl, hcn, ha3, hn3', hc3, hC⟩ | ⟨rfl, hcn, ha3, hn3', hc3, hC⟩ | ⟨rfl, hcn, ha3, hn3', hc3, hC⟩ | ⟨rfl, hcn, ha3, hn3', hc3, hC⟩
    case' inr.inr.inl | inr.inr.inr =>
      have hn1 : n < L.length := HFN.out rfl
      have hcn0 : ¬ cap = n := by omega
      have hone : (1 : Int) ≤ ((L.length - n : Nat) : Int) := by omega
      replace HSET := Lib.hid (HSET.out.trans (by rw [if_pos rfl, hC]))
    case' inl =>
      replace hcn := hcn.symm
      subst hcn
    case' inl | inr.inl =>
      replace HSET := Lib.hid (HSET.out.trans (by rw [if_neg (fun h : false = true => by cases h), hC]))
    all_goals
      clear hC
      obtain ⟨b, off, spot⟩ := ad
      subst ha3 hn3' hc3
      by_cases hk0 : vk = 0
      · have hk := int_bne hk0
        have hS : Hid (L.take n ++ [] ++ C = M) := by show _ = _; rw [HSET.out, if_pos hk0]
        clear hk0
        go_wp2_with fail
        refine Calls.mono (concat_any2 _ _ _ _ _ _ _ _ _ _ (L.take n) [] C M _ HTL.out rfl HC3.out hS.out (by exact alloc_here _ rfl) (by exact HPT.out.alloc _) (PairsAt.empty _) (by exact HP3.out.alloc _) (by omega) (by first | omega | simp) (by omega)) ?_
        rintro e w2 ⟨b', a', cap', rfl, hmade⟩
        have HMD := Lib.hid ((hmade.from (Beh.start _ |>.alloc _)).from HB1.out)
        clear hmade
        go_wp2_with fail
        exact ⟨rfl, rfl, HMD.out.beh⟩
      · have hk := int_nbne hk0
        have hS : Hid (L.take n ++ [⟨key, ⟨vk, vn, vs⟩⟩] ++ C = M) := by show _ = _; rw [HSET.out, if_neg hk0]
        clear hk0
        go_wp2_with fail
        refine Calls.mono (concat_any2 _ _ _ _ _ _ _ _ _ _ (L.take n) [⟨key, ⟨vk, vn, vs⟩⟩] C M _ HTL.out rfl HC3.out hS.out (by exact alloc_here _ (by simp)) (by exact (HPT.out.alloc _).alloc _) (by exact one_pair (old_alloc _ (alloc_here _ rfl))) (by exact (HP3.out.alloc _).alloc _) (by omega) (by first | omega | simp) (by omega)) ?_
        rintro e w2 ⟨b', a', cap', rfl, hmade⟩
        have HMD := Lib.hid ((hmade.from (Beh.start _ |>.alloc _ |>.alloc _)).from HB1.out)
        clear hmade
        go_wp2_with fail
        exact ⟨rfl, rfl, HMD.out.beh⟩
end Go.Proofs.YtbheofibdogabaaGreat.Kv
