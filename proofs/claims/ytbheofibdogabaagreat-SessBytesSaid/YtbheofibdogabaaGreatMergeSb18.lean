import Derived.Test.YtbheofibdogabaaGreatMergeSb13
import Derived.Test.YtbheofibdogabaaGreatMergeSb14
import Derived.Test.YtbheofibdogabaaGreatWith6
import Derived.Deep.RegionLaw
import Derived.Lib.MinMax
section
/- The reference's set. -/
namespace Go.Proofs.YtbheofibdogabaaGreat.Kv
open Go Go.RowKit Vl Nm Mem
attribute [local go_sem] run_bits run_frombits run_store_float

/-- has a pair been met whose key is not smaller? -/
def met (L : List Pr) (key : ByteArray) (k : Nat) : Bool := (L.take k).any (fun p => !decide (klt p.key key))
/-- what is laid, behind k pairs -/
def laid (L : List Pr) (key : ByteArray) (v : V) (k : Nat) : List Pr :=
  (L.take k).filter (fun p => decide (klt p.key key)) ++ (if v.kind = 0 then [] else if met L key k = true then [⟨key, v⟩] else []) ++ (L.take k).filter (fun p => decide (klt key p.key))
def doneB (L : List Pr) (key : ByteArray) (v : V) (k : Nat) : Bool := decide (v.kind = 0) || met L key k
theorem laid_zero (L : List Pr) (key : ByteArray) (v : V) : laid L key v 0 = [] := by simp [laid, met]
theorem done_zero (L : List Pr) (key : ByteArray) (v : V) : doneB L key v 0 = (v.kind == 0) := by
  unfold doneB met; simp; rw [Bool.eq_iff_iff]; simp
theorem laid_end (L : List Pr) (key : ByteArray) (v : V) (hd : doneB L key v L.length = true) : laid L key v L.length = set L key v := by
  unfold laid set
  rw [List.take_length]
  congr 2
  split
  · rfl
  · rename_i h
    unfold doneB at hd
    rw [decide_eq_false h, Bool.false_or] at hd
    rw [if_pos hd]
theorem gt_nil {L : List Pr} {key : ByteArray} {k : Nat} (hm : met L key k = false) : (L.take k).filter (fun p => decide (klt key p.key)) = [] := by
  rw [List.filter_eq_nil_iff]
  intro p hp'
  unfold met at hm
  have := List.any_eq_false.1 hm p hp'
  have h2 : klt p.key key := by simpa using this
  simpa using klt_asymm h2
theorem laid_fin (L : List Pr) (key : ByteArray) (v : V) (hd : doneB L key v L.length = false) : laid L key v L.length ++ [⟨key, v⟩] = set L key v := by
  unfold doneB at hd
  rw [Bool.or_eq_false_iff] at hd
  have h0 : v.kind ≠ 0 := of_decide_eq_false hd.1
  have hg := gt_nil hd.2
  unfold laid set
  rw [hd.2, if_neg h0, if_neg h0]
  rw [List.take_length] at hg ⊢
  rw [hg]
  simp
theorem met_next {L : List Pr} {key : ByteArray} {k : Nat} (hk : k < L.length) : met L key (k + 1) = (met L key k || !decide (klt (L.getD k Pr.zero).key key)) := by
  unfold met; rw [take_next hk, List.any_append]; simp
/-- a smaller key: it is laid, the rest stands -/
theorem laid_lt {L : List Pr} (hp : L.Pairwise (fun p q => klt p.key q.key)) {key : ByteArray} {v : V} {k : Nat} (hk : k < L.length) (h : klt (L.getD k Pr.zero).key key) :
    laid L key v (k + 1) = laid L key v k ++ [L.getD k Pr.zero] ∧ doneB L key v (k + 1) = doneB L key v k := by
  have hmn : met L key (k + 1) = met L key k := by rw [met_next hk, decide_eq_true h]; simp
  have hm : met L key k = false := by
    unfold met
    rw [List.any_eq_false]
    intro p hp'
    obtain ⟨i, hi, rfl⟩ := List.mem_iff_getElem.1 hp'
    rw [List.length_take] at hi
    rw [List.getElem_take]
    have := List.pairwise_iff_getElem.1 hp i k (by omega) hk (by omega)
    rw [getD_lt hk] at h
    simpa using klt_trans this h
  refine ⟨?_, by unfold doneB; rw [hmn]⟩
  have hg := gt_nil hm
  unfold laid
  rw [hmn, hm, take_next hk, List.filter_append, List.filter_append, hg]
  have e1 : [L.getD k Pr.zero].filter (fun p => decide (klt p.key key)) = [L.getD k Pr.zero] := by rw [List.filter_cons, if_pos (decide_eq_true h)]; rfl
  have e2 : [L.getD k Pr.zero].filter (fun p => decide (klt key p.key)) = [] := by rw [List.filter_cons, if_neg (by simpa using klt_asymm h)]; rfl
  rw [e1, e2]
  simp
/-- no smaller key: the new pair is laid, where it is not yet -/
def laidNow (L : List Pr) (key : ByteArray) (v : V) (k : Nat) : List Pr := if doneB L key v k = true then laid L key v k else laid L key v k ++ [⟨key, v⟩]
theorem laid_ge {L : List Pr} {key : ByteArray} {v : V} {k : Nat} (hk : k < L.length) (h : ¬ klt (L.getD k Pr.zero).key key) :
    laid L key v (k + 1) = laidNow L key v k ++ (if (L.getD k Pr.zero).key = key then [] else [L.getD k Pr.zero]) ∧ doneB L key v (k + 1) = true := by
  have hmn : met L key (k + 1) = true := by rw [met_next hk, decide_eq_false h]; simp
  refine ⟨?_, by unfold doneB; rw [hmn]; simp⟩
  have e1 : [L.getD k Pr.zero].filter (fun p => decide (klt p.key key)) = [] := by rw [List.filter_cons, if_neg (by simpa using h)]; rfl
  have e2 : [L.getD k Pr.zero].filter (fun p => decide (klt key p.key)) = (if (L.getD k Pr.zero).key = key then [] else [L.getD k Pr.zero]) := by
    rw [List.filter_cons]
    rcases klt_three (L.getD k Pr.zero).key key with h2 | h2 | h2
    · exact absurd h2 h
    · rw [if_pos h2, h2, if_neg (by simpa using klt_irrefl key)]; rfl
    · rw [if_pos (decide_eq_true h2), if_neg (klt_ne h2).symm]; rfl
  have el : laid L key v (k + 1) = (L.take k).filter (fun p => decide (klt p.key key)) ++ (if v.kind = 0 then [] else [⟨key, v⟩]) ++ ((L.take k).filter (fun p => decide (klt key p.key)) ++ (if (L.getD k Pr.zero).key = key then [] else [L.getD k Pr.zero])) := by
    unfold laid
    rw [hmn, take_next hk, List.filter_append, List.filter_append, e1, e2]
    simp
  rw [el]
  unfold laidNow
  cases hd : doneB L key v k
  · rw [if_neg Bool.false_ne_true]
    unfold doneB at hd
    rw [Bool.or_eq_false_iff] at hd
    have h0 : v.kind ≠ 0 := of_decide_eq_false hd.1
    have hg := gt_nil hd.2
    unfold laid
    rw [hd.2, hg]
    simp [h0]
  · rw [if_pos rfl]
    unfold laid
    unfold doneB at hd
    by_cases h0 : v.kind = 0
    · rw [if_pos h0, if_pos h0]; simp
    · rw [decide_eq_false h0, Bool.false_or] at hd
      rw [if_neg h0, if_neg h0, hd]; simp
theorem laid_len (L : List Pr) (key : ByteArray) (v : V) (k : Nat) : (laid L key v k).length ≤ 2 * L.length + 1 := by
  unfold laid
  simp only [List.length_append]
  have h1 := List.length_filter_le (fun p : Pr => decide (klt p.key key)) (L.take k)
  have h2 := List.length_filter_le (fun p : Pr => decide (klt key p.key)) (L.take k)
  rw [List.length_take] at h1 h2
  have h3 : (if v.kind = 0 then ([] : List Pr) else if met L key k = true then [⟨key, v⟩] else []).length ≤ 1 := by split; simp; split <;> simp
  omega
/-- the test of a round: is the key not greater than this one -/
theorem le_told (s t : ByteArray) : Op.bytesLess s.toList t.toList = decide (klt s t) := text_lt s t
theorem Made.alloc {w0 w : World} {b : Nat} {a : Option Addr} {cap : Nat} {L : List Pr} (m : Made w0 w b a cap L) (o : Obj) : Made w0 (w.alloc o) b a cap L :=
  ⟨OwnC.kept m.own ((Kept.refl Mem.None _).alloc _) (fun _ h => h), m.new, m.beh.alloc o⟩
set_option maxHeartbeats 3200000 in
set_option maxRecDepth 100000 in
theorem refSet_any (a : Option Addr) (cap : Nat) (L : List Pr) (key : ByteArray) (v : V) (w : World) (h : PairsAt w a cap L) (hp : L.Pairwise (fun p q => klt p.key q.key)) (hl : L.length ≤ 32) :
    Calls Tryz.prog 97 #[.slice a L.length cap, .string key, v.val] w fun e w' => ∃ b' a' cap', e = .returned (.slice a' (set L key v).length cap') ∧ Made w w' b' a' cap' (set L key v) := by
  have HI := Lib.hid h
  have HA0 := Lib.hid (alloc_here (w := w) (Vobj v) rfl)
  have HB0 := Lib.hid ((Beh.start w).alloc (Vobj v))
  have HLT : Hid (∀ k, k < L.length → klt (L.getD k Pr.zero).key key → laid L key v (k + 1) = laid L key v k ++ [L.getD k Pr.zero] ∧ doneB L key v (k + 1) = doneB L key v k) := fun k hk h => laid_lt hp hk h
  have HGE : Hid (∀ k, k < L.length → ¬ klt (L.getD k Pr.zero).key key → laid L key v (k + 1) = laidNow L key v k ++ (if (L.getD k Pr.zero).key = key then [] else [L.getD k Pr.zero]) ∧ doneB L key v (k + 1) = true) := fun k hk h => laid_ge hk h
  have HLL := Lib.hid (laid_len L key v)
  have HE1 := Lib.hid (laid_end L key v)
  have HE2 := Lib.hid (laid_fin L key v)
  have HZ := Lib.hid (laid_zero L key v)
  have HDZ := Lib.hid (done_zero L key v)
  have HNOW : Hid (∀ k d, doneB L key v k = d → laidNow L key v k = if d = true then laid L key v k else laid L key v k ++ [⟨key, v⟩]) := fun k d hd => by unfold laidNow; rw [hd]
  clear h hp
  obtain ⟨vk, vn, vs⟩ := v
  unfold Vobj at HA0 HB0
  dsimp only at HDZ
  generalize hlaid : laid L key ⟨vk, vn, vs⟩ = LD at *
  generalize hdone : doneB L key ⟨vk, vn, vs⟩ = DN at *
  generalize hnow : laidNow L key ⟨vk, vn, vs⟩ = NW at *
  clear hlaid hdone hnow
  have HV : Hid (∀ wq, Beh (w.alloc (.cells #[.int .i64 vk, .float .f64 vn, .string vs] 50)) wq → wq.heap[w.heap.size]? = some (.cells #[.int .i64 vk, .float .f64 vn, .string vs] 50)) := fun wq hq => hq.box HA0.out
  have HI1 := Lib.hid (HI.out.alloc (.cells #[.int .i64 vk, .float .f64 vn, .string vs] 50))
  clear HA0
  have hl0 : Hid ((LD 0).length = 0) := by show _ = _; rw [HZ.out]; rfl
  obtain ⟨d0, hd0⟩ : ∃ d, (vk == 0) = d := ⟨_, rfl⟩
  rw [hd0] at HDZ
  go_enter Tryz.func97, Tryz.ntmps97
  go_wp2
  go_loopw [7, 8, 9] (fun s d i wr => ∃ (k b : Nat) (a' : Option Addr) (cap' : Nat) (n : Nat), k ≤ L.length ∧ i = .int .i64 k ∧ d = .bool (DN k) ∧ s = .slice a' n cap' ∧ Hid (n = (LD k).length) ∧ Hid (Made (w.alloc (.cells #[.int .i64 vk, .float .f64 vn, .string vs] 50)) wr b a' cap' (LD k))) (fun _ _ i _ => L.length - (intOf i).toNat)
  case atStart => exact ⟨0, w.heap.size + 1, none, 0, 0, by omega, rfl, by rw [HDZ.out], rfl, hl0.out.symm, by show Made _ _ _ _ _ _; rw [HZ.out]; exact ⟨OwnC.nil _ _ _ _, by simp, Beh.start _⟩⟩
  case round =>
    obtain ⟨k, b, a', cap', n, hk, rfl, rfl, rfl, hn, HM⟩ := hrel
    have hn2 := hn.out
    subst hn2
    have hn70 : (LD k).length ≤ 65 := by have := HLL.out k; omega
    obtain ⟨v0, v1, v2, _⟩ := cells3 (HV.out _ HM.out.beh)
    by_cases hlt : k < L.length
    · obtain ⟨ab, off, rfl, hc⟩ := (HI1.out.below HM.out.beh).at_ (by omega)
      have HPK : Hid (∀ wq, Beh (w.alloc (.cells #[.int .i64 vk, .float .f64 vn, .string vs] 50)) wq → (L.getD k Pr.zero).at_ wq ab (off + k * 4)) := fun wq hq => by
        obtain ⟨_, _, he, hc⟩ := (HI1.out.below hq.below).at_ (by omega)
        cases he
        exact hc k hlt
      clear hc
      have H1 := Lib.hid (HLT.out k hlt)
      have H2 := Lib.hid (HGE.out k hlt)
      generalize L.getD k Pr.zero = p at *
      obtain ⟨ley, ⟨uk, un, us⟩⟩ := p
      obtain ⟨h1, h2, h3, h4⟩ := HPK.out _ HM.out.beh
      have HT := Lib.hid (le_told ley key)
      have HKT := Lib.hid (key_test ley key)
      obtain ⟨d, hd⟩ : ∃ d, DN k = d := ⟨_, rfl⟩
      have HN := Lib.hid (HNOW.out k d hd)
      rw [hd]
      have HD := Lib.hid hd
      clear hd
      cases t : Op.bytesLess ley.toList key.toList
      case true =>
        have hkl : klt ley key := by have := HT.out; rw [t] at this; exact of_decide_eq_true this.symm
        have hne : (ley.toList != key.toList) = true := by rw [bne, HKT.out, decide_eq_false (klt_ne hkl)]; rfl
        have HK := Lib.hid (H1.out hkl)
        have e : (ley.toList == key.toList) = false := by rw [key_test]; exact decide_eq_false (klt_ne hkl)
        have f1 : Op.bytesLess key.toList ley.toList = false := by rw [le_told]; exact decide_eq_false (klt_asymm hkl)
        have f2 : (key.toList == ley.toList) = false := by rw [key_test]; exact decide_eq_false (klt_ne hkl).symm
        clear hkl
        cases d
        all_goals
          go_wp2_with (at_builtin; refine wpList_append_cells rfl _ _ _ rfl 61 4 _ _ 48 Tryz.underlying22 rfl rfl rfl rfl rfl _ _ _ _ _ rfl (HM.out.alloc _).own _ 1 1 _ rfl (one_pair (p := ⟨_, ⟨_, _, _⟩⟩) (alloc_here _ rfl)).src flat_one (by omega) (by omega) ?_; intro b' a' cap' w' h2 h3 h4 h5; (have HM := Lib.hid ((HM.out.alloc _).more h2 h3 h4)); clear h2 h3 h4 h5; (obtain ⟨h1, h2, h3, h4⟩ := HPK.out _ HM.out.beh); obtain ⟨v0, v1, v2, _⟩ := cells3 (HV.out _ HM.out.beh))
          go_roundw
          case rel => exact ⟨k + 1, _, _, _, _, by omega, by go_num, by rw [HK.out.2, HD.out], rfl, by show _ = _; rw [HK.out.1, List.length_append]; rfl, by show Made _ _ _ _ _ _; rw [HK.out.1]; exact HM.out⟩
          case measure => simp [intOf]; omega
      case false =>
        have hkl : ¬ klt ley key := by have := HT.out; rw [t] at this; exact of_decide_eq_false this.symm
        have HK := Lib.hid (H2.out hkl)
        have HKL := Lib.hid hkl
        clear hkl
        cases e : (ley.toList == key.toList)
        · have hne : (ley.toList != key.toList) = true := by rw [bne, e]; rfl
          have HNE : Hid (ley ≠ key) := by
            show ley ≠ key
            have := HKT.out
            rw [e] at this
            exact of_decide_eq_false this.symm
          have f1 : Op.bytesLess key.toList ley.toList = true := by
            rw [le_told]
            refine decide_eq_true ?_
            rcases klt_three ley key with h | h | h
            · exact absurd h HKL.out
            · exact absurd h HNE.out
            · exact h
          cases d
          · have HLD : Hid (LD (k + 1) = LD k ++ [⟨key, ⟨vk, vn, vs⟩⟩] ++ [⟨ley, ⟨uk, un, us⟩⟩]) := by show _ = _; rw [HK.out.1, if_neg HNE.out, HN.out, if_neg Bool.false_ne_true]
            go_wp2_with (first | (at_builtin; refine wpList_append_cells rfl _ _ _ rfl 61 4 _ _ 48 Tryz.underlying22 rfl rfl rfl rfl rfl _ _ _ _ _ rfl (OwnC.kept HRAW.out ((Kept.refl Mem.None _).alloc _) (fun _ h => h)) _ 1 1 _ rfl (one_pair (p := ⟨_, ⟨_, _, _⟩⟩) (alloc_here _ rfl)).src flat_one (by omega) (by omega) ?_; intro b' a' cap' w' h2 h3 h4 h5; (have HM := Lib.hid ((HM.out.alloc _).more (M := [⟨ley, ⟨uk, un, us⟩⟩]) (by rw [List.length_append, flat_append]; exact h2) h3 h4)); clear h2 h3 h4 h5; (obtain ⟨h1, h2, h3, h4⟩ := HPK.out _ HM.out.beh); obtain ⟨v0, v1, v2, _⟩ := cells3 (HV.out _ HM.out.beh)) | (at_builtin; refine wpList_append_cells rfl _ _ _ rfl 61 4 _ _ 48 Tryz.underlying22 rfl rfl rfl rfl rfl _ _ _ _ _ rfl (HM.out.alloc _).own _ 1 1 _ rfl (one_pair (p := ⟨_, ⟨_, _, _⟩⟩) (alloc_here _ rfl)).src flat_one (by omega) (by omega) ?_; intro b' a' cap' w' h2 h3 h4 h5; (have HRAW := Lib.hid h2); (have HM := Lib.hid ((HM.out.alloc _).more h2 h3 h4)); clear h2 h3 h4 h5; (obtain ⟨h1, h2, h3, h4⟩ := HPK.out _ HM.out.beh); obtain ⟨v0, v1, v2, _⟩ := cells3 (HV.out _ HM.out.beh)))
            go_roundw
            case rel => exact ⟨k + 1, _, _, _, _, by omega, by go_num, by rw [HK.out.2], rfl, by show _ = _; rw [HLD.out, List.length_append, List.length_append]; rfl, by show Made _ _ _ _ _ _; rw [HLD.out]; exact HM.out⟩
            case measure => simp [intOf]; omega
          · have HLD : Hid (LD (k + 1) = LD k ++ [⟨ley, ⟨uk, un, us⟩⟩]) := by show _ = _; rw [HK.out.1, if_neg HNE.out, HN.out, if_pos rfl]
            go_wp2_with (at_builtin; refine wpList_append_cells rfl _ _ _ rfl 61 4 _ _ 48 Tryz.underlying22 rfl rfl rfl rfl rfl _ _ _ _ _ rfl (HM.out.alloc _).own _ 1 1 _ rfl (one_pair (p := ⟨_, ⟨_, _, _⟩⟩) (alloc_here _ rfl)).src flat_one (by omega) (by omega) ?_; intro b' a' cap' w' h2 h3 h4 h5; (have HM := Lib.hid ((HM.out.alloc _).more h2 h3 h4)); clear h2 h3 h4 h5; (obtain ⟨h1, h2, h3, h4⟩ := HPK.out _ HM.out.beh); obtain ⟨v0, v1, v2, _⟩ := cells3 (HV.out _ HM.out.beh))
            go_roundw
            case rel => exact ⟨k + 1, _, _, _, _, by omega, by go_num, by rw [HK.out.2], rfl, by show _ = _; rw [HLD.out, List.length_append]; rfl, by show Made _ _ _ _ _ _; rw [HLD.out]; exact HM.out⟩
            case measure => simp [intOf]; omega
        · have hne : (ley.toList != key.toList) = false := by rw [bne, e]; rfl
          have HEQ : Hid (ley = key) := by
            show ley = key
            have := HKT.out
            rw [e] at this
            exact of_decide_eq_true this.symm
          have f1 : Op.bytesLess key.toList ley.toList = false := by rw [le_told, HEQ.out]; exact decide_eq_false (klt_irrefl _)
          have f2 : (key.toList == ley.toList) = true := by rw [HEQ.out]; exact beq_self_eq_true _
          cases d
          · have HLD : Hid (LD (k + 1) = LD k ++ [⟨key, ⟨vk, vn, vs⟩⟩]) := by show _ = _; rw [HK.out.1, if_pos HEQ.out, HN.out, if_neg Bool.false_ne_true, List.append_nil]
            go_wp2_with (at_builtin; refine wpList_append_cells rfl _ _ _ rfl 61 4 _ _ 48 Tryz.underlying22 rfl rfl rfl rfl rfl _ _ _ _ _ rfl (HM.out.alloc _).own _ 1 1 _ rfl (one_pair (p := ⟨_, ⟨_, _, _⟩⟩) (alloc_here _ rfl)).src flat_one (by omega) (by omega) ?_; intro b' a' cap' w' h2 h3 h4 h5; (have HM := Lib.hid ((HM.out.alloc _).more h2 h3 h4)); clear h2 h3 h4 h5; (obtain ⟨h1, h2, h3, h4⟩ := HPK.out _ HM.out.beh); obtain ⟨v0, v1, v2, _⟩ := cells3 (HV.out _ HM.out.beh))
            go_roundw
            case rel => exact ⟨k + 1, _, _, _, _, by omega, by go_num, by rw [HK.out.2], rfl, by show _ = _; rw [HLD.out, List.length_append]; rfl, by show Made _ _ _ _ _ _; rw [HLD.out]; exact HM.out⟩
            case measure => simp [intOf]; omega
          · have HLD : Hid (LD (k + 1) = LD k) := by show _ = _; rw [HK.out.1, if_pos HEQ.out, HN.out, if_pos rfl, List.append_nil]
            go_wp2_with fail
            go_roundw
            case rel => exact ⟨k + 1, _, _, _, _, by omega, by go_num, by rw [HK.out.2], rfl, by show _ = _; rw [HLD.out], by show Made _ _ _ _ _ _; rw [HLD.out]; exact HM.out⟩
            case measure => simp [intOf]; omega
    · obtain rfl : k = L.length := by omega
      obtain ⟨d, hd⟩ : ∃ d, DN L.length = d := ⟨_, rfl⟩
      rw [hd]
      cases d
      · have HS := Lib.hid (HE2.out hd)
        clear hd
        have HPK : Hid (∀ wq : World, Beh (w.alloc (.cells #[.int .i64 vk, .float .f64 vn, .string vs] 50)) wq → True ∧ True ∧ True ∧ True) := fun _ _ => ⟨trivial, trivial, trivial, trivial⟩
        go_wp2_with (at_builtin; refine wpList_append_cells rfl _ _ _ rfl 61 4 _ _ 48 Tryz.underlying22 rfl rfl rfl rfl rfl _ _ _ _ _ rfl (HM.out.alloc _).own _ 1 1 _ rfl (one_pair (p := ⟨_, ⟨_, _, _⟩⟩) (alloc_here _ rfl)).src flat_one (by omega) (by omega) ?_; intro b' a' cap' w' h2 h3 h4 h5; (have HM := Lib.hid ((HM.out.alloc _).more h2 h3 h4)); clear h2 h3 h4 h5; (obtain ⟨h1, h2, h3, h4⟩ := HPK.out _ HM.out.beh); obtain ⟨v0, v1, v2, _⟩ := cells3 (HV.out _ HM.out.beh))
        go_ret
        exact ⟨b', a', cap', by rw [← HS.out, List.length_append]; rfl, by rw [← HS.out]; exact HM.out.from HB0.out⟩
      · have HS := Lib.hid (HE1.out hd)
        clear hd
        go_wp2_with fail
        go_ret
        exact ⟨b, a', cap', by rw [← HS.out]; rfl, by rw [← HS.out]; exact HM.out.from HB0.out⟩
end Go.Proofs.YtbheofibdogabaaGreat.Kv
end
section
/- The landed read. -/
namespace Go.Proofs.YtbheofibdogabaaGreat.Ss
open Go Go.RowKit Vl Kv Mem Nm
attribute [local go_sem] run_bits run_frombits run_store_float

theorem step_append_cells {P : Program} {w : World} {ops : Array Oper} {o : Oper} {a : Act} {K : Act → World → Prop} {Q : Exit → Act → World → Prop} {E : Prop} (hgd : o.guard = none) (s x : Operand) (t : TypeId)
    (ho : o.op = .call { callee := .builtin .append, args := #[s, x], argTypes := #[t, t] })
    (e : TypeId) (k : Nat) (i : TypeInfo) (z : Value) (by_ : Nat) (ht : P.underlying t = some (.slice e)) (hi : P.info? e = some i) (hz : i.zero = some z) (hsize : i.size = k) (hby : i.bytes = by_) (hzs : z.cells.size = k)
    (b : Nat) (ao : Option Addr) (cap n : Nat) (cs : List Value) (hs : a.eval s = .slice ao n cap) (own : OwnC e k w b ao cap n cs)
    (a2 : Option Addr) (cap2 m : Nat) (ds : List Value) (hx : a.eval x = .slice a2 m cap2) (hsh : SrcC k w a2 cap2 m ds) (h1c : ∀ u ∈ ds, u.oneCell' = true) (hle : (n + m) * by_ ≤ 70368744177664) (hle2 : n + m ≤ 70368744177664)
    (h : ∀ b' a' cap' w', OwnC e k w' b' a' cap' (n + m) (cs ++ ds) → Kept (Of ao b) w w' → ((b' = b ∧ (a' = none ∨ ao ≠ none)) ∨ w.heap.size ≤ b') → (a' = none ↔ ao = none ∧ m = 0) → K (a.put o.dst (.slice a' (n + m) cap')) w') :
    if Region.wanted o (yielded ops a.tmps) = true then Oper.wp P o a w K Q else E := by
  have hw : Region.wanted o (yielded ops a.tmps) = true := by simp [Region.wanted, hgd]
  rw [if_pos hw]
  exact wp_append_cells s x t ho e k i z by_ ht hi hz hsize hby hzs b ao cap n cs hs own a2 cap2 m ds hx hsh h1c hle hle2 h
theorem RAt.heap {w w' : World} {br bs : Nat} {r : List Nat} {e : Int} (h : Pk.RAt w br bs r e) (hw : w'.heap = w.heap) : Pk.RAt w' br bs r e := by
  obtain ⟨a, cap, hh, hs, h3⟩ := h
  exact ⟨a, cap, by rw [hw]; exact hh, hs.heap hw, h3⟩
theorem one_sess {w : World} {b : Nat} {s : Se} (h : w.heap[b]? = some s.obj) : SessAt w (some ⟨b, 0, none⟩) 1 [s] := by
  refine ⟨Nat.le_refl 1, by omega, fun e => (by cases e), fun _ => ⟨b, 0, rfl, fun i hi => ?_⟩⟩
  obtain rfl : i = 0 := by simpa using hi
  obtain ⟨c0, c1, c2, c3, c4, c5⟩ := cells6 h
  exact ⟨c0, c1, c2, c3, c4, c5⟩
/-- a machine that is being read -/
structure RdS (w wr : World) (br bs : Nat) (r : List Nat) (e : Int) (P : List Pr) (S : List Se) (s : Ms) (bp bq : Nat) : Prop where
  rd : Pk.RAt wr br bs r e
  kept : Kept (Only br) w wr
  mbox : wr.heap[w.heap.size + 1]? = some (.cells #[.slice s.a P.length s.cap, .slice s.a2 S.length s.cap2] 25)
  zbox : wr.heap[w.heap.size]? = some (.cells #[.slice none 0 0, .slice none 0 0] 25)
  op : OwnP 61 wr bp s.a s.cap P
  oq : OwnS 54 wr bq s.a2 s.cap2 S
  lo1 : s.a ≠ none → w.heap.size + 2 ≤ bp
  lo2 : s.a2 ≠ none → w.heap.size + 2 ≤ bq
  ne : s.a ≠ none → s.a2 ≠ none → bp ≠ bq
  lbr : br < w.heap.size
  lbs : r ≠ [] → bs < w.heap.size
theorem RdS.len {w wr : World} {br bs : Nat} {r : List Nat} {e : Int} {P : List Pr} {S : List Se} {s : Ms} {bp bq : Nat} (h : RdS w wr br bs r e P S s bp bq) : w.heap.size + 1 < wr.heap.size := lt_of_heap h.mbox
theorem RdS.call {w wr w' : World} {br bs : Nat} {r r' : List Nat} {e e' : Int} {P : List Pr} {S : List Se} {s : Ms} {bp bq : Nat} (h : RdS w wr br bs r e P S s bp bq) (hr : Pk.RAt w' br bs r' e') (hk : Kept (Only br) wr w') (hn : Rest r r') : RdS w w' br bs r' e' P S s bp bq := by
  have hb := h.lbr
  exact ⟨hr, h.kept.trans hk, keptO hk h.mbox (by omega), keptO hk h.zbox (by omega), h.op.kept hk (fun ha e => by have := h.lo1 ha; have e : bp = br := e; omega), h.oq.kept hk (fun ha e => by have := h.lo2 ha; have e : bq = br := e; omega), h.lo1, h.lo2, h.ne, h.lbr, fun hr' => h.lbs (hn.ne hr')⟩
theorem RdS.on {w wr w' : World} {br bs : Nat} {r : List Nat} {e : Int} {P : List Pr} {S : List Se} {s : Ms} {bp bq : Nat} (h : RdS w wr br bs r e P S s bp bq) (hk : Kept None wr w') : RdS w w' br bs r e P S s bp bq :=
  h.call (h.rd.kept hk (fun h => h) (fun _ h => h)) hk.ofNone (Rest.self h.rd.len.1)
theorem RdS.pair {w wr w' : World} {br bs b' cap' : Nat} {r : List Nat} {e : Int} {P : List Pr} {S : List Se} {s : Ms} {bp bq : Nat} {a' : Option Addr} {p : Pr} (h : RdS w wr br bs r e P S s bp bq)
    (h2 : OwnC 61 4 w' b' a' cap' (P.length + 1) (flat P ++ flat [p])) (h3 : Kept (Of s.a bp) wr w') (h4 : (b' = bp ∧ (a' = none ∨ s.a ≠ none)) ∨ wr.heap.size ≤ b') :
    RdS w (w'.setCell ⟨w.heap.size + 1, 0, none⟩ (.slice a' (P.length + 1) cap')) br bs r e (P ++ [p]) S ⟨a', cap', s.a2, s.cap2⟩ b' bq := by
  have hb := h.lbr
  have hlen := h.len
  have hof : ∀ k, Of s.a bp k → w.heap.size + 2 ≤ k := fun k hk => by have h1 := h.lo1 hk.1; have h2 := hk.2; omega
  have hm : w'.heap[w.heap.size + 1]? = _ := h3.heap h.mbox (fun e => by have := hof _ e; omega)
  have hset : Kept (Only (w.heap.size + 1)) w' (w'.setCell ⟨w.heap.size + 1, 0, none⟩ (.slice a' (P.length + 1) cap')) := (Kept.refl (Only (w.heap.size + 1)) w').setAt (.inl rfl) _ _
  have hblo : a' ≠ none → w.heap.size + 2 ≤ b' := fun ha => by
    rcases h4 with ⟨rfl, h4⟩ | h4
    · exact h.lo1 (h4.resolve_left ha)
    · omega
  refine ⟨RAt.seto (h.rd.kept h3 (fun e => by have := hof _ e; omega) (fun hr e => by have := hof _ e; have := h.lbs hr; omega)) (by omega) (fun hr => by have := h.lbs hr; omega) _ _, (h.kept.trans' h3 (fun x hx => .inr (by have := hof _ hx; omega))).setAt (.inr (by omega)) _ _, ?_, ?_, ?_, ?_, hblo, h.lo2, ?_, h.lbr, h.lbs⟩
  · have := heap_setc (b := w.heap.size + 1) (i := 0) (v := .slice a' (P.length + 1) cap') hm
    rw [this]
    simp
  · exact hset.heap (h3.heap h.zbox (fun e => by have := hof _ e; omega)) (fun e => by have e : w.heap.size = w.heap.size + 1 := e; omega)
  · have := OwnC.kept h2 hset (fun ha e => by have := hblo ha; have e : b' = w.heap.size + 1 := e; omega)
    show OwnC _ 4 _ b' a' cap' (P ++ [p]).length (flat (P ++ [p]))
    rw [List.length_append, flat_append]
    exact this
  · exact OwnC.kept (OwnC.kept h.oq h3 (fun ha e => by have e2 := e.2; exact (h.ne e.1 ha) e2.symm)) hset (fun ha e => by have := h.lo2 ha; have e : bq = w.heap.size + 1 := e; omega)
  · intro ha ha2 e
    rcases h4 with ⟨rfl, h4⟩ | h4
    · exact h.ne (h4.resolve_left ha) ha2 e
    · have := OwnC.lt h.oq ha2
      omega
theorem RdS.sess {w wr w' : World} {br bs b' cap' : Nat} {r : List Nat} {e : Int} {P : List Pr} {S : List Se} {s : Ms} {bp bq : Nat} {a' : Option Addr} {p : Se} (h : RdS w wr br bs r e P S s bp bq)
    (h2 : OwnC 54 6 w' b' a' cap' (S.length + 1) (flatS S ++ flatS [p])) (h3 : Kept (Of s.a2 bq) wr w') (h4 : (b' = bq ∧ (a' = none ∨ s.a2 ≠ none)) ∨ wr.heap.size ≤ b') :
    RdS w (w'.setCell ⟨w.heap.size + 1, 1, none⟩ (.slice a' (S.length + 1) cap')) br bs r e P (S ++ [p]) ⟨s.a, s.cap, a', cap'⟩ bp b' := by
  have hb := h.lbr
  have hlen := h.len
  have hof : ∀ k, Of s.a2 bq k → w.heap.size + 2 ≤ k := fun k hk => by have h1 := h.lo2 hk.1; have h2 := hk.2; omega
  have hm : w'.heap[w.heap.size + 1]? = _ := h3.heap h.mbox (fun e => by have := hof _ e; omega)
  have hset : Kept (Only (w.heap.size + 1)) w' (w'.setCell ⟨w.heap.size + 1, 1, none⟩ (.slice a' (S.length + 1) cap')) := (Kept.refl (Only (w.heap.size + 1)) w').setAt (.inl rfl) _ _
  have hblo : a' ≠ none → w.heap.size + 2 ≤ b' := fun ha => by
    rcases h4 with ⟨rfl, h4⟩ | h4
    · exact h.lo2 (h4.resolve_left ha)
    · omega
  refine ⟨RAt.seto (h.rd.kept h3 (fun e => by have := hof _ e; omega) (fun hr e => by have := hof _ e; have := h.lbs hr; omega)) (by omega) (fun hr => by have := h.lbs hr; omega) _ _, (h.kept.trans' h3 (fun x hx => .inr (by have := hof _ hx; omega))).setAt (.inr (by omega)) _ _, ?_, ?_, ?_, ?_, h.lo1, hblo, ?_, h.lbr, h.lbs⟩
  · have := heap_setc (b := w.heap.size + 1) (i := 1) (v := .slice a' (S.length + 1) cap') hm
    rw [this]
    simp
  · exact hset.heap (h3.heap h.zbox (fun e => by have := hof _ e; omega)) (fun e => by have e : w.heap.size = w.heap.size + 1 := e; omega)
  · exact OwnC.kept (OwnC.kept h.op h3 (fun ha e => by have e2 := e.2; exact (h.ne ha e.1) e2)) hset (fun ha e => by have := h.lo1 ha; have e : bp = w.heap.size + 1 := e; omega)
  · have := OwnC.kept h2 hset (fun ha e => by have := hblo ha; have e : b' = w.heap.size + 1 := e; omega)
    show OwnC _ 6 _ b' a' cap' (S ++ [p]).length (flatS (S ++ [p]))
    rw [List.length_append, flatS_append]
    exact this
  · intro ha ha2 e
    rcases h4 with ⟨rfl, h4⟩ | h4
    · exact h.ne ha (h4.resolve_left ha2) e
    · have := OwnC.lt h.op ha
      omega
end Go.Proofs.YtbheofibdogabaaGreat.Ss
end
