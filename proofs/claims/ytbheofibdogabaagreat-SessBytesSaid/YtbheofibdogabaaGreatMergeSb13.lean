import Derived.Test.YtbheofibdogabaaGreatMergeSb12
import Derived.Test.YtbheofibdogabaaGreatMergeSb11
import Derived.Lib.Bytealg
section
/- The landed readValue. -/
namespace Go.Proofs.YtbheofibdogabaaGreat.Ss
open Go Go.RowKit Vl Kv Mem Nm
attribute [local go_sem] run_bits run_frombits run_store_float

theorem RAt.seto {w : World} {br bs : Nat} {l : List Nat} {e : Int} (h : Pk.RAt w br bs l e) {b : Nat} (h1 : b ≠ br) (h2 : l ≠ [] → b ≠ bs) (i : Nat) (v : Value) : Pk.RAt (w.setCell ⟨b, i, none⟩ v) br bs l e :=
  h.kept ((Kept.refl (Only b) w).setAt (.inl rfl) i v) (fun e => h1 e.symm) (fun hl e => h2 hl e.symm)
theorem RAt.allo {w : World} {br bs : Nat} {l : List Nat} {e : Int} (h : Pk.RAt w br bs l e) (o : Obj) : Pk.RAt (w.alloc o) br bs l e :=
  h.kept (S := None) ((Kept.refl _ _).alloc _) (fun h => h) (fun _ h => h)
theorem RAt.lt1 {w : World} {br bs : Nat} {l : List Nat} {e : Int} (h : Pk.RAt w br bs l e) : br < w.heap.size := by
  obtain ⟨a, cap, hh, _⟩ := h; exact lt_of_heap hh
theorem RAt.lt2 {w : World} {br bs : Nat} {l : List Nat} {e : Int} (h : Pk.RAt w br bs l e) (hl : l ≠ []) : bs < w.heap.size := by
  obtain ⟨a, cap, _, hs, _⟩ := h; exact hs.lt hl
/-- the blocks that two worlds have: all but one are as they were -/
theorem keptO {br : Nat} {w w' : World} (h : Kept (Only br) w w') {n : Nat} {o : Obj} (hn : w.heap[n]? = some o) (hne : n ≠ br) : w'.heap[n]? = some o := h.heap hn (fun e => hne e)
set_option maxHeartbeats 1600000 in
set_option maxRecDepth 100000 in
theorem readValue_any {wr : World} {br bs : Nat} {l : List Nat} {e : Int} (h : Pk.RAt wr br bs l e) (hl : l.length ≤ 100000) :
    Calls Tryz.prog 55 #[.pointer (some ⟨br, 0, none⟩)] wr fun x w' => x = .returned (rdV l e).1.val ∧ Pk.RAt w' br bs (rdV l e).2.1 (rdV l e).2.2 ∧ Kept (Only br) wr w' := by
  have hb1 := RAt.lt1 h
  have hb2 := Lib.hid (fun hl => RAt.lt2 h hl)
  have h8 := h.len.1
  have hr1 := Lib.hid (intOut_rest h8 e)
  have H0 := Lib.hid (RAt.allo h (.cells #[.int .i64 0, .float .f64 0, .string ⟨#[]⟩] 50))
  have hz0 := alloc_here (w := wr) (.cells #[.int .i64 0, .float .f64 0, .string ⟨#[]⟩] 50) rfl
  have HZ0 := Lib.hid hz0
  have HV := Lib.hid (show rdV l e = (if (Pk.intOut l e).1 = 1 then (⟨(Pk.intOut l e).1, (Pk.fltOut (Pk.intOut l e).2.1 (Pk.intOut l e).2.2).1, ⟨#[]⟩⟩, (Pk.fltOut (Pk.intOut l e).2.1 (Pk.intOut l e).2.2).2)
    else if (Pk.intOut l e).1 = 2 then (⟨(Pk.intOut l e).1, 0, lb (Pk.textOut (Pk.intOut l e).2.1 (Pk.intOut l e).2.2).1⟩, (Pk.textOut (Pk.intOut l e).2.1 (Pk.intOut l e).2.2).2)
    else (⟨(Pk.intOut l e).1, 0, ⟨#[]⟩⟩, (Pk.intOut l e).2)) from rfl)
  clear h h8 hz0
  go_enter Tryz.func55, Tryz.ntmps55
  go_wp2_with fail
  refine (rInt H0.out hl).mono ?_
  rintro x w1 ⟨rfl, h1, k1⟩
  generalize Pk.intOut l e = o at *
  obtain ⟨kd, r1, e1⟩ := o
  dsimp only at h1 hr1 HV
  have H1 := Lib.hid h1
  have hs1 : wr.heap.size < w1.heap.size := by have := k1.size; simp at this; omega
  have HZ1 := Lib.hid (keptO k1 HZ0.out (by omega))
  have HK1 : Hid (Kept (Only br) wr w1) := ((Kept.refl (Only br) wr).alloc _).trans k1
  have HN := Lib.hid (alloc_here (w := w1) (.cells #[.int .i64 kd, .float .f64 0, .string ⟨#[]⟩] 50) rfl)
  have HK2 := Lib.hid (HK1.out.alloc (.cells #[.int .i64 kd, .float .f64 0, .string ⟨#[]⟩] 50))
  have H2 := Lib.hid (RAt.allo h1 (.cells #[.int .i64 kd, .float .f64 0, .string ⟨#[]⟩] 50))
  have HZ2 := Lib.hid (old_alloc (.cells #[.int .i64 kd, .float .f64 0, .string ⟨#[]⟩] 50) HZ1.out)
  have hl1 : r1.length ≤ 100000 := Nat.le_trans hr1.out.1 hl
  clear h1 k1 HZ0 H0
  by_cases e1k : kd = 1
  · have b1 : (kd == 1) = true := by rw [e1k]; rfl
    have HR := Lib.hid (HV.out.trans (if_pos e1k))
    have hr2 := Lib.hid (hr1.out.trans (fltOut_rest hr1.out.2 e1))
    clear HV e1k
    go_wp2_with fail
    refine (rFloat H2.out).mono ?_
    rintro x w2 ⟨rfl, h2, k2⟩
    generalize Pk.fltOut r1 e1 = o2 at *
    obtain ⟨x2, r2, e2⟩ := o2
    dsimp only at h2 hr2
    have HZ3 := Lib.hid (keptO k2 HZ2.out (by omega))
    have HN3 := Lib.hid (keptO k2 HN.out (by omega))
    have HK3 := Lib.hid (HK2.out.trans k2)
    have H3 := Lib.hid h2
    have hs2 : w1.heap.size < w2.heap.size := lt_of_heap HN3.out
    obtain ⟨n0, n1, n2, f0, f1, f2⟩ := cells3 HN3.out
    obtain ⟨z0, z1, z2, g0, g1, g2⟩ := cells3 HZ3.out
    clear h2 k2
    have hne : w1.heap.size ≠ wr.heap.size := by omega
    go_wp2_with fail
    (try simp only [Exit.inBlock, Exit.then])
    refine bodyPost_ret (v := (V.mk kd x2 ⟨#[]⟩).val) ?_ rfl ⟨by rw [HR.out], ?_, ?_⟩
    · rw [results_cell_one rfl]
      go_simp
    · rw [HR.out]
      have hx : ∀ {b : Nat}, wr.heap.size ≤ b → r2 ≠ [] → b ≠ bs := fun hb hl e => by
        have := hb2.out (hr2.out.ne hl); omega
      exact RAt.seto (RAt.seto (RAt.seto (RAt.seto H3.out (by omega) (hx (by omega)) _ _) (by omega) (hx (by omega)) _ _) (by omega) (hx (by omega)) _ _) (by omega) (hx (by omega)) _ _
    · exact (((HK3.out.setAt (.inr (by omega)) _ _).setAt (.inr (by omega)) _ _).setAt (.inr (by omega)) _ _).setAt (.inr (by omega)) _ _
  · have b1 : (kd == 1) = false := int_nbeq e1k
    have HR1 := Lib.hid (HV.out.trans (if_neg e1k))
    clear HV e1k
    by_cases e2k : kd = 2
    · have b2 : (kd == 2) = true := by rw [e2k]; rfl
      have HR := Lib.hid (HR1.out.trans (if_pos e2k))
      clear HR1
      have hr2 := Lib.hid (hr1.out.trans (textOut_rest hr1.out.2 e1))
      clear e2k
      go_wp2_with fail
      refine (rText H2.out hl1).mono ?_
      rintro x w2 ⟨bt, at_, ct, rfl, ho, h2, k2⟩
      generalize Pk.textOut r1 e1 = o2 at *
      obtain ⟨x2, r2, e2⟩ := o2
      dsimp only at h2 hr2 ho
      have kc := run_lb w2 bt at_ ct _ x2 rfl ho
      have HZ3 := Lib.hid (keptO k2 HZ2.out (by omega))
      have HN3 := Lib.hid (keptO k2 HN.out (by omega))
      have HK3 := Lib.hid (HK2.out.trans k2)
      have H3 := Lib.hid h2
      have hs2 : w1.heap.size < w2.heap.size := lt_of_heap HN3.out
      obtain ⟨n0, n1, n2, f0, f1, f2⟩ := cells3 HN3.out
      obtain ⟨z0, z1, z2, g0, g1, g2⟩ := cells3 HZ3.out
      clear h2 k2 ho
      have hne : w1.heap.size ≠ wr.heap.size := by omega
      go_wp2_with fail
      (try simp only [Exit.inBlock, Exit.then])
      refine bodyPost_ret (v := (V.mk kd 0 (lb x2)).val) ?_ rfl ⟨by rw [HR.out], ?_, ?_⟩
      · rw [results_cell_one rfl]
        go_simp
      · rw [HR.out]
        have hx : ∀ {b : Nat}, wr.heap.size ≤ b → r2 ≠ [] → b ≠ bs := fun hb hl e => by
          have := hb2.out (hr2.out.ne hl); omega
        exact RAt.seto (RAt.seto (RAt.seto (RAt.seto H3.out (by omega) (hx (by omega)) _ _) (by omega) (hx (by omega)) _ _) (by omega) (hx (by omega)) _ _) (by omega) (hx (by omega)) _ _
      · exact (((HK3.out.setAt (.inr (by omega)) _ _).setAt (.inr (by omega)) _ _).setAt (.inr (by omega)) _ _).setAt (.inr (by omega)) _ _
    · have b2 : (kd == 2) = false := int_nbeq e2k
      have HR := Lib.hid (HR1.out.trans (if_neg e2k))
      clear HR1
      clear e2k
      obtain ⟨z0, z1, z2, g0, g1, g2⟩ := cells3 HZ1.out
      have hne : w1.heap.size ≠ wr.heap.size := by omega
      have hne2 : wr.heap.size ≠ w1.heap.size := by omega
      go_wp2_with fail
      (try simp only [Exit.inBlock, Exit.then])
      refine bodyPost_ret (v := (V.mk kd 0 ⟨#[]⟩).val) ?_ rfl ⟨by rw [HR.out], ?_, ?_⟩
      · rw [results_cell_one rfl]
        go_simp
      · rw [HR.out]
        have hx : ∀ {b : Nat}, wr.heap.size ≤ b → r1 ≠ [] → b ≠ bs := fun hb hl e => by
          have := hb2.out (hr1.out.ne hl); omega
        exact RAt.allo (RAt.seto (RAt.seto (RAt.seto H1.out (by omega) (hx (by omega)) _ _) (by omega) (hx (by omega)) _ _) (by omega) (hx (by omega)) _ _) _
      · exact (((HK1.out.setAt (.inr (by omega)) _ _).setAt (.inr (by omega)) _ _).setAt (.inr (by omega)) _ _).alloc _
end Go.Proofs.YtbheofibdogabaaGreat.Ss
end
section
/- The search of a key: strings.Compare, slices.BinarySearchFunc over pairs. -/
namespace Go.Proofs.YtbheofibdogabaaGreat.Kv
open Go Go.RowKit Vl Nm Mem
attribute [local go_sem] run_bits run_frombits run_store_float

/-- -1, 0, 1 -/
def cmp (s t : ByteArray) : Int := Lib.compareBytes s.data.toList t.data.toList
theorem compare_told (s t : List UInt8) : (Lib.compareBytes s t < 0 ↔ s < t) ∧ (Lib.compareBytes s t = 0 ↔ s = t) := by
  induction s generalizing t with
  | nil =>
    cases t with
    | nil => exact ⟨⟨fun h => by simp [Lib.compareBytes] at h, fun h => by cases h⟩, by simp [Lib.compareBytes]⟩
    | cons b t => exact ⟨by simp [Lib.compareBytes], by simp [Lib.compareBytes]⟩
  | cons a s ih =>
    cases t with
    | nil => exact ⟨⟨fun h => by simp [Lib.compareBytes] at h, fun h => by cases h⟩, by simp [Lib.compareBytes]⟩
    | cons b t =>
      rw [List.cons_lt_cons_iff]
      unfold Lib.compareBytes
      by_cases h : a < b
      · rw [if_pos h]
        exact ⟨by simp [h], by simp; intro e; subst e; exact absurd h (UInt8.lt_irrefl a)⟩
      · rw [if_neg h]
        by_cases h2 : b < a
        · rw [if_pos h2]
          exact ⟨by simp [h]; intro e; subst e; exact absurd h2 (UInt8.lt_irrefl a), by simp; intro e; subst e; exact absurd h2 (UInt8.lt_irrefl a)⟩
        · rw [if_neg h2]
          have e : a = b := UInt8.le_antisymm (UInt8.not_lt.1 h2) (UInt8.not_lt.1 h)
          subst e
          exact ⟨by simp [h, (ih t).1], by simp [(ih t).2]⟩
theorem cmp_lt (s t : ByteArray) : cmp s t < 0 ↔ klt s t := (compare_told _ _).1
theorem cmp_eq (s t : ByteArray) : cmp s t = 0 ↔ s = t := (compare_told _ _).2.trans key_eq.symm
theorem run_cmpstring (s t : ByteArray) (w : World) : (callFunc 125 #[.string s, .string t]).run Tryz.prog w = .ok (.value (.int .i64 (cmp s t))) w := by
  rw [run_callFunc_extern (fn := Tryz.f125) (e := Extern.BytealgCompare.compare) Tryz.func125 (by kernel_rfl) (by kernel_rfl) (by kernel_rfl) (by kernel_rfl)]
  rw [Lib.run_compareString]
  rfl
set_option maxHeartbeats 400000 in
set_option maxRecDepth 100000 in
theorem Compare_any (s t : ByteArray) (w : World) :
    Calls Tryz.prog 108 #[.string s, .string t] w fun e w' => e = .returned (.int .i64 (cmp s t)) ∧ w = w' := by
  have HC : ∀ w, (callFunc 125 #[.string s, .string t]).run Tryz.prog w = .ok (.value (.int .i64 (cmp s t))) w := run_cmpstring s t
  go_enter Tryz.func108, Tryz.ntmps108
  go_wp2
  go_ret
  exact ⟨rfl, rfl⟩
set_option maxHeartbeats 400000 in
set_option maxRecDepth 100000 in
theorem with1_any (p : Pr) (key : ByteArray) (w : World) :
    Calls Tryz.prog 107 #[p.agg, .string key] w fun e w' => e = .returned (.int .i64 (cmp p.key key)) ∧ Below w.heap.size w w' := by
  obtain ⟨ley, ⟨vk, vn, vs⟩⟩ := p
  go_enter Tryz.func107, Tryz.ntmps107
  go_wp2_with (first | (go_at_call 108; refine (Compare_any _ _ _).mono ?_; rintro e w' ⟨rfl, rfl⟩))
  go_ret
  exact ⟨rfl, below_alloc _ _⟩
/-- where a key stands, or would stand -/
structure Stands (L : List Pr) (key : ByteArray) (n : Nat) (f : Bool) : Prop where
  le : n ≤ L.length
  lt : ∀ q, q < n → klt (L.getD q Pr.zero).key key
  ge : ∀ q, n ≤ q → q < L.length → ¬ klt (L.getD q Pr.zero).key key
  found : f = true ↔ n < L.length ∧ (L.getD n Pr.zero).key = key
set_option maxHeartbeats 1600000 in
set_option maxRecDepth 100000 in
theorem search_any (a : Option Addr) (cap : Nat) (L : List Pr) (key : ByteArray) (w : World) (h : PairsAt w a cap L) (hs : L.Pairwise (fun p q => klt p.key q.key)) (hl : L.length ≤ 100000) :
    Calls Tryz.prog 106 #[.slice a L.length cap, .string key, .func (.func 107) #[] #[]] w fun e w' => ∃ (n : Nat) (f : Bool), e = .returned (.tuple #[.int .i64 (n : Int), .bool f]) ∧ Stands L key n f ∧ Below w.heap.size w w' := by
  have HI := Lib.hid h
  have HS : Hid (∀ i j, i < j → j < L.length → klt (L.getD i Pr.zero).key (L.getD j Pr.zero).key) := fun i j h1 h2 => by
    have := List.pairwise_iff_getElem.1 hs i j (by omega) h2 h1
    rw [getD_lt h2, getD_lt (by omega)]; exact this
  clear h hs
  go_enter Tryz.func106, Tryz.ntmps106
  go_wp2
  go_loopw [9, 10, 11] (fun i j _ wr => ∃ lo hi : Nat, lo ≤ hi ∧ hi ≤ L.length ∧ i = .int .i64 lo ∧ j = .int .i64 hi ∧ Hid (∀ q, q < lo → klt (L.getD q Pr.zero).key key) ∧ Hid (∀ q, hi ≤ q → q < L.length → ¬ klt (L.getD q Pr.zero).key key) ∧ Hid (Beh w wr)) (fun i j _ _ => (intOf j).toNat - (intOf i).toNat)
  case atStart => exact ⟨0, L.length, by omega, by omega, rfl, rfl, fun q hq => by omega, fun q h1 h2 => by omega, Beh.start _⟩
  case round =>
    obtain ⟨lo, hi, hle, hhi, rfl, rfl, HL, HH, HB⟩ := hrel
    by_cases hlt : lo < hi
    · have hm3 : (lo + hi) / 2 < L.length := by omega
      obtain ⟨b, off, rfl, hc⟩ := (HI.out.below HB.out.below).at_ (by omega)
      obtain ⟨h1, h2, h3, h4⟩ := hc ((lo + hi) / 2) hm3
      clear hc
      have HS1 : Hid (klt (L.getD ((lo + hi) / 2) Pr.zero).key key → ∀ q, q < (lo + hi) / 2 + 1 → klt (L.getD q Pr.zero).key key) := fun hk q hq => by
        rcases Nat.lt_or_ge q ((lo + hi) / 2) with h | h
        · exact klt_trans (HS.out q _ h hm3) hk
        · obtain rfl : q = (lo + hi) / 2 := by omega
          exact hk
      have HS2 : Hid (¬ klt (L.getD ((lo + hi) / 2) Pr.zero).key key → ∀ q, (lo + hi) / 2 ≤ q → q < L.length → ¬ klt (L.getD q Pr.zero).key key) := fun hk q hq hq2 h => by
        rcases Nat.lt_or_ge ((lo + hi) / 2) q with h5 | h5
        · exact hk (klt_trans (HS.out _ q h5 hq2) h)
        · obtain rfl : q = (lo + hi) / 2 := by omega
          exact hk h
      generalize L.getD ((lo + hi) / 2) Pr.zero = p at *
      obtain ⟨ley, ⟨vk, vn, vs⟩⟩ := p
      have HC := Lib.hid (cmp_lt ley key)
      by_cases hcmp : cmp ley key < 0
      · have d1 : decide (cmp ley key < 0) = true := decide_eq_true hcmp
        have hcmp2 := Lib.hid hcmp
        go_wp2_with (first | (go_at_call 107; refine (with1_any ⟨_, ⟨_, _, _⟩⟩ _ _).mono ?_; rintro e w' ⟨rfl, hb⟩; (have HB := Lib.hid (HB.out.on hb)); clear hb))
        go_roundw
        case rel => exact ⟨(lo + hi) / 2 + 1, hi, by omega, by omega, by go_num, rfl, HS1.out (HC.out.1 hcmp2.out), HH.out, HB.out⟩
        case measure => simp [intOf]; omega
      · have d1 : decide (cmp ley key < 0) = false := decide_eq_false hcmp
        have hcmp2 := Lib.hid hcmp
        go_wp2_with (first | (go_at_call 107; refine (with1_any ⟨_, ⟨_, _, _⟩⟩ _ _).mono ?_; rintro e w' ⟨rfl, hb⟩; (have HB := Lib.hid (HB.out.on hb)); clear hb))
        go_roundw
        case rel => exact ⟨lo, (lo + hi) / 2, by omega, by omega, rfl, by go_num, HL.out, HS2.out (fun h => by have h1 := HC.out.2 h; have h2 := hcmp2.out; omega), HB.out⟩
        case measure => simp [intOf]; omega
    · obtain rfl : lo = hi := by omega
      by_cases hend : lo < L.length
      · obtain ⟨b, off, rfl, hc⟩ := (HI.out.below HB.out.below).at_ (by omega)
        obtain ⟨h1, h2, h3, h4⟩ := hc lo hend
        clear hc
        have HST : Hid (∀ f, (f = true ↔ (L.getD lo Pr.zero).key = key) → Stands L key lo f) := fun f hf => ⟨hhi, HL.out, HH.out, by rw [hf]; exact ⟨fun h => ⟨hend, h⟩, fun h => h.2⟩⟩
        generalize L.getD lo Pr.zero = p at *
        obtain ⟨ley, ⟨vk, vn, vs⟩⟩ := p
        have HC := Lib.hid (cmp_eq ley key)
        go_wp2_with (first | (go_at_call 107; refine (with1_any ⟨_, ⟨_, _, _⟩⟩ _ _).mono ?_; rintro e w' ⟨rfl, hb⟩; (have HB := Lib.hid (HB.out.on hb)); clear hb))
        go_ret2
        exact ⟨lo, (cmp ley key == 0), rfl, HST.out _ (by rw [← HC.out, beq_iff_eq]), HB.out.below⟩
      · have HST : Hid (Stands L key lo false) := ⟨hhi, HL.out, HH.out, by simp [hend]⟩
        have d1 : decide ((lo : Int) < (L.length : Int)) = false := decide_eq_false (by omega)
        go_wp2_with fail
        go_ret2
        exact ⟨lo, _, rfl, HST.out, HB.out.below⟩
end Go.Proofs.YtbheofibdogabaaGreat.Kv
end
section
/- The keeper's Reply, TwinPairs; slices.Clone. -/
namespace Go.Proofs.YtbheofibdogabaaGreat.Kv
open Go Go.RowKit Vl Nm Mem
attribute [local go_sem] run_bits run_frombits run_store_float

def sameR (c d : Int) (u v : V) : Bool := (c == d) && u.same v
set_option maxHeartbeats 800000 in
theorem keepReply_any (c d : Int) (u v : V) (w : World) :
    Calls Tryz.prog 38 #[rep c u, rep d v] w fun e w' => e = .returned (.bool (sameR c d u v)) ∧ Below w.heap.size w w' := by
  have HC := Lib.hid (show sameR c d u v = ((c == d) && u.same v) from rfl)
  have HA := Lib.hid (old_alloc (repObj d v) (alloc_here (w := w) (repObj c u) rfl))
  have HA2 := Lib.hid (alloc_here (w := w.alloc (repObj c u)) (repObj d v) rfl)
  have HB := Lib.hid (below_alloc2 w (repObj c u) (repObj d v))
  obtain ⟨uk, un, us⟩ := u
  obtain ⟨vk, vn, vs⟩ := v
  unfold repObj at HA HA2 HB
  cases h : (c == d)
  · go_enter Tryz.func38, Tryz.ntmps38
    go_wp2_with fail
    go_ret
    exact ⟨ret_bool (by rw [HC.out, h]; rfl), HB.out⟩
  · go_enter Tryz.func38, Tryz.ntmps38
    go_wp2_with (first | (go_at_call 58; refine (keepValue_any ⟨_, _, _⟩ ⟨_, _, _⟩ _).mono ?_; rintro e w' ⟨rfl, hb⟩; (have HB := Lib.hid (blw HB.out hb)); clear hb))
    go_ret
    exact ⟨ret_bool (by rw [HC.out, h]; simp), HB.out⟩
/-- an own slice is laid anew -/
theorem Own_beh {w w' : World} {S : Nat → Prop} (h : Kept S w w') (hs : ∀ k, S k → w.heap.size ≤ k) : Beh w w' := h.below (Nat.le_refl _) hs
theorem own_beh {w w1 w' : World} {S : Nat → Prop} (h0 : Kept None w w1) (h : Kept S w1 w') (hs : ∀ k, S k → w.heap.size ≤ k) : Beh w w' :=
  (h0.below (Nat.le_refl _) (fun _ h => h.elim)).trans (h.below h0.size hs)
/-- pairs that a call has made: they are its own, and what there was is as it was -/
structure Made (w w' : World) (b : Nat) (a : Option Addr) (cap : Nat) (L : List Pr) : Prop where
  own : OwnP 61 w' b a cap L
  new : w.heap.size ≤ b
  beh : Beh w w'
theorem Made.pairs {w w' : World} {b : Nat} {a : Option Addr} {cap : Nat} {L : List Pr} (h : Made w w' b a cap L) : PairsAt w' a cap L := OwnP.pairs h.own
set_option maxHeartbeats 800000 in
set_option maxRecDepth 100000 in
theorem twin_any (a : Option Addr) (cap : Nat) (L : List Pr) (w : World) (h : PairsAt w a cap L) (hl : L.length ≤ 100000) :
    Calls Tryz.prog 94 #[.slice a L.length cap] w fun e w' => ∃ b' a' cap', e = .returned (.slice a' L.length cap') ∧ Made w w' b' a' cap' L := by
  have HI := Lib.hid h
  clear h
  go_enter Tryz.func94, Tryz.ntmps94
  go_wp2_with (at_builtin; refine wpList_append_cells rfl _ _ _ rfl 61 4 _ _ 48 Tryz.underlying22 rfl rfl rfl rfl rfl w.heap.size none 0 0 [] rfl (OwnC.nil _ _ _ _) a cap L.length (flat L) rfl HI.out.src flat_one (by omega) (by omega) ?_; intro b' a' cap' w' h2 h3 h4 h5)
  go_ret
  exact ⟨b', a', cap', rfl, by simpa using h2, by rcases h4 with ⟨h4, _⟩ | h4 <;> omega, Own_beh h3 (fun k hk => absurd rfl hk.1)⟩
set_option maxHeartbeats 800000 in
set_option maxRecDepth 100000 in
theorem clone_any (a : Option Addr) (cap : Nat) (L : List Pr) (w : World) (h : PairsAt w a cap L) (hl : L.length ≤ 100000) :
    Calls Tryz.prog 82 #[.slice a L.length cap] w fun e w' => ∃ b' a' cap', e = .returned (.slice a' L.length cap') ∧ Made w w' b' a' cap' L := by
  have HI := Lib.hid h
  have heq := fun w => run_eql_nil (P := Tryz.prog) w 22 61 a L.length cap Tryz.underlying22
  clear h
  cases a with
  | none =>
    obtain ⟨h1, h2⟩ := HI.out.bare
    subst h1 h2
    simp only [Option.isNone_none, List.length_nil] at heq
    go_enter Tryz.func82, Tryz.ntmps82
    go_wp2_with fail
    go_ret
    exact ⟨w.heap.size, none, 0, rfl, OwnC.nil _ _ _ _, Nat.le_refl _, Beh.start _⟩
  | some ad =>
    simp only [Option.isNone_some] at heq
    go_enter Tryz.func82, Tryz.ntmps82
    go_wp2_with (at_builtin; refine wpList_append_cells rfl _ _ _ rfl 61 4 _ _ 48 Tryz.underlying22 rfl rfl rfl rfl rfl w.heap.size (some ⟨w.heap.size, 0, none⟩) 0 0 [] rfl (own_newC (by simp) (Nat.le_refl _) (by decide) (by simp) (by simp)) (some ad) cap L.length (flat L) rfl (HI.out.alloc _).src flat_one (by omega) (by omega) ?_; intro b' a' cap' w' h2 h3 h4 h5)
    go_ret
    exact ⟨b', a', cap', rfl, by simpa using h2, (by rcases h4 with ⟨h4, _⟩ | h4 <;> first | omega | (rw [size_alloc] at h4; omega)), own_beh ((Kept.refl _ _).alloc _) h3 (fun k hk => Nat.le_of_eq hk.2.symm)⟩
theorem heap_setc {w : World} {b i : Nat} {cur : Array Value} {t : TypeId} {v : Value} (h : w.heap[b]? = some (.cells cur t (0, 0))) :
    (w.setCell ⟨b, i, none⟩ v).heap[b]? = some (.cells (cur.setIfInBounds i v) t (0, 0)) := by
  simp [World.setCell, Array.getElem?_modify, h]
end Go.Proofs.YtbheofibdogabaaGreat.Kv
end
