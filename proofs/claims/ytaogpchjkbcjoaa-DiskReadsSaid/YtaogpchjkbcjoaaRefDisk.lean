/- Walks of the reference's disk. -/
import Derived.Test.YtaogpchjkbcjoaaWakes4
import Derived.Lib.MinMax
import Derived.Deep.RegionLaw
import Derived.Deep.RegionWith
namespace Go.Proofs.Ytaogpchjkbcjoaa.Dk
open Go Go.RowKit Mem Kp
def rcells (st : St) (a : Option Addr) (c : Nat) : Array Value := #[.int .i64 st.room, .slice a st.file.length c, .int .i64 st.safe, .bool st.off, .int .i64 st.armed, .int .i64 st.keep]
structure RefAt (w : World) (r f : Nat) (a : Option Addr) (c : Nat) (st : St) : Prop where
  heap : w.heap[r]? = some (.cells (rcells st a c) 32 (0, 0))
  file : Src w f a c st.file
  ne : st.file ≠ [] → f ≠ r
theorem RefAt.kept {S : Nat → Prop} {w w' : World} {r f : Nat} {a : Option Addr} {c : Nat} {st : St} (h : RefAt w r f a c st) (hk : Kept S w w') (hr : ¬ S r) (hf : st.file ≠ [] → ¬ S f) : RefAt w' r f a c st := ⟨hk.heap h.heap hr, h.file.kept hk hf, h.ne⟩
/-- what a call leaves of the reference's disk -/
def RLeft (r f : Nat) (l : List Nat) (w : World) (st : St) (w' : World) : Prop := ∃ f' a' c', RefAt w' r f' a' c' st ∧ Kept (Only r) w w' ∧ (st.file ≠ [] → (f' = f ∧ l ≠ []) ∨ w.heap.size ≤ f')
theorem RefAt.cells {w : World} {r f : Nat} {a : Option Addr} {c : Nat} {st : St} (h : RefAt w r f a c st) :
    (w.cell? ⟨r, 0, none⟩ = some (.int .i64 st.room) ∧ w.cell? ⟨r, 1, none⟩ = some (.slice a st.file.length c) ∧ w.cell? ⟨r, 2, none⟩ = some (.int .i64 st.safe) ∧ w.cell? ⟨r, 3, none⟩ = some (.bool st.off) ∧ w.cell? ⟨r, 4, none⟩ = some (.int .i64 st.armed) ∧ w.cell? ⟨r, 5, none⟩ = some (.int .i64 st.keep)) ∧ ∀ i, w.frozen? ⟨r, i, none⟩ = false :=
  ⟨⟨cell_heap h.heap 0, cell_heap h.heap 1, cell_heap h.heap 2, cell_heap h.heap 3, cell_heap h.heap 4, cell_heap h.heap 5⟩, fun i => frozen_heap h.heap i⟩
/-- a cell is stored -/
theorem RefAt.put {w : World} {r f : Nat} {a : Option Addr} {c : Nat} {st : St} (h : RefAt w r f a c st) (i : Nat) (v : Value) (st' : St) (hc : (rcells st a c).setIfInBounds i v = rcells st' a c) (hf : st'.file = st.file) : RefAt (w.setCell ⟨r, i, none⟩ v) r f a c st' ∧ Kept (Only r) w (w.setCell ⟨r, i, none⟩ v) := by
  have k : Kept (Only r) w (w.setCell ⟨r, i, none⟩ v) := (Kept.refl _ _).setAt (.inl (show Only r r from rfl)) _ _
  refine ⟨⟨by rw [← hc]; exact heap_set h.heap i v, by rw [hf]; exact h.file.kept k (fun hn e => h.ne hn e), by rw [hf]; exact h.ne⟩, k⟩
set_option maxHeartbeats 1000000 in
theorem rlast_any (w : World) (r f : Nat) (a : Option Addr) (c : Nat) (st : St) (h : RefAt w r f a c st) (hm : st.armed ≤ 9223372036854775807) :
    Calls Try.prog 37 #[.pointer (some ⟨r, 0, none⟩)] w fun x w' => x = .returned (.bool (decide (st.armed = 1))) ∧ RefAt w' r f a c st.less ∧ Kept (Only r) w w' := by
  obtain ⟨⟨_, _, _, _, c4, _⟩, hf⟩ := h.cells
  have f4 := hf 4
  have HR := Lib.hid h
  clear h hf
  by_cases h0 : st.armed = 0
  · have d1 : decide ((st.armed : Int) < 1) = true := decide_eq_true (by omega)
    have HE : Hid (st.less = st) := by show _ = _; unfold St.less; rw [h0]; rw [show 0 - 1 = st.armed by omega]
    have HD : Hid (decide (st.armed = 1) = false) := decide_eq_false (by omega)
    clear h0
    go_enter Try.func37, Try.ntmps37
    go_wp2
    go_ret
    exact ⟨ret_bool HD.out.symm, by rw [HE.out]; exact HR.out, Kept.refl _ _⟩
  · have d1 : decide ((st.armed : Int) < 1) = false := decide_eq_false (by omega)
    have hp := Lib.hid (HR.out.put 4 (.int .i64 ((st.armed : Int) - 1)) st.less (by
      have e : ((st.armed - 1 : Nat) : Int) = (st.armed : Int) - 1 := by omega
      show _ = (#[_, _, _, _, Value.int .i64 ((st.armed - 1 : Nat) : Int), _] : Array Value)
      rw [e]; rfl) rfl)
    have HD : Hid (((st.armed : Int) - 1 == 0) = decide (st.armed = 1)) := by
      show _ = _
      by_cases h1 : st.armed = 1
      · rw [h1]; rfl
      · rw [decide_eq_false h1]; exact beq_eq_false_iff_ne.2 (by omega)
    generalize st.armed = ar at *
    go_enter Try.func37, Try.ntmps37
    go_wp2
    go_ret
    exact ⟨ret_bool HD.out, hp.out.1, hp.out.2⟩
theorem RefAt.armed {w : World} {r f : Nat} {a : Option Addr} {c : Nat} {st : St} (h : RefAt w r f a c st) (n : Nat) : RefAt (w.setCell ⟨r, 4, none⟩ (.int .i64 n)) r f a c ⟨st.room, st.file, st.safe, st.off, n, st.keep⟩ ∧ Kept (Only r) w (w.setCell ⟨r, 4, none⟩ (.int .i64 n)) := h.put 4 _ _ rfl rfl
theorem RefAt.offs {w : World} {r f : Nat} {a : Option Addr} {c : Nat} {st : St} (h : RefAt w r f a c st) (b : Bool) : RefAt (w.setCell ⟨r, 3, none⟩ (.bool b)) r f a c ⟨st.room, st.file, st.safe, b, st.armed, st.keep⟩ ∧ Kept (Only r) w (w.setCell ⟨r, 3, none⟩ (.bool b)) := h.put 3 _ _ rfl rfl
theorem RefAt.safes {w : World} {r f : Nat} {a : Option Addr} {c : Nat} {st : St} (h : RefAt w r f a c st) (n : Nat) : RefAt (w.setCell ⟨r, 2, none⟩ (.int .i64 n)) r f a c ⟨st.room, st.file, n, st.off, st.armed, st.keep⟩ ∧ Kept (Only r) w (w.setCell ⟨r, 2, none⟩ (.int .i64 n)) := h.put 2 _ _ rfl rfl
theorem RefAt.keeps {w : World} {r f : Nat} {a : Option Addr} {c : Nat} {st : St} (h : RefAt w r f a c st) (k : Int) : RefAt (w.setCell ⟨r, 5, none⟩ (.int .i64 k)) r f a c ⟨st.room, st.file, st.safe, st.off, st.armed, k⟩ ∧ Kept (Only r) w (w.setCell ⟨r, 5, none⟩ (.int .i64 k)) := h.put 5 _ _ rfl rfl
/-- another file -/
theorem RefAt.files {w : World} {r f : Nat} {a : Option Addr} {c : Nat} {st : St} (h : RefAt w r f a c st) {f' : Nat} {a' : Option Addr} {c' : Nat} {l : List Nat} {n : Nat} (hs : Src w f' a' c' l) (hl : l.length = n) (hne : l ≠ [] → f' ≠ r) :
    RefAt (w.setCell ⟨r, 1, none⟩ (.slice a' n c')) r f' a' c' ⟨st.room, l, st.safe, st.off, st.armed, st.keep⟩ ∧ Kept (Only r) w (w.setCell ⟨r, 1, none⟩ (.slice a' n c')) := by
  subst hl
  have k : Kept (Only r) w (w.setCell ⟨r, 1, none⟩ (.slice a' l.length c')) := (Kept.refl _ _).setAt (.inl (show Only r r from rfl)) _ _
  exact ⟨⟨heap_set h.heap 1 _, hs.kept k (fun hn e => hne hn e), hne⟩, k⟩
theorem RefAt.same {w w' : World} {r f : Nat} {a : Option Addr} {c : Nat} {st : St} (h : RefAt w r f a c st) (hk : Kept None w w') : RefAt w' r f a c st := h.kept hk (fun h => h) (fun _ h => h)
set_option maxHeartbeats 2000000 in
theorem rstart_any (w : World) (r f : Nat) (a : Option Addr) (c : Nat) (st : St) (h : RefAt w r f a c st) :
    Calls Try.prog 30 #[.pointer (some ⟨r, 0, none⟩)] w fun x w' => x = .returned (.tuple #[]) ∧ RLeft r f st.file w st.start w' := by
  obtain ⟨⟨_, _, _, c3, _, _⟩, hf⟩ := h.cells
  have f3 := hf 3
  have hp := Lib.hid (h.offs false)
  clear h hf
  go_enter Try.func30, Try.ntmps30
  go_wp2
  go_end0
  exact ⟨rfl, f, a, c, hp.out.1, hp.out.2, fun hn => .inl ⟨rfl, hn⟩⟩
set_option maxHeartbeats 2000000 in
set_option maxRecDepth 100000 in
theorem rtrip_any (w : World) (r f : Nat) (a : Option Addr) (c : Nat) (st : St) (h : RefAt w r f a c st) (n k : Int) :
    Calls Try.prog 28 #[.pointer (some ⟨r, 0, none⟩), .int .i64 n, .int .i64 k] w fun x w' => x = .returned (.tuple #[]) ∧ RLeft r f st.file w (st.trip n k) w' := by
  obtain ⟨⟨_, _, _, c3, c4, c5⟩, hf⟩ := h.cells
  have f4 := hf 4
  have f5 := hf 5
  have HR := Lib.hid h
  obtain ⟨nn, hnn⟩ : ∃ nn : Nat, nn = n.toNat := ⟨_, rfl⟩
  have hmx : max n 0 = (nn : Int) := by rw [hnn]; omega
  have HNN := Lib.hid hnn
  have h1 := h.armed nn
  have hp := Lib.hid (h1.1.keeps k)
  have hk1 := Lib.hid h1.2
  clear h hf h1 hnn
  cases hoff : st.off with
  | true =>
    rw [hoff] at c3
    have HE : Hid (st.trip n k = st) := by show _ = _; unfold St.trip; rw [if_pos hoff]
    clear hoff
    go_enter Try.func28, Try.ntmps28
    go_wp2
    go_end0
    exact ⟨rfl, f, a, c, by rw [HE.out]; exact HR.out, Kept.refl _ _, by rw [HE.out]; exact fun hn => .inl ⟨rfl, hn⟩⟩
  | false =>
    rw [hoff] at c3
    have HE : Hid (st.trip n k = ⟨st.room, st.file, st.safe, st.off, nn, k⟩) := by show _ = _; unfold St.trip; rw [if_neg (by rw [hoff]; decide), HNN.out]
    clear hoff
    go_enter Try.func28, Try.ntmps28
    go_wp2
    go_end0
    exact ⟨rfl, f, a, c, by rw [HE.out]; exact hp.out.1, hk1.out.trans hp.out.2, by rw [HE.out]; exact fun hn => .inl ⟨rfl, hn⟩⟩
set_option maxHeartbeats 4000000 in
set_option maxRecDepth 100000 in
theorem rcrash_any (w : World) (r f : Nat) (a : Option Addr) (c : Nat) (st : St) (h : RefAt w r f a c st) (ok : st.Ok) (k : Int) :
    Calls Try.prog 29 #[.pointer (some ⟨r, 0, none⟩), .int .i64 k] w fun x w' => x = .returned (.tuple #[]) ∧ RLeft r f st.file w (st.crash k) w' := by
  obtain ⟨⟨_, c1, c2, c3, c4, _⟩, hf⟩ := h.cells
  have f1 := hf 1
  have f2 := hf 2
  have f3 := hf 3
  have f4 := hf 4
  have HR := Lib.hid h
  have h1 := h.armed 0
  clear hf
  cases hoff : st.off with
  | true =>
    have HE : Hid (st.crash k = st) := by show _ = _; unfold St.crash; rw [if_pos hoff]
    have hst : (⟨st.room, st.file, st.safe, st.off, 0, st.keep⟩ : St) = st := by
      have := (ok.still hoff).1
      obtain ⟨q1, q2, q3, q4, q5, q6⟩ := st
      simp only at this ⊢
      rw [this]
    rw [hst] at h1
    have hp := Lib.hid h1
    rw [hoff] at c3
    clear hoff h h1 hst ok
    go_enter Try.func29, Try.ntmps29
    go_wp2
    refine bodyPost_ret (results_none rfl _ _ _) rfl ?_
    exact ⟨rfl, f, a, c, by rw [HE.out]; exact hp.out.1, hp.out.2, by rw [HE.out]; exact fun hn => .inl ⟨rfl, hn⟩⟩
  | false =>
    have HE : Hid (st.crash k = st.gone k) := by show _ = _; unfold St.crash; rw [if_neg (by rw [hoff]; decide)]
    have hl := St.left_le ok.safe k
    have hfl : st.file.length ≤ 65536 := by have := ok.fits; have := ok.room; omega
    have hn : (st.safe : Int) + min (max k 0) ((st.file.length : Int) - (st.safe : Int)) = ((st.left k : Nat) : Int) := by
      have := ok.safe
      unfold St.left
      omega
    have hcap : st.left k ≤ c := (by
      rcases h.file with h2 | h2
      · have := h2.1; omega
      · rw [h2.1] at hl; simp at hl; omega)
    have h2 := h1.1.offs true
    have hsrc : Src ((w.setCell ⟨r, 4, none⟩ (.int .i64 (0 : Nat))).setCell ⟨r, 3, none⟩ (.bool true)) f a c (st.file.take (st.left k)) := by
      rcases h2.1.file with h5 | h5
      · exact .inl (fits_left h5 hl.2)
      · have e : st.file = [] := h5.1
        exact .inr ⟨by rw [e]; simp, h5.2⟩
    have HH2 := Lib.hid h2.1
    have HSRC := Lib.hid hsrc
    have hk2 := Lib.hid (h1.2.trans h2.2)
    have hll : (st.file.take (st.left k)).length = st.left k := by rw [List.length_take]; omega
    have HLL := Lib.hid hll
    have HNE : Hid (st.file.take (st.left k) ≠ [] → f ≠ r) := fun hne => h.ne (fun e => hne (by rw [e]; simp))
    rw [hoff] at c3
    obtain ⟨m, hm⟩ : ∃ m, m = st.left k := ⟨_, rfl⟩
    rw [← hm] at hn hcap hl HSRC HLL HNE
    have HG : Hid (st.gone k = ⟨st.room, st.file.take m, m, true, 0, st.keep⟩) := by show _ = _; unfold St.gone; rw [hm]
    have hmc : (m : Int) ≤ (c : Int) := by omega
    obtain ⟨W2, hW2⟩ : ∃ W, W = (w.setCell ⟨r, 4, none⟩ (.int .i64 0)).setCell ⟨r, 3, none⟩ (.bool true) := ⟨_, rfl⟩
    have HR2 : Hid (RefAt W2 r f a c ⟨st.room, st.file, st.safe, true, 0, st.keep⟩) := by rw [hW2]; exact h2.1
    have HK2 : Hid (Kept (Only r) w W2) := by rw [hW2]; exact h1.2.trans h2.2
    have HS2 : Hid (Src W2 f a c (st.file.take m)) := by rw [hW2]; exact HSRC.out
    obtain ⟨⟨_, g1, g2, _⟩, _⟩ := HR2.out.cells
    simp only at g1 g2
    clear hoff h h1 h2 ok hsrc hll hm HH2 HSRC hk2 HR
    go_enter Try.func29, Try.ntmps29
    go_wp2
    rw [← hW2]
    clear hW2 c1 c2 c3 c4 f1 f2 f3 f4
    go_quiet (fail)
    obtain ⟨W3, hW3⟩ : ∃ W, W = W2.drewN nq := ⟨_, rfl⟩
    rw [← hW3]
    have k23 : Kept None W2 W3 := by rw [hW3]; exact (Kept.refl _ _).drewN nq
    have HR3 := Lib.hid (HR2.out.same k23)
    have HS3 : Hid (Src W3 f a c (st.file.take m)) := HS2.out.kept k23 (fun _ h => h)
    have HK3 := Lib.hid (HK2.out.trans (Kept.ofNone k23))
    obtain ⟨⟨_, e1, e2, _⟩, ef⟩ := HR3.out.cells
    simp only at e1 e2
    have ef1 := ef 1
    have ef2 := ef 2
    have h4 := HR3.out.files HS3.out HLL.out HNE.out
    have h5 := h4.1.safes m
    have H5 := Lib.hid h5.1
    have HK5 := Lib.hid ((HK3.out.trans h4.2).trans h5.2)
    clear hW3 k23 ef g1 g2 h4 h5
    go_wp2
    go_end0
    exact ⟨rfl, f, a, c, by rw [HE.out, HG.out]; exact H5.out, HK5.out, by rw [HE.out, HG.out]; exact fun hn => .inl ⟨rfl, fun e => hn (by show st.file.take m = []; rw [e]; simp)⟩⟩
/-- bytes behind bytes, in memory of the call's own -/
def AddPost (l m : List Nat) (w : World) (x : Ending) (w' : World) : Prop := ∃ b a c, x = .returned (.slice a (l.length + m.length) c) ∧ OwnB 5 w' b a c (l ++ m) ∧ w.heap.size ≤ b ∧ Kept None w w'
set_option maxHeartbeats 2000000 in
theorem radd_any (b : Nat) (a : Option Addr) (c : Nat) (l : List Nat) (b2 : Nat) (a2 : Option Addr) (c2 : Nat) (m : List Nat) (w : World) (h : Src w b a c l) (h2 : Src w b2 a2 c2 m) (hl : l.length ≤ 35184372088832) (hm : m.length ≤ 35184372088832) :
    Calls Try.prog 38 #[.slice a l.length c, .slice a2 m.length c2] w (AddPost l m w) := by
  obtain ⟨i0, hi, hz0, hz1, hz2⟩ := info_parts infoU8
  have HS := Lib.hid h
  have HS2 := Lib.hid h2
  have own0 : OwnB 5 w w.heap.size none 0 [] := OwnB.nil _ _ _
  clear h h2
  go_enter Try.func38, Try.ntmps38
  go_wp2_with (at_builtin; refine wpList_append_bytes rfl _ _ 30 rfl 5 i0 Try.underlying30 hi hz0 hz1 hz2 w.heap.size none 0 [] 0 rfl own0 rfl b a c l _ rfl HS.out rfl (by omega) ?_)
  intro b3 a3 c3 w3 h2 h3 h4 h5
  try simp only [List.nil_append] at h2
  have k3 : Kept None w w3 := h3.mono (fun _ h => absurd rfl h.1)
  have hb3 : a3 ≠ none → w.heap.size ≤ b3 := fun hn => by
    rcases h4 with ⟨rfl, _⟩ | h4
    · exact Nat.le_refl _
    · exact h4
  have HO3 := Lib.hid h2
  have HK3 := Lib.hid k3
  have HB3 := Lib.hid hb3
  clear h2 h3 h4 h5 k3 hb3 own0
  go_wp2_with (at_builtin; refine wpList_append_bytes rfl _ _ 30 rfl 5 i0 Try.underlying30 hi hz0 hz1 hz2 b3 a3 c3 l _ rfl HO3.out rfl b2 a2 c2 m _ rfl (HS2.out.kept HK3.out (fun _ h => h)) rfl (by omega) ?_)
  intro b4 a4 c4 w4 h2 h3 h4 h5
  have k4 : Kept None w w4 := HK3.out.trans' h3 (fun x hx => .inr (by rw [hx.2]; exact HB3.out hx.1))
  have hs3 := HK3.out.size
  by_cases hn : a4 = none
  · subst hn
    have HO4 := Lib.hid (h2.move w.heap.size)
    have HK4 := Lib.hid k4
    clear h2 h3 h4 h5 k4
    go_wp2
    go_ret
    exact ⟨w.heap.size, none, c4, by first | rfl | simp, HO4.out, Nat.le_refl _, HK4.out⟩
  · have hb4 : w.heap.size ≤ b4 := by
      rcases h4 with ⟨rfl, h4⟩ | h4
      · exact HB3.out (h4.resolve_left hn)
      · omega
    have HO4 := Lib.hid h2
    have HK4 := Lib.hid k4
    clear h2 h3 h4 h5 k4 hn
    go_wp2
    go_ret
    exact ⟨b4, a4, c4, by first | rfl | simp, HO4.out, hb4, HK4.out⟩
end Go.Proofs.Ytaogpchjkbcjoaa.Dk
