import Derived.Test.YtjdebdfbjcpjgaaMergeWr10
import Derived.Test.YtjdebdfbjcpjgaaMergeWr27
import Derived.Test.YtjdebdfbjcpjgaaMergeWr11
import Derived.Test.YtjdebdfbjcpjgaaMergeWr13
import Derived.Deep.Upon
section
/- The landed reader of package wire: number, mark, float, text, upTo. -/
namespace Go.Proofs.Ytjdebdfbjcpjgaa.Wr
open Go Go.RowKit Vl Kv Ss Cn Mem Lg Nm
attribute [local go_sem] Nm.run_bits Nm.run_frombits run_store_float
/-- a reader at rb: what is left is l -/
structure Rs (w : World) (rb br bs : Nat) (l : List Nat) : Prop where
  box : w.heap[rb]? = some (.cells #[.pointer (some ⟨br, 0, none⟩)] 125)
  rd : Pk.RAt w br bs l 0
  ne : rb ≠ br
  len : l.length ≤ 100000
  nes : l ≠ [] → bs ≠ rb
theorem Rs.b8 {w : World} {rb br bs : Nat} {l : List Nat} (h : Rs w rb br bs l) : B8 l := h.rd.len.1
theorem Rs.lt {w : World} {rb br bs : Nat} {l : List Nat} (h : Rs w rb br bs l) : rb < w.heap.size ∧ br < w.heap.size := ⟨lt_of_heap h.box, RAt.lt1 h.rd⟩
/-- other blocks are as they were -/
theorem Rs.kept {w w' : World} {rb br bs : Nat} {l : List Nat} (h : Rs w rb br bs l) {S : Nat → Prop} (hk : Kept S w w') (hS : ∀ k, S k → w.heap.size ≤ k) : Rs w' rb br bs l :=
  ⟨hk.heap h.box (fun e => by have := hS _ e; have := h.lt.1; omega), h.rd.kept hk (fun e => by have := hS _ e; have := h.lt.2; omega) (fun hl e => by have := hS _ e; have := RAt.lt2 h.rd hl; omega), h.ne, h.len, h.nes⟩
theorem Rs.on {w w' : World} {rb br bs : Nat} {l : List Nat} (h : Rs w rb br bs l) (hb : Beh w w') : Rs w' rb br bs l := h.kept (kept_beh hb) (fun _ h => h.elim)
theorem Rs.next {w w' : World} {rb br bs : Nat} {l r : List Nat} (h : Rs w rb br bs l) (hr : Pk.RAt w' br bs r 0) (hk : Kept (Only br) w w') (hl : r.length ≤ l.length) : Rs w' rb br bs r :=
  ⟨hk.heap h.box (fun e => h.ne e), hr, h.ne, Nat.le_trans hl h.len, fun hr => h.nes (fun e => hr (List.eq_nil_of_length_eq_zero (by rw [e] at hl; simpa using hl)))⟩
/-- what a read leaves: what is read, or it is thrown -/
def Rgot {α : Type} (rd : List Nat → Option (α × List Nat)) (val : α → Value) (rb br bs : Nat) (l : List Nat) (w : World) (x : Ending) (w' : World) : Prop :=
  Kept (Only br) w w' ∧ match rd l with
    | some (a, r) => x = .returned (val a) ∧ Rs w' rb br bs r
    | none => x = .panicked thr
variable {α β : Type} {w w' : World} {rb br bs : Nat} {l : List Nat}
theorem Rgot.yes {rd : List Nat → Option (α × List Nat)} {val : α → Value} {a : α} {r : List Nat} {x : Ending} (hd : rd l = some (a, r)) (hx : x = .returned (val a)) (hs : Rs w' rb br bs r) (hk : Kept (Only br) w w') : Rgot rd val rb br bs l w x w' := by
  unfold Rgot; rw [hd]; exact ⟨hk, hx, hs⟩
theorem Rgot.no {rd : List Nat → Option (α × List Nat)} {val : α → Value} (hd : rd l = none) (hk : Kept (Only br) w w') : Rgot rd val rb br bs l w (.panicked thr) w' := by
  unfold Rgot; rw [hd]; exact ⟨hk, rfl⟩
theorem Rgot.some {rd : List Nat → Option (α × List Nat)} {val : α → Value} {a : α} {r : List Nat} {x : Ending} (h : Rgot rd val rb br bs l w x w') (hd : rd l = some (a, r)) : x = .returned (val a) ∧ Rs w' rb br bs r ∧ Kept (Only br) w w' := by
  unfold Rgot at h; rw [hd] at h; exact ⟨h.2.1, h.2.2, h.1⟩
theorem Rgot.none {rd : List Nat → Option (α × List Nat)} {val : α → Value} {x : Ending} (h : Rgot rd val rb br bs l w x w') (hd : rd l = none) : x = .panicked thr ∧ Kept (Only br) w w' := by
  unfold Rgot at h; rw [hd] at h; exact ⟨h.2, h.1⟩
theorem rd_le (A : Cod α) {x : α} {r : List Nat} (h8 : B8 l) (h : A.rd l = some (x, r)) : r.length ≤ l.length := by
  have := (A.sound l h8 x r h).1
  rw [this, List.length_append]; omega
theorem rd_b8 (A : Cod α) {x : α} {r : List Nat} (h8 : B8 l) (h : A.rd l = some (x, r)) : B8 r := b8_right h8 (A.sound l h8 x r h).1

/-! ### chains of reads -/
section
variable {A : Cod α} {B : Cod β} {r q : List Nat} {a : α} {b : β}
theorem seq_no1 (h : A.rd l = none) : (A.seq B).rd l = none := by show (match A.rd l with | none => none | some (a, q) => match B.rd q with | none => none | some (b, r) => some ((a, b), r)) = _; rw [h]
theorem seq_no2 (h : A.rd l = some (a, q)) (h2 : B.rd q = none) : (A.seq B).rd l = none := by show (match A.rd l with | none => none | some (a, q) => match B.rd q with | none => none | some (b, r) => some ((a, b), r)) = _; rw [h]; simp only; rw [h2]
theorem seq_yes (h : A.rd l = some (a, q)) (h2 : B.rd q = some (b, r)) : (A.seq B).rd l = some ((a, b), r) := by show (match A.rd l with | none => none | some (a, q) => match B.rd q with | none => none | some (b, r) => some ((a, b), r)) = _; rw [h]; simp only; rw [h2]
theorem as_no {f : α → β} {g : β → α} {hf : ∀ b, f (g b) = b} {hg : ∀ a, g (f a) = a} (h : A.rd l = none) : (A.as f g hf hg).rd l = none := by show (match A.rd l with | none => none | some (a, r) => some (f a, r)) = _; rw [h]
theorem as_yes {f : α → β} {g : β → α} {hf : ∀ b, f (g b) = b} {hg : ∀ a, g (f a) = a} (h : A.rd l = some (a, r)) : (A.as f g hf hg).rd l = some (f a, r) := by show (match A.rd l with | none => none | some (a, r) => some (f a, r)) = _; rw [h]
theorem emb_no {f : α → β} {g : β → α} {hg : ∀ a, A.ok a → g (f a) = a} (h : A.rd l = none) : (A.emb f g hg).rd l = none := by show (match A.rd l with | none => none | some (a, r) => some (f a, r)) = _; rw [h]
theorem emb_yes {f : α → β} {g : β → α} {hg : ∀ a, A.ok a → g (f a) = a} (h : A.rd l = some (a, r)) : (A.emb f g hg).rd l = some (f a, r) := by show (match A.rd l with | none => none | some (a, r) => some (f a, r)) = _; rw [h]
theorem sel_no1 {B : α → Cod β} (h : A.rd l = none) : (A.sel B).rd l = none := by show (match A.rd l with | none => none | some (a, q) => match (B a).rd q with | none => none | some (b, r) => some ((a, b), r)) = _; rw [h]
theorem sel_no2 {B : α → Cod β} (h : A.rd l = some (a, q)) (h2 : (B a).rd q = none) : (A.sel B).rd l = none := by show (match A.rd l with | none => none | some (a, q) => match (B a).rd q with | none => none | some (b, r) => some ((a, b), r)) = _; rw [h]; simp only; rw [h2]
theorem sel_yes {B : α → Cod β} (h : A.rd l = some (a, q)) (h2 : (B a).rd q = some (b, r)) : (A.sel B).rd l = some ((a, b), r) := by show (match A.rd l with | none => none | some (a, q) => match (B a).rd q with | none => none | some (b, r) => some ((a, b), r)) = _; rw [h]; simp only; rw [h2]
end
theorem doneOf_ok (l : List Nat) (h : ¬ 0 < l.length) : Pk.doneOf l 0 = 0 := by unfold Pk.doneOf; simp [h]
set_option maxHeartbeats 800000 in
set_option maxRecDepth 100000 in
theorem good_yes (h : Rs w rb br bs l) : Calls Try.prog 107 #[.pointer (some ⟨rb, 0, none⟩)] w fun e w' => e = .returned (.tuple #[]) ∧ w = w' := by
  have c0 := Bh.cells1 h.box
  have HL := Lib.hid (Pk.Left_any br bs l 0 w h.rd)
  have HD := Lib.hid (Pk.Done_any br bs l 0 w h.rd)
  by_cases hl : 0 < l.length
  · have d1 : decide (0 < l.length) = true := decide_eq_true hl
    have d2 : decide ((0 : Int) < (l.length : Int)) = true := decide_eq_true (by omega)
    clear h
    go_enter Try.func107, Try.ntmps107
    go_wp2_with (first | (go_at_call 93; refine HL.out.mono ?_; rintro e w' ⟨rfl, rfl⟩) | (go_at_call 66; refine (must_ok _).mono ?_; rintro e w' ⟨rfl, rfl⟩))
    go_end0
    exact ⟨rfl, rfl⟩
  · have d1 : decide (0 < l.length) = false := decide_eq_false hl
    have d2 : decide ((0 : Int) < (l.length : Int)) = false := decide_eq_false (by omega)
    rw [doneOf_ok l hl] at HD
    clear h hl
    go_enter Try.func107, Try.ntmps107
    go_wp2_with (first | (go_at_call 93; refine HL.out.mono ?_; rintro e w' ⟨rfl, rfl⟩) | (go_at_call 78; refine HD.out.mono ?_; rintro e w' ⟨rfl, rfl⟩) | (go_at_call 66; refine (must_ok _).mono ?_; rintro e w' ⟨rfl, rfl⟩))
    go_end0
    exact ⟨rfl, rfl⟩
set_option maxHeartbeats 800000 in
set_option maxRecDepth 100000 in
theorem good_no {e0 : Int} (hb : w.heap[rb]? = some (.cells #[.pointer (some ⟨br, 0, none⟩)] 125)) (hr : Pk.RAt w br bs [] e0) (he : e0 ≠ 0) : Calls Try.prog 107 #[.pointer (some ⟨rb, 0, none⟩)] w fun e w' => e = .panicked thr ∧ w = w' := by
  have c0 := Bh.cells1 hb
  have HL := Lib.hid (Pk.Left_any br bs [] e0 w hr)
  have HD := Lib.hid (Pk.Done_any br bs [] e0 w hr)
  rw [show Pk.doneOf [] e0 = e0 by unfold Pk.doneOf; simp [he]] at HD
  have d2 := int_nbeq he
  clear hb hr he
  go_enter Try.func107, Try.ntmps107
  go_wp2_with (first | (go_at_call 93; refine HL.out.mono ?_; rintro e w' ⟨rfl, rfl⟩) | (go_at_call 78; refine HD.out.mono ?_; rintro e w' ⟨rfl, rfl⟩) | (go_at_call 66; refine (must_not _).mono ?_; rintro e w' ⟨rfl, rfl⟩))
  exact ⟨rfl, rfl, rfl⟩
end Go.Proofs.Ytjdebdfbjcpjgaa.Wr
end
section
/- The landed reader of package wire: number, mark, float, text, upTo. -/
namespace Go.Proofs.Ytjdebdfbjcpjgaa.Wr
open Go Go.RowKit Vl Kv Ss Cn Mem Lg Nm
attribute [local go_sem] Nm.run_bits Nm.run_frombits run_store_float
variable {α β : Type} {w w' : World} {rb br bs : Nat} {l : List Nat}
set_option maxHeartbeats 800000 in
set_option maxRecDepth 100000 in
theorem number_any (h : Rs w rb br bs l) : Calls Try.prog 79 #[.pointer (some ⟨rb, 0, none⟩)] w (Rgot cInt.rd (fun n => .int .i64 n) rb br bs l w) := by
  have c0 := Bh.cells1 h.box
  have HC := Lib.hid (Pk.RInt_any br bs l 0 w h.rd (by have := h.len; omega))
  unfold Pk.IntPost at HC
  cases hd : Pk.rdInt l with
  | none =>
    rw [hd] at HC
    have HH := Lib.hid h
    clear h
    go_enter Try.func79, Try.ntmps79
    go_wp2_with fail
    refine HC.out.mono ?_
    rintro e w1 ⟨rfl, hr, hk⟩
    have HB := Lib.hid (hk.heap HH.out.box (fun e => HH.out.ne e))
    have HE := Lib.hid hr
    have HK := Lib.hid hk
    clear hr hk HC c0
    have c0 := Bh.cells1 HB.out
    go_wp2_with (first | (go_at_call 107; refine (good_no HB.out HE.out (by decide)).mono ?_; rintro e w' ⟨rfl, rfl⟩))
    exact ⟨rfl, Rgot.no hd HK.out⟩
  | some p =>
    obtain ⟨n, r⟩ := p
    rw [hd] at HC
    have HH := Lib.hid h
    have hle := rd_le cInt h.b8 hd
    clear h
    go_enter Try.func79, Try.ntmps79
    go_wp2_with fail
    refine HC.out.mono ?_
    rintro e w1 ⟨rfl, hr, hk⟩
    have HS := Lib.hid (HH.out.next hr hk hle)
    have HK := Lib.hid hk
    clear hr hk HC c0
    go_wp2_with (first | (go_at_call 107; refine (good_yes HS.out).mono ?_; rintro e w' ⟨rfl, rfl⟩))
    go_ret
    exact Rgot.yes hd rfl HS.out HK.out
set_option maxHeartbeats 800000 in
set_option maxRecDepth 100000 in
theorem mark_any (h : Rs w rb br bs l) : Calls Try.prog 96 #[.pointer (some ⟨rb, 0, none⟩)] w (Rgot cMark.rd (fun n => .bool n) rb br bs l w) := by
  have c0 := Bh.cells1 h.box
  have HC := Lib.hid (Pk.RMark_any br bs l 0 w h.rd)
  unfold Pk.MarkPost at HC
  cases hd : Pk.rdMark l with
  | none =>
    rw [hd] at HC
    have HH := Lib.hid h
    clear h
    go_enter Try.func96, Try.ntmps96
    go_wp2_with fail
    refine HC.out.mono ?_
    rintro e w1 ⟨rfl, hr, hk⟩
    have HB := Lib.hid (hk.heap HH.out.box (fun e => HH.out.ne e))
    have HE := Lib.hid hr
    have HK := Lib.hid hk
    clear hr hk HC c0
    have c0 := Bh.cells1 HB.out
    go_wp2_with (first | (go_at_call 107; refine (good_no HB.out HE.out (by decide)).mono ?_; rintro e w' ⟨rfl, rfl⟩))
    exact ⟨rfl, Rgot.no hd HK.out⟩
  | some p =>
    obtain ⟨n, r⟩ := p
    rw [hd] at HC
    have HH := Lib.hid h
    have hle := rd_le cMark h.b8 hd
    clear h
    go_enter Try.func96, Try.ntmps96
    go_wp2_with fail
    refine HC.out.mono ?_
    rintro e w1 ⟨rfl, hr, hk⟩
    have HS := Lib.hid (HH.out.next hr hk hle)
    have HK := Lib.hid hk
    clear hr hk HC c0
    go_wp2_with (first | (go_at_call 107; refine (good_yes HS.out).mono ?_; rintro e w' ⟨rfl, rfl⟩))
    go_ret
    exact Rgot.yes hd rfl HS.out HK.out
set_option maxHeartbeats 800000 in
set_option maxRecDepth 100000 in
theorem float_any (h : Rs w rb br bs l) : Calls Try.prog 119 #[.pointer (some ⟨rb, 0, none⟩)] w (Rgot cFlt.rd (fun n => .float .f64 n) rb br bs l w) := by
  have c0 := Bh.cells1 h.box
  have HC := Lib.hid (Pk.RFloat_any br bs l 0 w h.rd)
  unfold Pk.FltPost at HC
  cases hd : Pk.rdFlt l with
  | none =>
    rw [hd] at HC
    have HH := Lib.hid h
    clear h
    go_enter Try.func119, Try.ntmps119
    go_wp2_with fail
    refine HC.out.mono ?_
    rintro e w1 ⟨rfl, hr, hk⟩
    have HB := Lib.hid (hk.heap HH.out.box (fun e => HH.out.ne e))
    have HE := Lib.hid hr
    have HK := Lib.hid hk
    clear hr hk HC c0
    have c0 := Bh.cells1 HB.out
    go_wp2_with (first | (go_at_call 107; refine (good_no HB.out HE.out (by decide)).mono ?_; rintro e w' ⟨rfl, rfl⟩))
    exact ⟨rfl, Rgot.no hd HK.out⟩
  | some p =>
    obtain ⟨n, r⟩ := p
    rw [hd] at HC
    have HH := Lib.hid h
    have hle := rd_le cFlt h.b8 hd
    clear h
    go_enter Try.func119, Try.ntmps119
    go_wp2_with fail
    refine HC.out.mono ?_
    rintro e w1 ⟨rfl, hr, hk⟩
    have HS := Lib.hid (HH.out.next hr hk hle)
    have HK := Lib.hid hk
    clear hr hk HC c0
    go_wp2_with (first | (go_at_call 107; refine (good_yes HS.out).mono ?_; rintro e w' ⟨rfl, rfl⟩))
    go_ret
    exact Rgot.yes hd rfl HS.out HK.out
/-- what text leaves -/
def Tgot (rb br bs : Nat) (l : List Nat) (w : World) (x : Ending) (w' : World) : Prop :=
  Kept (Only br) w w' ∧ match rdT l with
    | some (t, r) => (∃ b a cap, x = .returned (.slice a t.length cap) ∧ OwnB 5 w' b a cap t ∧ w.heap.size ≤ b) ∧ Rs w' rb br bs r
    | none => x = .panicked thr
theorem Tgot.some {t r : List Nat} {x : Ending} (h : Tgot rb br bs l w x w') (hd : rdT l = some (t, r)) : (∃ b a cap, x = .returned (.slice a t.length cap) ∧ OwnB 5 w' b a cap t ∧ w.heap.size ≤ b) ∧ Rs w' rb br bs r ∧ Kept (Only br) w w' := by
  unfold Tgot at h; rw [hd] at h; exact ⟨h.2.1, h.2.2, h.1⟩
theorem Tgot.none {x : Ending} (h : Tgot rb br bs l w x w') (hd : rdT l = none) : x = .panicked thr ∧ Kept (Only br) w w' := by
  unfold Tgot at h; rw [hd] at h; exact ⟨h.2, h.1⟩
set_option maxHeartbeats 800000 in
set_option maxRecDepth 100000 in
theorem text_any (h : Rs w rb br bs l) : Calls Try.prog 91 #[.pointer (some ⟨rb, 0, none⟩)] w (Tgot rb br bs l w) := by
  have c0 := Bh.cells1 h.box
  have HC := Lib.hid (Pk.RText_any br bs l 0 w h.rd (by have := h.len; omega))
  unfold Pk.TextPost at HC
  have HB8 := h.b8
  cases hd : Pk.rdText l with
  | error c =>
    have hc : Pk.keep 0 c ≠ 0 := by
      unfold Pk.keep
      rw [if_pos rfl]
      unfold Pk.rdText at hd
      split at hd
      · injection hd with hd; omega
      · split at hd
        · injection hd with hd; omega
        · split at hd
          · injection hd with hd; omega
          · cases hd
    rw [Pk.textOut_err hd] at HC
    have hT : rdT l = none := by unfold rdT; rw [hd]
    have HH := Lib.hid h
    clear h HB8
    go_enter Try.func91, Try.ntmps91
    go_wp2_with fail
    refine HC.out.mono ?_
    rintro e w1 ⟨b, a, cap, rfl, ho, _, _, hr, hk⟩
    have HB := Lib.hid (hk.heap HH.out.box (fun e => HH.out.ne e))
    have HE := Lib.hid hr
    have HK := Lib.hid hk
    clear hr hk HC c0 ho
    have c0 := Bh.cells1 HB.out
    go_wp2_with (first | (go_at_call 107; refine (good_no HB.out HE.out hc).mono ?_; rintro e w' ⟨rfl, rfl⟩))
    refine ⟨rfl, HK.out, ?_⟩
    rw [hT]
  | ok p =>
    obtain ⟨t, r⟩ := p
    rw [Pk.textOut_ok hd] at HC
    have hT : rdT l = some (t, r) := by unfold rdT; rw [hd]
    have HH := Lib.hid h
    have hle := rd_le cText HB8 hT
    clear h HB8
    go_enter Try.func91, Try.ntmps91
    go_wp2_with fail
    refine HC.out.mono ?_
    rintro e w1 ⟨b, a, cap, rfl, ho, hn, _, hr, hk⟩
    have HS := Lib.hid (HH.out.next hr hk hle)
    have HK := Lib.hid hk
    have HO := Lib.hid ho
    clear hr hk HC c0 ho
    go_wp2_with (first | (go_at_call 107; refine (good_yes HS.out).mono ?_; rintro e w' ⟨rfl, rfl⟩))
    go_ret
    refine ⟨HK.out, ?_⟩
    rw [hT]
    exact ⟨⟨b, a, cap, rfl, HO.out, hn⟩, HS.out⟩
/-- a number from 0 to most -/
def rdUp (most : Int) (l : List Nat) : Option (Int × List Nat) := match cInt.rd l with
  | some (n, r) => if 0 ≤ n ∧ n ≤ most then some (n, r) else none
  | none => none
theorem rdUp_no {most : Int} (h : cInt.rd l = none) : rdUp most l = none := by unfold rdUp; rw [h]
theorem rdUp_far {most n : Int} {r : List Nat} (h : cInt.rd l = some (n, r)) (hn : ¬ (0 ≤ n ∧ n ≤ most)) : rdUp most l = none := by unfold rdUp; rw [h]; simp only; rw [if_neg hn]
theorem rdUp_yes {most n : Int} {r : List Nat} (h : cInt.rd l = some (n, r)) (h1 : 0 ≤ n) (h2 : n ≤ most) : rdUp most l = some (n, r) := by unfold rdUp; rw [h]; simp only; rw [if_pos ⟨h1, h2⟩]
theorem rdUp_int {most n : Int} {r : List Nat} (h : rdUp most l = some (n, r)) : cInt.rd l = some (n, r) ∧ 0 ≤ n ∧ n ≤ most := by
  unfold rdUp at h
  cases hd : cInt.rd l with
  | none => rw [hd] at h; cases h
  | some p =>
    obtain ⟨m, q⟩ := p
    rw [hd] at h
    simp only at h
    by_cases hm : 0 ≤ m ∧ m ≤ most
    · rw [if_pos hm] at h
      injection h with h
      injection h with h1 h2
      subst h1 h2
      exact ⟨rfl, hm⟩
    · rw [if_neg hm] at h; cases h
set_option maxHeartbeats 800000 in
set_option maxRecDepth 100000 in
theorem rupTo_any (h : Rs w rb br bs l) (most : Int) : Calls Try.prog 80 #[.pointer (some ⟨rb, 0, none⟩), .int .i64 most] w (Rgot (rdUp most) (fun n => .int .i64 n) rb br bs l w) := by
  have HC := Lib.hid (number_any h)
  clear h
  cases hd : cInt.rd l with
  | none =>
    have HU := Lib.hid (rdUp_no (most := most) hd)
    go_enter Try.func80, Try.ntmps80
    go_wp2_with fail
    refine HC.out.mono ?_
    rintro e w1 hx
    obtain ⟨rfl, hk⟩ := hx.none hd
    go_wp2_with fail
    exact ⟨rfl, Rgot.no HU.out hk⟩
  | some p =>
    obtain ⟨n, r⟩ := p
    by_cases h1 : 0 ≤ n
    · have d1 : decide ((0 : Int) ≤ n) = true := decide_eq_true h1
      by_cases h2 : n ≤ most
      · have d2 : decide (n ≤ most) = true := decide_eq_true h2
        have HU := Lib.hid (rdUp_yes hd h1 h2)
        clear h1 h2
        go_enter Try.func80, Try.ntmps80
        go_wp2_with fail
        refine HC.out.mono ?_
        rintro e w1 hx
        obtain ⟨rfl, hs, hk⟩ := hx.some hd
        have HS := Lib.hid hs
        have HK := Lib.hid hk
        clear hx hs hk
        go_wp2_with (first | (go_at_call 66; refine (must_ok _).mono ?_; rintro e w' ⟨rfl, rfl⟩))
        go_ret
        exact Rgot.yes HU.out rfl HS.out HK.out
      · have d2 : decide (n ≤ most) = false := decide_eq_false h2
        have HU := Lib.hid (rdUp_far (most := most) hd (fun e => h2 e.2))
        clear h1 h2
        go_enter Try.func80, Try.ntmps80
        go_wp2_with fail
        refine HC.out.mono ?_
        rintro e w1 hx
        obtain ⟨rfl, hs, hk⟩ := hx.some hd
        have HK := Lib.hid hk
        clear hx hs hk
        go_wp2_with (first | (go_at_call 66; refine (must_not _).mono ?_; rintro e w' ⟨rfl, rfl⟩))
        exact ⟨rfl, Rgot.no HU.out HK.out⟩
    · have d1 : decide ((0 : Int) ≤ n) = false := decide_eq_false h1
      have HU := Lib.hid (rdUp_far (most := most) hd (fun e => h1 e.1))
      clear h1
      go_enter Try.func80, Try.ntmps80
      go_wp2_with fail
      refine HC.out.mono ?_
      rintro e w1 hx
      obtain ⟨rfl, hs, hk⟩ := hx.some hd
      have HK := Lib.hid hk
      clear hx hs hk
      go_wp2_with (first | (go_at_call 66; refine (must_not _).mono ?_; rintro e w' ⟨rfl, rfl⟩))
      exact ⟨rfl, Rgot.no HU.out HK.out⟩
end Go.Proofs.Ytjdebdfbjcpjgaa.Wr
end
section
/- A reader beside one or two blocks of the call's own; structs stored into a block, whole, in its middle, and loaded. -/
namespace Go.Proofs.Ytjdebdfbjcpjgaa.Wr
open Go Go.RowKit Vl Kv Ss Cn Mem Lg Nm
/-- some cells of a row anew -/
def splice (old : Array Value) : Nat → List Value → Array Value
  | _, [] => old
  | o, v :: r => splice (old.setIfInBounds o v) (o + 1) r
theorem heap_setCells {b : Nat} {t : TypeId} : ∀ (vs : List Value) (o : Nat) (w : World) (old : Array Value), w.heap[b]? = some (.cells old t) → (w.setCells b o vs).heap[b]? = some (.cells (splice old o vs) t)
  | [], _, _, _, h => h
  | v :: r, o, w, old, h => heap_setCells r (o + 1) (w.setCell ⟨b, o, none⟩ v) (old.setIfInBounds o v) (Bh.heap_set v h)
theorem setCells_any {b n : Nat} (hn : n ≠ b) : ∀ (vs : List Value) (o : Nat) (w : World), (w.setCells b o vs).heap[n]? = w.heap[n]?
  | [], _, _ => rfl
  | _ :: r, o, _ => (setCells_any hn r (o + 1) _).trans (Below.heap_setCell _ _ _ _ hn)
theorem setCells_size {b : Nat} : ∀ (vs : List Value) (o : Nat) (w : World), (w.setCells b o vs).heap.size = w.heap.size
  | [], _, _ => rfl
  | _ :: r, o, _ => (setCells_size r (o + 1) _).trans (by simp [World.setCell])
theorem else_setCells (b : Nat) : ∀ (vs : List Value) (o : Nat) (w : World), Bh.Else b w (w.setCells b o vs)
  | [], _, _ => ⟨rfl, rfl, rfl, rfl, fun _ _ => rfl⟩
  | v :: r, o, w => by
    have h1 := Bh.Else.set b o w v
    have h2 := else_setCells b r (o + 1) (w.setCell ⟨b, o, none⟩ v)
    exact ⟨h2.os.trans h1.os, h2.tape.trans h1.tape, h2.output.trans h1.output, h2.size.trans h1.size, fun k hk => (h2.block k hk).trans (h1.block k hk)⟩
/-- a whole struct stored into block g -/
theorem store_g {P : Program} {ops : Array Oper} {rest : List Oper} {o : Oper} {a : Go.Act} {w : World} {Q : Exit → Go.Act → World → Prop} (n : Nat) {g : Nat} {t : TypeId} {old : Array Value} (hg : w.heap[g]? = some (.cells old t))
    {ty : TypeId} {x y : Operand} {cells : Array Value} (hgd : o.guard = none) (ho : o.op = .store ty x y)
    (hx : a.eval x = .pointer (some ⟨g, 0, none⟩)) (hy : a.eval y = .agg cells) (hn : old.size = n) (hi : (P.info? ty).map (·.size) = some n) (hc : cells.size = n) (h1 : cells.toList.all (·.oneCell') = true)
    (h : ∀ w', w'.heap[g]? = some (.cells cells t) → Bh.Else g w w' → wpList P ops Q rest (a.put o.dst undef) w') : wpList P ops Q (o :: rest) a w :=
  wpList_store_row hgd ty x y ho _ cells hx hy t old hg (hi.trans (by rw [hc])) (by rw [hn, hc]) (by rw [← h1, Array.all_toList]) (h _ (setRow_heap _ _ _ _ _ _ hg) (Bh.Else.row _ _ _))
/-- a struct stored into the middle of block g -/
theorem store_gm {P : Program} {ops : Array Oper} {rest : List Oper} {o : Oper} {a : Go.Act} {w : World} {Q : Exit → Go.Act → World → Prop} {g off : Nat} {t : TypeId} {old : Array Value} (hg : w.heap[g]? = some (.cells old t))
    {ty : TypeId} {x y : Operand} {cells new : Array Value} (hgd : o.guard = none) (ho : o.op = .store ty x y)
    (hx : a.eval x = .pointer (some ⟨g, off, none⟩)) (hy : a.eval y = .agg cells) (hs : decide (off + cells.size ≤ old.size) = true) (hi : (P.info? ty).map (·.size) = some cells.size) (h1 : cells.toList.all (·.oneCell') = true) (hnew : splice old off cells.toList = new)
    (h : ∀ w', w'.heap[g]? = some (.cells new t) → Bh.Else g w w' → wpList P ops Q rest (a.put o.dst undef) w') : wpList P ops Q (o :: rest) a w := by
  subst hnew
  have hs := of_decide_eq_true hs
  refine wpList_store_mid hgd ty x y ho g off cells hx hy (fun j hj => ⟨?_, Bh.frozen_of hg _⟩) hi (by rw [← h1, Array.all_toList]) (h _ (heap_setCells _ _ _ _ hg) (else_setCells _ _ _ _))
  have : off + j < old.size := by omega
  simp [World.cell?, hg, this]
/-- a whole struct loaded out of block g -/
theorem load_g {P : Program} {ops : Array Oper} {rest : List Oper} {o : Oper} {a : Go.Act} {w : World} {Q : Exit → Go.Act → World → Prop} {g : Nat} {t : TypeId} {cs : Array Value} (hg : w.heap[g]? = some (.cells cs t)) {ty : TypeId} {d : TypeDesc} (hu : P.underlying ty = some d)
    {x : Operand} (hgd : o.guard = none) (ho : o.op = .load ty x) (hx : a.eval x = .pointer (some ⟨g, 0, none⟩))
    (hd : (match d with | .struct _ | .array _ _ => true | _ => false) = true) (hi : (P.info? ty).map (·.size) = some cs.size)
    (h : wpList P ops Q rest (a.put o.dst (.agg cs)) w) : wpList P ops Q (o :: rest) a w :=
  wpList_load_row hgd ty x ho _ hx t cs (0, 0) d hg hu hd hi h
/-- one cell stored into block g -/
theorem store_g1 {P : Program} {ops : Array Oper} {rest : List Oper} {o : Oper} {a : Go.Act} {w : World} {Q : Exit → Go.Act → World → Prop} {g off : Nat} {t : TypeId} {old : Array Value} (hg : w.heap[g]? = some (.cells old t))
    {ty : TypeId} {x y : Operand} {v : Value} {new : Array Value} (hgd : o.guard = none) (ho : o.op = .store ty x y)
    (hx : a.eval x = .pointer (some ⟨g, off, none⟩)) (hy : a.eval y = v) (hs : decide (off < old.size) = true) (hone : v.oneCell' = true) (hi : (P.info? ty).map (·.size) = some 1) (hnew : old.setIfInBounds off v = new)
    (h : ∀ w', w'.heap[g]? = some (.cells new t) → Bh.Else g w w' → wpList P ops Q rest (a.put o.dst undef) w') : wpList P ops Q (o :: rest) a w := by
  subst hnew
  have hs := of_decide_eq_true hs
  have hc : v.cells = #[v] := by cases v <;> first | rfl | cases hone
  have e : (storeVar ty ⟨g, off, none⟩ v).run P w = .ok () (w.setCell ⟨g, off, none⟩ v) := by
    have h2 : storeVar ty ⟨g, off, none⟩ v = storeVar ty ⟨g, off, none⟩ (.agg #[v]) := by
      unfold storeVar
      rw [hc]
      rfl
    rw [h2, run_storeVar_mid w g off ty #[v] (fun k hk => by
      obtain rfl : k = 0 := by simp at hk; omega
      refine ⟨?_, Bh.frozen_of hg _⟩
      simp [World.cell?, hg, hs]) (by simpa using hi) (by simp [hone])]
    rfl
  refine wpList_plain hgd fun _ hK => ?_
  unfold Oper.wp execOp
  simp only [ho, hx, hy, Instr.storeAt, Instr.sureAddr, Sem.run_bind, Sem.run_pure, Result.andThen_ok, e]
  exact hK _ _ (h _ (Bh.heap_set v hg) (Bh.Else.set _ _ _ _))
/-- a reader, and the block of a result -/
structure Fr1 (w : World) (rb br bs : Nat) (r : List Nat) (gr : Nat) (R : Obj) (W : World) : Prop where
  rs : Rs W rb br bs r
  kept : Kept (Only br) w W
  lrb : rb < w.heap.size
  lbr : br < w.heap.size
  lbs : r ≠ [] → bs < w.heap.size
  box : W.heap[gr]? = some R
  lo : w.heap.size ≤ gr
/-- a reader, the block of a result, and another one -/
structure Fr2 (w : World) (rb br bs : Nat) (r : List Nat) (gr : Nat) (R : Obj) (gx : Nat) (X : Obj) (W : World) : Prop extends Fr1 w rb br bs r gr R W where
  xbox : W.heap[gx]? = some X
  xlo : w.heap.size ≤ gx
  ne : gx ≠ gr
variable {w W W' : World} {rb br bs gr gx : Nat} {l r r' : List Nat} {R X R' X' : Obj}
theorem Fr1.start (h : Rs w rb br bs l) (R : Obj) : Fr1 w rb br bs l w.heap.size R (w.alloc R) :=
  ⟨h.on (below_alloc _ _), (Kept.refl _ _).alloc _, h.lt.1, h.lt.2, fun hl => RAt.lt2 h.rd hl, alloc_here _ rfl, Nat.le_refl _⟩
theorem Fr1.call (h : Fr1 w rb br bs r gr R W) (hs : Rs W' rb br bs r') (hk : Kept (Only br) W W') (hl : r'.length ≤ r.length) : Fr1 w rb br bs r' gr R W' :=
  ⟨hs, h.kept.trans hk, h.lrb, h.lbr, fun hr => h.lbs (fun e => hr (List.eq_nil_of_length_eq_zero (by rw [e] at hl; simpa using hl))), keptO hk h.box (by have := h.lo; have := h.lbr; omega), h.lo⟩
theorem Rs.els {g : Nat} (h : Rs W rb br bs r) (x : Bh.Else g W W') (h1 : rb ≠ g) (h2 : br ≠ g) (h3 : r ≠ [] → bs ≠ g) : Rs W' rb br bs r :=
  ⟨(x.block rb h1).trans h.box, h.rd.kept (else_kept x) h2 h3, h.ne, h.len, h.nes⟩
theorem Fr1.els {g : Nat} (h : Fr1 w rb br bs r gr R W) (hg : w.heap.size ≤ g) (hx : W'.heap[gr]? = some R') (x : Bh.Else g W W') : Fr1 w rb br bs r gr R' W' :=
  ⟨h.rs.els x (by have := h.lrb; omega) (by have := h.lbr; omega) (fun hr => by have := h.lbs hr; omega), h.kept.trans' (else_kept x) (fun k hk => .inr (by cases hk; exact hg)), h.lrb, h.lbr, h.lbs, hx, h.lo⟩
theorem Fr1.set (h : Fr1 w rb br bs r gr R W) (hx : W'.heap[gr]? = some R') (x : Bh.Else gr W W') : Fr1 w rb br bs r gr R' W' := h.els h.lo hx x
theorem Fr1.more (h : Fr1 w rb br bs r gr R W) (X : Obj) : Fr2 w rb br bs r gr R W.heap.size X (W.alloc X) :=
  { rs := h.rs.on (below_alloc _ _), kept := h.kept.alloc _, lrb := h.lrb, lbr := h.lbr, lbs := h.lbs, box := old_alloc _ h.box, lo := h.lo, xbox := alloc_here _ rfl, xlo := h.kept.size, ne := by have := heap_lt h.box; omega }
theorem Fr2.callx (h : Fr2 w rb br bs r gr R gx X W) (hs : Rs W' rb br bs r') (hk : Kept (Only br) W W') (hl : r'.length ≤ r.length) : Fr2 w rb br bs r' gr R gx X W' :=
  { h.toFr1.call hs hk hl with xbox := keptO hk h.xbox (by have := h.xlo; have := h.lbr; omega), xlo := h.xlo, ne := h.ne }
theorem Fr2.setX (h : Fr2 w rb br bs r gr R gx X W) (hx : W'.heap[gx]? = some X') (x : Bh.Else gx W W') : Fr2 w rb br bs r gr R gx X' W' :=
  { h.toFr1.els h.xlo ((x.block gr (fun e => h.ne e.symm)).trans h.box) x with xbox := hx, xlo := h.xlo, ne := h.ne }
theorem Fr2.setR (h : Fr2 w rb br bs r gr R gx X W) (hx : W'.heap[gr]? = some R') (x : Bh.Else gr W W') : Fr2 w rb br bs r gr R' gx X W' :=
  { h.toFr1.els h.lo hx x with xbox := (x.block gx h.ne).trans h.xbox, xlo := h.xlo, ne := h.ne }
end Go.Proofs.Ytjdebdfbjcpjgaa.Wr
end
section
/- The landed reader of package wire: conf. -/
namespace Go.Proofs.Ytjdebdfbjcpjgaa.Wr
open Go Go.RowKit Vl Kv Ss Cn Mem Lg Nm
attribute [local go_sem] Nm.run_bits Nm.run_frombits run_store_float
variable {w w' : World} {rb br bs : Nat} {l : List Nat}
set_option maxHeartbeats 3200000 in
set_option maxRecDepth 100000 in
theorem rconf_any (h : Rs w rb br bs l) : Calls Try.prog 82 #[.pointer (some ⟨rb, 0, none⟩)] w (Rgot cConf.rd C.val rb br bs l w) := by
  have HF := Lib.hid (Fr1.start h (Lg.C.obj C.zero))
  clear h
  go_enter Try.func82, Try.ntmps82
  have HC1 := Lib.hid (number_any HF.out.rs)
  have hb81 := HF.out.rs.b8
  cases hd1 : cInt.rd l with
  | none =>
    go_wp2_with fail
    refine HC1.out.mono ?_
    rintro e wq hx
    obtain ⟨rfl, hk⟩ := hx.none hd1
    go_wp2_with fail
    exact ⟨rfl, Rgot.no (as_no (seq_no1 hd1)) (HF.out.kept.trans hk)⟩
  | some p1 =>
    obtain ⟨n1, r1⟩ := p1
    go_wp2_with fail
    refine HC1.out.mono ?_
    rintro e wq hx
    obtain ⟨rfl, hs, hk⟩ := hx.some hd1
    have hl1 := rd_le cInt hb81 hd1
    have HF := Lib.hid (HF.out.call hs hk hl1)
    clear hx hs hk HC1 hb81
    have HC2 := Lib.hid (number_any HF.out.rs)
    have hb82 := HF.out.rs.b8
    cases hd2 : cInt.rd r1 with
    | none =>
      go_wp2_with fail
      refine HC2.out.mono ?_
      rintro e wq hx
      obtain ⟨rfl, hk⟩ := hx.none hd2
      go_wp2_with fail
      exact ⟨rfl, Rgot.no (as_no (seq_no2 hd1 (seq_no1 hd2))) (HF.out.kept.trans hk)⟩
    | some p2 =>
      obtain ⟨n2, r2⟩ := p2
      go_wp2_with fail
      refine HC2.out.mono ?_
      rintro e wq hx
      obtain ⟨rfl, hs, hk⟩ := hx.some hd2
      have hl2 := rd_le cInt hb82 hd2
      have HF := Lib.hid (HF.out.call hs hk hl2)
      clear hx hs hk HC2 hb82
      have HC3 := Lib.hid (number_any HF.out.rs)
      have hb83 := HF.out.rs.b8
      cases hd3 : cInt.rd r2 with
      | none =>
        go_wp2_with fail
        refine HC3.out.mono ?_
        rintro e wq hx
        obtain ⟨rfl, hk⟩ := hx.none hd3
        go_wp2_with fail
        exact ⟨rfl, Rgot.no (as_no (seq_no2 hd1 (seq_no2 hd2 (seq_no1 hd3)))) (HF.out.kept.trans hk)⟩
      | some p3 =>
        obtain ⟨n3, r3⟩ := p3
        go_wp2_with fail
        refine HC3.out.mono ?_
        rintro e wq hx
        obtain ⟨rfl, hs, hk⟩ := hx.some hd3
        have hl3 := rd_le cInt hb83 hd3
        have HF := Lib.hid (HF.out.call hs hk hl3)
        clear hx hs hk HC3 hb83
        have HC4 := Lib.hid (number_any HF.out.rs)
        have hb84 := HF.out.rs.b8
        cases hd4 : cInt.rd r3 with
        | none =>
          go_wp2_with fail
          refine HC4.out.mono ?_
          rintro e wq hx
          obtain ⟨rfl, hk⟩ := hx.none hd4
          go_wp2_with fail
          exact ⟨rfl, Rgot.no (as_no (seq_no2 hd1 (seq_no2 hd2 (seq_no2 hd3 hd4)))) (HF.out.kept.trans hk)⟩
        | some p4 =>
          obtain ⟨n4, r4⟩ := p4
          go_wp2_with fail
          refine HC4.out.mono ?_
          rintro e wq hx
          obtain ⟨rfl, hs, hk⟩ := hx.some hd4
          have hl4 := rd_le cInt hb84 hd4
          have HF := Lib.hid (HF.out.call hs hk hl4)
          clear hx hs hk HC4 hb84
          go_wp2_with (first | (apply store_g 4 HF.out.box; rfl; rfl; rfl; rfl; rfl; kernel_rfl; rfl; rfl; intro wz hz he; have HF := Lib.hid (HF.out.set hz he); clear hz he))
          (try simp only [Exit.inBlock, Exit.then])
          refine bodyPost_ret (v := C.val ⟨n1, n2, n3, n4⟩) (Bh.results_cell_row1 rfl _ _ _ _ _ _ _ rfl HF.out.box Try.underlying30 rfl (by kernel_rfl)) rfl ?_
          exact Rgot.yes (as_yes (seq_yes hd1 (seq_yes hd2 (seq_yes hd3 hd4)))) rfl HF.out.rs HF.out.kept
end Go.Proofs.Ytjdebdfbjcpjgaa.Wr
end
