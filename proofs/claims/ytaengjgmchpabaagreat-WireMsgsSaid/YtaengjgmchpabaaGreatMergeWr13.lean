import Derived.Test.YtaengjgmchpabaaGreatMergeWr12
import Derived.Test.YtaengjgmchpabaaGreatMergeWr9
import Derived.Test.YtaengjgmchpabaaGreatChecked
import Derived.Test.YtaengjgmchpabaaGreatMergeWr1
import Derived.WalkKit
import Derived.WalkSpells
import Derived.WalkLawsBesides
import Derived.Lib.Hide
import Derived.Outline
import Derived.BigGuardPart
import Derived.Deep.QuietTactic
import Derived.BigQuiet
import Derived.LoopTactic
section
/- The landed reader of package wire: number, mark, float, text, upTo. -/
namespace Go.Proofs.YtaengjgmchpabaaGreat.Wr
open Go Go.RowKit Vl Kv Ss Cn Mem Lg Nm
attribute [local go_sem] Nm.run_bits Nm.run_frombits run_store_float
/-- a reader at rb: what is left is l -/
structure Rs (w : World) (rb br bs : Nat) (l : List Nat) : Prop where
  box : w.heap[rb]? = some (.cells #[.pointer (some ⟨br, 0, none⟩)] 91)
  rd : Pk.RAt w br bs l 0
  ne : rb ≠ br
  len : l.length ≤ 100000
  nes : l ≠ [] → bs ≠ rb
theorem Rs.b8 {w : World} {rb br bs : Nat} {l : List Nat} (h : Rs w rb br bs l) : B8 l := h.rd.len.1
theorem Rs.lt {w : World} {rb br bs : Nat} {l : List Nat} (h : Rs w rb br bs l) : rb < w.heap.size ∧ br < w.heap.size := ⟨lt_of_heap h.box, RAt.lt1 h.rd⟩
/-- other blocks are as they were -/
theorem Rs.kept {w w' : World} {rb br bs : Nat} {l : List Nat} (h : Rs w rb br bs l) {S : Nat → Prop} (hk : Kept S w w') (hS : ∀ k, S k → w.heap.size ≤ k) : Rs w' rb br bs l :=
  ⟨hk.heap h.box (fun e => by have := hS _ e; have := h.lt.1; omega), h.rd.kept hk (fun e => by have := hS _ e; have := h.lt.2; omega) (fun hl e => by have := hS _ e; have := RAt.lt2 h.rd hl; omega), h.ne, h.len, h.nes⟩
theorem Rs.on {w w' : World} {rb br bs : Nat} {l : List Nat} (h : Rs w rb br bs l) (hb : Beh w w') : Rs w' rb br bs l := h.kept (kept_beh hb) (fun _ h => h.elim)
theorem Rs.next {w w' : World} {rb br bs : Nat} {l r : List Nat} (h : Rs w rb br bs l) (hr : Pk.RAt w' br bs r 0) (hk : Kept (Only br) w w') (hl : r.length ≤ l.length) : Rs w' rb br bs r :=
  ⟨hk.heap h.box (fun e => h.ne e), hr, h.ne, Nat.le_trans hl h.len, fun hr => h.nes (fun e => hr (List.eq_nil_of_length_eq_zero (by rw [e] at hl; simpa using hl)))⟩
/-- what a read leaves: what is read, or it is thrown -/
def Rgot {α : Type} (rd : List Nat → Option (α × List Nat)) (val : α → Value) (rb br bs : Nat) (l : List Nat) (w : World) (x : Ending) (w' : World) : Prop :=
  Kept (Only br) w w' ∧ match rd l with
    | some (a, r) => x = .returned (val a) ∧ Rs w' rb br bs r
    | none => x = .panicked thr
variable {α β : Type} {w w' : World} {rb br bs : Nat} {l : List Nat}
theorem Rgot.yes {rd : List Nat → Option (α × List Nat)} {val : α → Value} {a : α} {r : List Nat} {x : Ending} (hd : rd l = some (a, r)) (hx : x = .returned (val a)) (hs : Rs w' rb br bs r) (hk : Kept (Only br) w w') : Rgot rd val rb br bs l w x w' := by
  unfold Rgot; rw [hd]; exact ⟨hk, hx, hs⟩
theorem Rgot.no {rd : List Nat → Option (α × List Nat)} {val : α → Value} (hd : rd l = none) (hk : Kept (Only br) w w') : Rgot rd val rb br bs l w (.panicked thr) w' := by
  unfold Rgot; rw [hd]; exact ⟨hk, rfl⟩
theorem Rgot.some {rd : List Nat → Option (α × List Nat)} {val : α → Value} {a : α} {r : List Nat} {x : Ending} (h : Rgot rd val rb br bs l w x w') (hd : rd l = some (a, r)) : x = .returned (val a) ∧ Rs w' rb br bs r ∧ Kept (Only br) w w' := by
  unfold Rgot at h; rw [hd] at h; exact ⟨h.2.1, h.2.2, h.1⟩
theorem Rgot.none {rd : List Nat → Option (α × List Nat)} {val : α → Value} {x : Ending} (h : Rgot rd val rb br bs l w x w') (hd : rd l = none) : x = .panicked thr ∧ Kept (Only br) w w' := by
  unfold Rgot at h; rw [hd] at h; exact ⟨h.2, h.1⟩
theorem rd_le (A : Cod α) {x : α} {r : List Nat} (h8 : B8 l) (h : A.rd l = some (x, r)) : r.length ≤ l.length := by
  have := (A.sound l h8 x r h).1
  rw [this, List.length_append]; omega
theorem rd_b8 (A : Cod α) {x : α} {r : List Nat} (h8 : B8 l) (h : A.rd l = some (x, r)) : B8 r := b8_right h8 (A.sound l h8 x r h).1

/-! ### chains of reads -/
section
variable {A : Cod α} {B : Cod β} {r q : List Nat} {a : α} {b : β}
theorem seq_no1 (h : A.rd l = none) : (A.seq B).rd l = none := by show (match A.rd l with | none => none | some (a, q) => match B.rd q with | none => none | some (b, r) => some ((a, b), r)) = _; rw [h]
theorem seq_no2 (h : A.rd l = some (a, q)) (h2 : B.rd q = none) : (A.seq B).rd l = none := by show (match A.rd l with | none => none | some (a, q) => match B.rd q with | none => none | some (b, r) => some ((a, b), r)) = _; rw [h]; simp only; rw [h2]
theorem seq_yes (h : A.rd l = some (a, q)) (h2 : B.rd q = some (b, r)) : (A.seq B).rd l = some ((a, b), r) := by show (match A.rd l with | none => none | some (a, q) => match B.rd q with | none => none | some (b, r) => some ((a, b), r)) = _; rw [h]; simp only; rw [h2]
theorem as_no {f : α → β} {g : β → α} {hf : ∀ b, f (g b) = b} {hg : ∀ a, g (f a) = a} (h : A.rd l = none) : (A.as f g hf hg).rd l = none := by show (match A.rd l with | none => none | some (a, r) => some (f a, r)) = _; rw [h]
theorem as_yes {f : α → β} {g : β → α} {hf : ∀ b, f (g b) = b} {hg : ∀ a, g (f a) = a} (h : A.rd l = some (a, r)) : (A.as f g hf hg).rd l = some (f a, r) := by show (match A.rd l with | none => none | some (a, r) => some (f a, r)) = _; rw [h]
theorem emb_no {f : α → β} {g : β → α} {hg : ∀ a, A.ok a → g (f a) = a} (h : A.rd l = none) : (A.emb f g hg).rd l = none := by show (match A.rd l with | none => none | some (a, r) => some (f a, r)) = _; rw [h]
theorem emb_yes {f : α → β} {g : β → α} {hg : ∀ a, A.ok a → g (f a) = a} (h : A.rd l = some (a, r)) : (A.emb f g hg).rd l = some (f a, r) := by show (match A.rd l with | none => none | some (a, r) => some (f a, r)) = _; rw [h]
theorem sel_no1 {B : α → Cod β} (h : A.rd l = none) : (A.sel B).rd l = none := by show (match A.rd l with | none => none | some (a, q) => match (B a).rd q with | none => none | some (b, r) => some ((a, b), r)) = _; rw [h]
theorem sel_no2 {B : α → Cod β} (h : A.rd l = some (a, q)) (h2 : (B a).rd q = none) : (A.sel B).rd l = none := by show (match A.rd l with | none => none | some (a, q) => match (B a).rd q with | none => none | some (b, r) => some ((a, b), r)) = _; rw [h]; simp only; rw [h2]
theorem sel_yes {B : α → Cod β} (h : A.rd l = some (a, q)) (h2 : (B a).rd q = some (b, r)) : (A.sel B).rd l = some ((a, b), r) := by show (match A.rd l with | none => none | some (a, q) => match (B a).rd q with | none => none | some (b, r) => some ((a, b), r)) = _; rw [h]; simp only; rw [h2]
end
theorem doneOf_ok (l : List Nat) (h : ¬ 0 < l.length) : Pk.doneOf l 0 = 0 := by unfold Pk.doneOf; simp [h]
set_option maxHeartbeats 800000 in
set_option maxRecDepth 100000 in
theorem good_yes (h : Rs w rb br bs l) : Calls Tryz.prog 74 #[.pointer (some ⟨rb, 0, none⟩)] w fun e w' => e = .returned (.tuple #[]) ∧ w = w' := by
  have c0 := Bh.cells1 h.box
  have HL := Lib.hid (Pk.Left_any br bs l 0 w h.rd)
  have HD := Lib.hid (Pk.Done_any br bs l 0 w h.rd)
  by_cases hl : 0 < l.length
  · have d1 : decide (0 < l.length) = true := decide_eq_true hl
    have d2 : decide ((0 : Int) < (l.length : Int)) = true := decide_eq_true (by omega)
    clear h
    go_enter Tryz.func74, Tryz.ntmps74
    go_wp2_with (first | (go_at_call 86; refine HL.out.mono ?_; rintro e w' ⟨rfl, rfl⟩) | (go_at_call 48; refine (must_ok _).mono ?_; rintro e w' ⟨rfl, rfl⟩))
    go_end0
    exact ⟨rfl, rfl⟩
  · have d1 : decide (0 < l.length) = false := decide_eq_false hl
    have d2 : decide ((0 : Int) < (l.length : Int)) = false := decide_eq_false (by omega)
    rw [doneOf_ok l hl] at HD
    clear h hl
    go_enter Tryz.func74, Tryz.ntmps74
    go_wp2_with (first | (go_at_call 86; refine HL.out.mono ?_; rintro e w' ⟨rfl, rfl⟩) | (go_at_call 50; refine HD.out.mono ?_; rintro e w' ⟨rfl, rfl⟩) | (go_at_call 48; refine (must_ok _).mono ?_; rintro e w' ⟨rfl, rfl⟩))
    go_end0
    exact ⟨rfl, rfl⟩
set_option maxHeartbeats 800000 in
set_option maxRecDepth 100000 in
theorem good_no {e0 : Int} (hb : w.heap[rb]? = some (.cells #[.pointer (some ⟨br, 0, none⟩)] 91)) (hr : Pk.RAt w br bs [] e0) (he : e0 ≠ 0) : Calls Tryz.prog 74 #[.pointer (some ⟨rb, 0, none⟩)] w fun e w' => e = .panicked thr ∧ w = w' := by
  have c0 := Bh.cells1 hb
  have HL := Lib.hid (Pk.Left_any br bs [] e0 w hr)
  have HD := Lib.hid (Pk.Done_any br bs [] e0 w hr)
  rw [show Pk.doneOf [] e0 = e0 by unfold Pk.doneOf; simp [he]] at HD
  have d2 := int_nbeq he
  clear hb hr he
  go_enter Tryz.func74, Tryz.ntmps74
  go_wp2_with (first | (go_at_call 86; refine HL.out.mono ?_; rintro e w' ⟨rfl, rfl⟩) | (go_at_call 50; refine HD.out.mono ?_; rintro e w' ⟨rfl, rfl⟩) | (go_at_call 48; refine (must_not _).mono ?_; rintro e w' ⟨rfl, rfl⟩))
  exact ⟨rfl, rfl, rfl⟩
end Go.Proofs.YtaengjgmchpabaaGreat.Wr
end
section
/- The landed reader of package wire: number, mark, float, text, upTo. -/
namespace Go.Proofs.YtaengjgmchpabaaGreat.Wr
open Go Go.RowKit Vl Kv Ss Cn Mem Lg Nm
attribute [local go_sem] Nm.run_bits Nm.run_frombits run_store_float
variable {α β : Type} {w w' : World} {rb br bs : Nat} {l : List Nat}
set_option maxHeartbeats 800000 in
set_option maxRecDepth 100000 in
theorem number_any (h : Rs w rb br bs l) : Calls Tryz.prog 51 #[.pointer (some ⟨rb, 0, none⟩)] w (Rgot cInt.rd (fun n => .int .i64 n) rb br bs l w) := by
  have c0 := Bh.cells1 h.box
  have HC := Lib.hid (Pk.RInt_any br bs l 0 w h.rd (by have := h.len; omega))
  unfold Pk.IntPost at HC
  cases hd : Pk.rdInt l with
  | none =>
    rw [hd] at HC
    have HH := Lib.hid h
    clear h
    go_enter Tryz.func51, Tryz.ntmps51
    go_wp2_with fail
    refine HC.out.mono ?_
    rintro e w1 ⟨rfl, hr, hk⟩
    have HB := Lib.hid (hk.heap HH.out.box (fun e => HH.out.ne e))
    have HE := Lib.hid hr
    have HK := Lib.hid hk
    clear hr hk HC c0
    have c0 := Bh.cells1 HB.out
    go_wp2_with (first | (go_at_call 74; refine (good_no HB.out HE.out (by decide)).mono ?_; rintro e w' ⟨rfl, rfl⟩))
    exact ⟨rfl, Rgot.no hd HK.out⟩
  | some p =>
    obtain ⟨n, r⟩ := p
    rw [hd] at HC
    have HH := Lib.hid h
    have hle := rd_le cInt h.b8 hd
    clear h
    go_enter Tryz.func51, Tryz.ntmps51
    go_wp2_with fail
    refine HC.out.mono ?_
    rintro e w1 ⟨rfl, hr, hk⟩
    have HS := Lib.hid (HH.out.next hr hk hle)
    have HK := Lib.hid hk
    clear hr hk HC c0
    go_wp2_with (first | (go_at_call 74; refine (good_yes HS.out).mono ?_; rintro e w' ⟨rfl, rfl⟩))
    go_ret
    exact Rgot.yes hd rfl HS.out HK.out
set_option maxHeartbeats 800000 in
set_option maxRecDepth 100000 in
theorem float_any (h : Rs w rb br bs l) : Calls Tryz.prog 105 #[.pointer (some ⟨rb, 0, none⟩)] w (Rgot cFlt.rd (fun n => .float .f64 n) rb br bs l w) := by
  have c0 := Bh.cells1 h.box
  have HC := Lib.hid (Pk.RFloat_any br bs l 0 w h.rd)
  unfold Pk.FltPost at HC
  cases hd : Pk.rdFlt l with
  | none =>
    rw [hd] at HC
    have HH := Lib.hid h
    clear h
    go_enter Tryz.func105, Tryz.ntmps105
    go_wp2_with fail
    refine HC.out.mono ?_
    rintro e w1 ⟨rfl, hr, hk⟩
    have HB := Lib.hid (hk.heap HH.out.box (fun e => HH.out.ne e))
    have HE := Lib.hid hr
    have HK := Lib.hid hk
    clear hr hk HC c0
    have c0 := Bh.cells1 HB.out
    go_wp2_with (first | (go_at_call 74; refine (good_no HB.out HE.out (by decide)).mono ?_; rintro e w' ⟨rfl, rfl⟩))
    exact ⟨rfl, Rgot.no hd HK.out⟩
  | some p =>
    obtain ⟨n, r⟩ := p
    rw [hd] at HC
    have HH := Lib.hid h
    have hle := rd_le cFlt h.b8 hd
    clear h
    go_enter Tryz.func105, Tryz.ntmps105
    go_wp2_with fail
    refine HC.out.mono ?_
    rintro e w1 ⟨rfl, hr, hk⟩
    have HS := Lib.hid (HH.out.next hr hk hle)
    have HK := Lib.hid hk
    clear hr hk HC c0
    go_wp2_with (first | (go_at_call 74; refine (good_yes HS.out).mono ?_; rintro e w' ⟨rfl, rfl⟩))
    go_ret
    exact Rgot.yes hd rfl HS.out HK.out
/-- what text leaves -/
def Tgot (rb br bs : Nat) (l : List Nat) (w : World) (x : Ending) (w' : World) : Prop :=
  Kept (Only br) w w' ∧ match rdT l with
    | some (t, r) => (∃ b a cap, x = .returned (.slice a t.length cap) ∧ OwnB 5 w' b a cap t ∧ w.heap.size ≤ b) ∧ Rs w' rb br bs r
    | none => x = .panicked thr
theorem Tgot.some {t r : List Nat} {x : Ending} (h : Tgot rb br bs l w x w') (hd : rdT l = some (t, r)) : (∃ b a cap, x = .returned (.slice a t.length cap) ∧ OwnB 5 w' b a cap t ∧ w.heap.size ≤ b) ∧ Rs w' rb br bs r ∧ Kept (Only br) w w' := by
  unfold Tgot at h; rw [hd] at h; exact ⟨h.2.1, h.2.2, h.1⟩
theorem Tgot.none {x : Ending} (h : Tgot rb br bs l w x w') (hd : rdT l = none) : x = .panicked thr ∧ Kept (Only br) w w' := by
  unfold Tgot at h; rw [hd] at h; exact ⟨h.2, h.1⟩
set_option maxHeartbeats 800000 in
set_option maxRecDepth 100000 in
theorem text_any (h : Rs w rb br bs l) : Calls Tryz.prog 55 #[.pointer (some ⟨rb, 0, none⟩)] w (Tgot rb br bs l w) := by
  have c0 := Bh.cells1 h.box
  have HC := Lib.hid (Pk.RText_any br bs l 0 w h.rd (by have := h.len; omega))
  unfold Pk.TextPost at HC
  have HB8 := h.b8
  cases hd : Pk.rdText l with
  | error c =>
    have hc : Pk.keep 0 c ≠ 0 := by
      unfold Pk.keep
      rw [if_pos rfl]
      unfold Pk.rdText at hd
      split at hd
      · injection hd with hd; omega
      · split at hd
        · injection hd with hd; omega
        · split at hd
          · injection hd with hd; omega
          · cases hd
    rw [Pk.textOut_err hd] at HC
    have hT : rdT l = none := by unfold rdT; rw [hd]
    have HH := Lib.hid h
    clear h HB8
    go_enter Tryz.func55, Tryz.ntmps55
    go_wp2_with fail
    refine HC.out.mono ?_
    rintro e w1 ⟨b, a, cap, rfl, ho, _, _, hr, hk⟩
    have HB := Lib.hid (hk.heap HH.out.box (fun e => HH.out.ne e))
    have HE := Lib.hid hr
    have HK := Lib.hid hk
    clear hr hk HC c0 ho
    have c0 := Bh.cells1 HB.out
    go_wp2_with (first | (go_at_call 74; refine (good_no HB.out HE.out hc).mono ?_; rintro e w' ⟨rfl, rfl⟩))
    refine ⟨rfl, HK.out, ?_⟩
    rw [hT]
  | ok p =>
    obtain ⟨t, r⟩ := p
    rw [Pk.textOut_ok hd] at HC
    have hT : rdT l = some (t, r) := by unfold rdT; rw [hd]
    have HH := Lib.hid h
    have hle := rd_le cText HB8 hT
    clear h HB8
    go_enter Tryz.func55, Tryz.ntmps55
    go_wp2_with fail
    refine HC.out.mono ?_
    rintro e w1 ⟨b, a, cap, rfl, ho, hn, _, hr, hk⟩
    have HS := Lib.hid (HH.out.next hr hk hle)
    have HK := Lib.hid hk
    have HO := Lib.hid ho
    clear hr hk HC c0 ho
    go_wp2_with (first | (go_at_call 74; refine (good_yes HS.out).mono ?_; rintro e w' ⟨rfl, rfl⟩))
    go_ret
    refine ⟨HK.out, ?_⟩
    rw [hT]
    exact ⟨⟨b, a, cap, rfl, HO.out, hn⟩, HS.out⟩
/-- a number from 0 to most -/
def rdUp (most : Int) (l : List Nat) : Option (Int × List Nat) := match cInt.rd l with
  | some (n, r) => if 0 ≤ n ∧ n ≤ most then some (n, r) else none
  | none => none
theorem rdUp_no {most : Int} (h : cInt.rd l = none) : rdUp most l = none := by unfold rdUp; rw [h]
theorem rdUp_far {most n : Int} {r : List Nat} (h : cInt.rd l = some (n, r)) (hn : ¬ (0 ≤ n ∧ n ≤ most)) : rdUp most l = none := by unfold rdUp; rw [h]; simp only; rw [if_neg hn]
theorem rdUp_yes {most n : Int} {r : List Nat} (h : cInt.rd l = some (n, r)) (h1 : 0 ≤ n) (h2 : n ≤ most) : rdUp most l = some (n, r) := by unfold rdUp; rw [h]; simp only; rw [if_pos ⟨h1, h2⟩]
theorem rdUp_int {most n : Int} {r : List Nat} (h : rdUp most l = some (n, r)) : cInt.rd l = some (n, r) ∧ 0 ≤ n ∧ n ≤ most := by
  unfold rdUp at h
  cases hd : cInt.rd l with
  | none => rw [hd] at h; cases h
  | some p =>
    obtain ⟨m, q⟩ := p
    rw [hd] at h
    simp only at h
    by_cases hm : 0 ≤ m ∧ m ≤ most
    · rw [if_pos hm] at h
      injection h with h
      injection h with h1 h2
      subst h1 h2
      exact ⟨rfl, hm⟩
    · rw [if_neg hm] at h; cases h
set_option maxHeartbeats 800000 in
set_option maxRecDepth 100000 in
theorem rupTo_any (h : Rs w rb br bs l) (most : Int) : Calls Tryz.prog 56 #[.pointer (some ⟨rb, 0, none⟩), .int .i64 most] w (Rgot (rdUp most) (fun n => .int .i64 n) rb br bs l w) := by
  have HC := Lib.hid (number_any h)
  clear h
  cases hd : cInt.rd l with
  | none =>
    have HU := Lib.hid (rdUp_no (most := most) hd)
    go_enter Tryz.func56, Tryz.ntmps56
    go_wp2_with fail
    refine HC.out.mono ?_
    rintro e w1 hx
    obtain ⟨rfl, hk⟩ := hx.none hd
    go_wp2_with fail
    exact ⟨rfl, Rgot.no HU.out hk⟩
  | some p =>
    obtain ⟨n, r⟩ := p
    by_cases h1 : 0 ≤ n
    · have d1 : decide ((0 : Int) ≤ n) = true := decide_eq_true h1
      by_cases h2 : n ≤ most
      · have d2 : decide (n ≤ most) = true := decide_eq_true h2
        have HU := Lib.hid (rdUp_yes hd h1 h2)
        clear h1 h2
        go_enter Tryz.func56, Tryz.ntmps56
        go_wp2_with fail
        refine HC.out.mono ?_
        rintro e w1 hx
        obtain ⟨rfl, hs, hk⟩ := hx.some hd
        have HS := Lib.hid hs
        have HK := Lib.hid hk
        clear hx hs hk
        go_wp2_with (first | (go_at_call 48; refine (must_ok _).mono ?_; rintro e w' ⟨rfl, rfl⟩))
        go_ret
        exact Rgot.yes HU.out rfl HS.out HK.out
      · have d2 : decide (n ≤ most) = false := decide_eq_false h2
        have HU := Lib.hid (rdUp_far (most := most) hd (fun e => h2 e.2))
        clear h1 h2
        go_enter Tryz.func56, Tryz.ntmps56
        go_wp2_with fail
        refine HC.out.mono ?_
        rintro e w1 hx
        obtain ⟨rfl, hs, hk⟩ := hx.some hd
        have HK := Lib.hid hk
        clear hx hs hk
        go_wp2_with (first | (go_at_call 48; refine (must_not _).mono ?_; rintro e w' ⟨rfl, rfl⟩))
        exact ⟨rfl, Rgot.no HU.out HK.out⟩
    · have d1 : decide ((0 : Int) ≤ n) = false := decide_eq_false h1
      have HU := Lib.hid (rdUp_far (most := most) hd (fun e => h1 e.1))
      clear h1
      go_enter Tryz.func56, Tryz.ntmps56
      go_wp2_with fail
      refine HC.out.mono ?_
      rintro e w1 hx
      obtain ⟨rfl, hs, hk⟩ := hx.some hd
      have HK := Lib.hid hk
      clear hx hs hk
      go_wp2_with (first | (go_at_call 48; refine (must_not _).mono ?_; rintro e w' ⟨rfl, rfl⟩))
      exact ⟨rfl, Rgot.no HU.out HK.out⟩
end Go.Proofs.YtaengjgmchpabaaGreat.Wr
end
section
/- What every stage wants of memory: blocks known whole, bytes that a loop appends, what fits. For any program with bytes. -/
namespace Go.Proofs.YtaengjgmchpabaaGreat.Kp
open Go Go.RowKit Mem

theorem ret_int {k : IntKind} {a b : Int} (h : a = b) : Ending.returned (.int k a) = .returned (.int k b) := by rw [h]
theorem ret_bool {a b : Bool} (h : a = b) : Ending.returned (.bool a) = .returned (.bool b) := by rw [h]
theorem cell_heap {w : World} {b : Nat} {c : Array Value} {t : TypeId} {f : Nat × Nat} (h : w.heap[b]? = some (.cells c t f)) (i : Nat) : w.cell? ⟨b, i, none⟩ = c[i]? := by
  simp [World.cell?, h]
theorem frozen_heap {w : World} {b : Nat} {c : Array Value} {t : TypeId} (h : w.heap[b]? = some (.cells c t (0, 0))) (i : Nat) : w.frozen? ⟨b, i, none⟩ = false := by
  simp [World.frozen?, h]
theorem heap_set {w : World} {b : Nat} {c : Array Value} {t : TypeId} {f : Nat × Nat} (h : w.heap[b]? = some (.cells c t f)) (i : Nat) (v : Value) : (w.setCell ⟨b, i, none⟩ v).heap[b]? = some (.cells (c.setIfInBounds i v) t f) := by
  simp [World.setCell, Array.getElem?_modify, h]
theorem heap_set_other {w : World} {b : Nat} {o : Obj} (h : w.heap[b]? = some o) {a : Addr} (ha : a.block ≠ b) (v : Value) : (w.setCell a v).heap[b]? = some o := by
  rw [Below.heap_setCell _ _ _ _ (fun e => ha e.symm)]; exact h

theorem infoU8 : (Tryz.prog.info? 5).map (fun i => (i.zero, i.size, i.bytes)) = some (some (.int .u8 0), 1, 1) := by kernel_rfl
theorem eq_nil (w : World) (a : Option Addr) (n c : Nat) : (binOp .eql 25 (.slice a n c) (.slice none 0 0)).run Tryz.prog w = .ok (.bool a.isNone) w := run_eql_nil w _ _ a n c Tryz.underlying25
attribute [local go_sem] eq_nil
/-- new bytes: in a block that was not there, or nil -/
def NewB (l : List Nat) (w : World) (x : Ending) (w' : World) : Prop :=
  ∃ b a cap, x = .returned (.slice a l.length cap) ∧ OwnB 5 w' b a cap l ∧ w.heap.size ≤ b ∧ Kept None w w' ∧ b ≤ w'.heap.size
theorem of_none {b : Nat} : ∀ k, Of none b k → None k := fun _ h => absurd rfl h.1
/-- the head of an array that the call has made -/
theorem shows_made {w : World} {b : Nat} {C : Array Value} {t : TypeId} {f : Nat × Nat} {m : List Nat} {cap : Nat} (h : w.heap[b]? = some (.cells C t f)) (hC : C.toList.take m.length = m.map byteV) (h1 : m.length ≤ cap) (h2 : cap ≤ 9223372036854775807) : Shows w b (some ⟨b, 0, none⟩) cap m := by
  refine ⟨h1, h2, .inr ⟨0, rfl, fun i hi => ?_⟩⟩
  rw [Nat.zero_add, cell_heap h i]
  have e : (C.toList.take m.length)[i]? = (m.map byteV)[i]? := by rw [hC]
  rw [List.getElem?_take_of_lt hi] at e
  rw [← Array.getElem?_toList, e]
  simp [byteV, hi]
theorem shows_lit (w : World) (t : TypeId) (v : Int) (x : Nat) (hv : v = (x : Int)) : Src (w.alloc (.cells #[.int .u8 v] t)) w.heap.size (some ⟨w.heap.size, 0, none⟩) 1 [x] := by
  subst hv
  exact (shows_made (m := [x]) (cap := 1) (heap_alloc_new w _) rfl (Nat.le_refl 1) (by decide)).src
/-- bytes of its own that a loop has appended to: in a block that was not there when the call began -/
def Mine (w wr : World) (v : Value) (l : List Nat) : Prop := ∃ b a cap, v = .slice a l.length cap ∧ OwnB 5 wr b a cap l ∧ w.heap.size ≤ b ∧ b ≤ wr.heap.size ∧ Kept None w wr
theorem Mine.start (w : World) : Mine w w (.slice none 0 0) [] := ⟨w.heap.size, none, 0, rfl, OwnB.nil _ _ _, Nat.le_refl _, Nat.le_refl _, Kept.refl _ _⟩
/-- behind an append (in wa: the world in which it is done) -/
theorem mine_append {w wr wa w' : World} {b b' : Nat} {a a' : Option Addr} {cap' : Nat} {l : List Nat} (hb : w.heap.size ≤ b) (hk : Kept None w wr) (ha : Kept None wr wa) (h2 : OwnB 5 w' b' a' cap' l) (h3 : Kept (Of a b) wa w') (h4 : (b' = b ∧ (a' = none ∨ a ≠ none)) ∨ wa.heap.size ≤ b') :
    Mine w w' (.slice a' l.length cap') l := by
  have k1 : Kept None w w' := (hk.trans ha).trans' h3 (fun x hx => .inr (by rw [hx.2]; exact hb))
  by_cases hn : a' = none
  · subst hn
    exact ⟨w'.heap.size, none, cap', rfl, h2.move _, k1.size, Nat.le_refl _, k1⟩
  · have := (hk.trans ha).size
    exact ⟨b', a', cap', rfl, h2, by rcases h4 with ⟨rfl, _⟩ | h4 <;> omega, Nat.le_of_lt (h2.lt hn), k1⟩
theorem mine_append' {w wr wa w' : World} {b b' n : Nat} {a a' : Option Addr} {cap' : Nat} {l l2 : List Nat} (e : l = l2) (hn : n = l.length) (hb : w.heap.size ≤ b) (hk : Kept None w wr) (ha : Kept None wr wa) (h2 : OwnB 5 w' b' a' cap' l) (h3 : Kept (Of a b) wa w') (h4 : (b' = b ∧ (a' = none ∨ a ≠ none)) ∨ wa.heap.size ≤ b') :
    Mine w w' (.slice a' n cap') l2 := by
  subst e hn; exact mine_append hb hk ha h2 h3 h4
/-- a cell of bytes of its own, set -/
theorem own_set {e : TypeId} {w : World} {b cap : Nat} {l : List Nat} (h : OwnB e w b (some ⟨b, 0, Option.none⟩) cap l) (i : Nat) (x : Nat) (v : Int) (hv : v = (x : Int)) : OwnB e (w.setCell ⟨b, i, Option.none⟩ (.int .u8 v)) b (some ⟨b, 0, Option.none⟩) cap (l.set i x) := by
  subst hv
  rcases h with h | ⟨ha, h1, h2, cur, hh, h3, h4⟩
  · cases h.1
  · refine .inr ⟨rfl, by simpa using h1, h2, _, heap_set hh i _, by simpa using h3, ?_⟩
    rw [Array.toList_setIfInBounds, List.length_set, List.take_set, h4, List.map_set]
    rfl
/-- what is left behind SpoilBytes -/
def Spoilt (b : Nat) (a : Option Addr) (cap n : Nat) (w : World) (x : Ending) (w' : World) : Prop := x = .returned (.tuple #[]) ∧ ∃ l', l'.length = n ∧ OwnB 5 w' b a cap l' ∧ Kept (Of a b) w w'
theorem fits_left {w : World} {bs : Nat} {a : Option Addr} {cap n : Nat} {l : List Nat} (h : Shows w bs a cap l) (hn : n ≤ l.length) : Shows w bs a cap (l.take n) := by
  obtain ⟨h1, h2, h3⟩ := h
  have hl : (l.take n).length = n := by rw [List.length_take]; omega
  refine ⟨by omega, h2, ?_⟩
  rcases h3 with ⟨ha, hl', hc⟩ | ⟨off, ha, hc⟩
  · subst hl'; exact .inl ⟨ha, by simp, hc⟩
  · refine .inr ⟨off, ha, fun i hi => ?_⟩
    rw [hl] at hi
    rw [hc i (by omega)]
    simp [List.getD, hi]
theorem fits_rest {w : World} {bs off cap n : Nat} {l : List Nat} {o2 : Nat} (h : Shows w bs (some ⟨bs, off, none⟩) cap l) (hn : n ≤ l.length) (ho : o2 = off + n ∨ cap = n) : Shows w bs (some ⟨bs, o2, none⟩) (cap - n) (l.drop n) := by
  obtain ⟨h1, h2, h3⟩ := h
  have hl : (l.drop n).length = l.length - n := by rw [List.length_drop]
  refine ⟨by omega, by omega, .inr ⟨o2, rfl, fun i hi => ?_⟩⟩
  rw [hl] at hi
  rcases h3 with ⟨ha, _⟩ | ⟨off', ha, hc⟩
  · cases ha
  · obtain rfl : off = off' := by injection ha with ha; injection ha
    rcases ho with rfl | hcap
    · rw [Nat.add_assoc, hc (n + i) (by omega)]
      simp [List.getD]
    · omega
/-- where the rest begins -/
theorem rest_at (bs off cap n : Nat) : ∃ o2, (if cap = n then some (⟨bs, off, none⟩ : Addr) else some ⟨bs, off + n, none⟩) = some ⟨bs, o2, none⟩ ∧ (o2 = off + n ∨ cap = n) := by
  by_cases h : cap = n
  · exact ⟨off, by rw [if_pos h], .inr h⟩
  · exact ⟨off + n, by rw [if_neg h], .inl rfl⟩
/-- a part of a slice -/
theorem fits_part {w : World} {bs off cap lo hi : Nat} {l : List Nat} {o2 : Nat} (h : Shows w bs (some ⟨bs, off, none⟩) cap l) (h1 : lo ≤ hi) (h2 : hi ≤ l.length) (ho : o2 = off + lo ∨ cap = lo) :
    Shows w bs (some ⟨bs, o2, none⟩) (cap - lo) ((l.drop lo).take (hi - lo)) ∧ ((l.drop lo).take (hi - lo)).length = hi - lo :=
  ⟨fits_left (fits_rest h (by omega) ho) (by rw [List.length_drop]; omega), by rw [List.length_take, List.length_drop]; omega⟩
end Go.Proofs.YtaengjgmchpabaaGreat.Kp
end
