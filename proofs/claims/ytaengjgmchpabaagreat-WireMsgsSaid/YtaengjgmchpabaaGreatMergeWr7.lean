import Derived.Test.YtaengjgmchpabaaGreatMergeWr6
import Derived.Test.YtaengjgmchpabaaGreatMergeWr0
import Derived.Test.YtaengjgmchpabaaGreatMergeWr3
import Derived.Test.YtaengjgmchpabaaGreatMergeWr1
import Derived.Test.YtaengjgmchpabaaGreatMergeWr2
import Derived.WideShapes
import Derived.Lib.ConvBytes
import Derived.Laws.IdiomStrings
section
/- Walks of the Reader: Mark, Float, Text. -/
namespace Go.Proofs.YtaengjgmchpabaaGreat.Pk
open Go Go.RowKit Mem
theorem first_cell {w : World} {bs cap y : Nat} {r : List Nat} {a : Option Addr} (hs : Shows w bs a cap ((y :: r).take 1)) (hn : a = none → y :: r = []) : ∃ off, a = some ⟨bs, off, none⟩ ∧ w.cell? ⟨bs, off, none⟩ = some (.int .u8 y) := by
  rcases hs.2.2 with ⟨ha, _⟩ | ⟨off, ha, hc⟩
  · have := hn ha; cases this
  · exact ⟨off, ha, hc 0 (by simp)⟩
theorem beq_one (y : Nat) : ((y : Int) == 1) = (y == 1) := by rw [Bool.eq_iff_iff]; simp; omega
theorem RAt.ne {w : World} {br bs : Nat} {l : List Nat} {e : Int} (h : RAt w br bs l e) : br ≠ bs := by
  obtain ⟨_, _, _, _, _, h, _⟩ := h; exact h
/-- what Float answers -/
def FltPost (br bs : Nat) (l : List Nat) (e : Int) (w : World) (x : Ending) (w' : World) : Prop :=
  match rdFlt l with
  | some (n, r) => x = .returned (.float .f64 n) ∧ RAt w' br bs r e ∧ Kept (Only br) w w'
  | none => Fell br bs (keep e 3) (.float .f64 0) w x w'
theorem fltPost_none {br bs : Nat} {l : List Nat} {e : Int} {w : World} {x : Ending} {w' : World} (h : rdFlt l = none) (hp : Fell br bs (keep e 3) (.float .f64 0) w x w') : FltPost br bs l e w x w' := by
  unfold FltPost; rw [h]; exact hp
theorem fltPost_some {br bs : Nat} {l r : List Nat} {z : Nat} {e : Int} {w : World} {x : Ending} {w' : World} (h : rdFlt l = some (z, r)) (hx : x = .returned (.float .f64 z)) (hr : RAt w' br bs r e) (hk : Kept (Only br) w w') : FltPost br bs l e w x w' := by
  unfold FltPost; rw [h]; exact ⟨hx, hr, hk⟩
theorem num8_snoc (l : List Nat) (k : Nat) (h : k < l.length) : num8 (l.take (k + 1)) = num8 (l.take k) * 256 + l.getD k 0 := by
  rw [List.take_succ_eq_append_getElem h]
  unfold num8
  rw [List.foldl_append]
  simp [h]
theorem num8_lt (l : List Nat) (h : B8 l) : ∀ k, k ≤ l.length → num8 (l.take k) < 256 ^ k := by
  intro k
  induction k with
  | zero => intro _; simp [num8]
  | succ k ih =>
    intro hk
    rw [num8_snoc l k hk, Nat.pow_succ]
    have := ih (by omega)
    have := h.get k
    omega
theorem num8_step {Z y : Nat} (hZ : Z ≤ 72057594037927935) (hy : y < 256) : bits .or .u64 ((Z : Int) * 256) (y : Int) = ((Z * 256 + y : Nat) : Int) := by
  have := or_low y Z hy (by omega)
  rw [Int.natCast_mul] at this
  exact this
theorem num8_small {l : List Nat} (h : B8 l) {k : Nat} (hk : k ≤ l.length) (h7 : k ≤ 7) : num8 (l.take k) ≤ 72057594037927935 := by
  have h1 := num8_lt l h k hk
  have h2 : 256 ^ k ≤ 256 ^ 7 := Nat.pow_le_pow_right (by decide) h7
  rw [show 256 ^ 7 = 72057594037927936 from rfl] at h2
  omega
attribute [local go_sem] run_bits run_frombits
set_option maxHeartbeats 1000000 in
theorem RFloat_any (br bs : Nat) (l : List Nat) (e : Int) (w : World) (h : RAt w br bs l e) :
    Calls Tryz.prog 111 #[.pointer (some ⟨br, 0, none⟩)] w (FltPost br bs l e w) := by
  have HR := Lib.hid h
  have H8 : Hid (B8 l) := by obtain ⟨_, _, _, _, h8, _⟩ := h; exact h8
  clear h
  by_cases h8 : l.length < 8
  · have h00 : ((0 : Int) != 0) = false := rfl
    go_enter Tryz.func111, Tryz.ntmps111
    go_wp2_with (first | (go_at_call 87; refine (take_no br bs l e 8 _ HR.out (.inr (by omega))).mono ?_; rintro x w' ⟨rfl, h1, h2⟩))
    refine wp_loop_rounds 1 ?_
    rw [rounds_succ]
    go_wp2_with (first | (go_at_call 109; refine (Canon_any _ _).mono ?_; rintro e w' ⟨rfl, rfl⟩))
    go_ret
    exact fltPost_none (by unfold rdFlt; rw [if_pos h8]) ⟨rfl, h1, h2⟩
  · go_enter Tryz.func111, Tryz.ntmps111
    go_wp2_with fail
    refine (take_ok br bs l e 8 _ HR.out (by omega)).mono ?_
    rintro x w1 ⟨a, cap, rfl, hs, hr, hk, hn⟩
    have HR1 := Lib.hid hr
    obtain ⟨off, rfl, hc⟩ : ∃ off, a = some ⟨bs, off, none⟩ ∧ ∀ i, i < 8 → w1.cell? ⟨bs, off + i, none⟩ = some (.int .u8 (l.getD i 0)) := by
      rcases hs.2.2 with ⟨ha, _⟩ | ⟨off, ha, hc⟩
      · have := hn ha; subst this; simp at h8
      · refine ⟨off, ha, fun i hi => ?_⟩
        rw [hc i (by rw [List.length_take]; omega)]
        simp [List.getD, hi]
    have HC := Lib.hid hc
    clear hr hs hn hc
    go_wp2
    go_loop [3, 10] (fun z i => ∃ k Z : Nat, k ≤ 8 ∧ i = .int .i64 k ∧ z = .int .u64 Z ∧ Hid (Z = num8 (l.take k))) (fun _ i => 8 - (intOf i).toNat)
    case atStart => exact ⟨0, 0, by omega, rfl, rfl, rfl⟩
    case round =>
      obtain ⟨k, Z, hk8, rfl, rfl, hz⟩ := hrel
      by_cases hlt : k < 8
      · have hcell := HC.out k hlt
        have hy := H8.out.get k
        have hsn := Lib.hid (num8_snoc l k (by omega))
        have hZ : Z ≤ 72057594037927935 := by rw [hz.out]; exact num8_small H8.out (by omega) (by omega)
        generalize l.getD k 0 = y at *
        have HN := Lib.hid (num8_step hZ hy)
        go_wp2
        go_round
        case rel => exact ⟨k + 1, Z * 256 + y, by omega, by go_num, by rw [HN.out], by show _ = _; rw [hsn.out, hz.out]⟩
        case measure => simp [intOf]; omega
      · obtain rfl : k = 8 := by omega
        obtain ⟨q, hq⟩ : ∃ q, (((Nm.canon Z : Nat) : Int) != (Z : Int)) = q := ⟨_, rfl⟩
        cases q
        · go_wp2_with (first | (go_at_call 109; refine (Canon_any _ _).mono ?_; rintro e w' ⟨rfl, rfl⟩))
          go_ret
          refine fltPost_some ?_ rfl HR1.out hk
          unfold rdFlt
          rw [if_neg h8, ← hz.out, if_pos (by simp at hq; omega)]
        · go_wp2_with (first | (go_at_call 109; refine (Canon_any _ _).mono ?_; rintro e w' ⟨rfl, rfl⟩) | (go_at_call 85; refine (fail_any br bs _ e _ _ HR1.out).mono ?_; rintro x w' ⟨rfl, h1, h2⟩))
          go_ret
          refine fltPost_none ?_ ⟨rfl, h1, hk.trans h2⟩
          unfold rdFlt
          rw [if_neg h8, ← hz.out, if_neg (by simp at hq; omega)]

/-- what Text answers: new bytes (none, where there is an error), what is left, and the error -/
def textOut (l : List Nat) (e : Int) : List Nat × List Nat × Int := match rdText l with
  | .ok (t, r) => (t, r, e)
  | .error x => ([], [], keep e x)
def TextPost (br bs : Nat) (w : World) (o : List Nat × List Nat × Int) (x : Ending) (w' : World) : Prop :=
  ∃ b a cap, x = .returned (.slice a o.1.length cap) ∧ OwnB 5 w' b a cap o.1 ∧ w.heap.size ≤ b ∧ b ≤ w'.heap.size ∧ RAt w' br bs o.2.1 o.2.2 ∧ Kept (Only br) w w'
theorem textOut_err {l : List Nat} {e x : Int} (h : rdText l = .error x) : textOut l e = ([], [], keep e x) := by unfold textOut; rw [h]
theorem textOut_ok {l t r : List Nat} {e : Int} (h : rdText l = .ok (t, r)) : textOut l e = (t, r, e) := by unfold textOut; rw [h]
theorem RAt.kept {w w' : World} {br bs : Nat} {l : List Nat} {e : Int} {S : Nat → Prop} (h : RAt w br bs l e) (hk : Kept S w w') (h1 : ¬ S br) (h2 : l ≠ [] → ¬ S bs) : RAt w' br bs l e := by
  obtain ⟨a, cap, hh, hs, h3⟩ := h
  exact ⟨a, cap, hk.heap hh h1, hs.kept hk h2, h3⟩
theorem RAt.len {w : World} {br bs : Nat} {l : List Nat} {e : Int} (h : RAt w br bs l e) : B8 l ∧ (e ≠ 0 → l = []) := by
  obtain ⟨_, _, _, _, h8, _, he⟩ := h; exact ⟨h8, he⟩
theorem keep_keep (e x y : Int) (hx : x ≠ 0) : keep (keep e x) y = keep e x := by unfold keep; split <;> simp_all
set_option maxHeartbeats 1000000 in
theorem RText_any (br bs : Nat) (l : List Nat) (e : Int) (w : World) (h : RAt w br bs l e) (hl : l.length ≤ 35184372088832) :
    Calls Tryz.prog 77 #[.pointer (some ⟨br, 0, none⟩)] w (TextPost br bs w (textOut l e)) := by
  have HR := Lib.hid h
  have H8 := Lib.hid h.len.1
  clear h
  cases hd : rdInt l with
  | none =>
    have HD := Lib.hid hd
    clear hd
    go_enter Tryz.func77, Tryz.ntmps77
    go_wp2_with fail
    refine (RInt_any br bs l e w HR.out hl).mono ?_
    intro x w1 hp
    unfold IntPost at hp
    rw [HD.out] at hp
    obtain ⟨rfl, h1, h2⟩ := hp
    have HR1 := Lib.hid h1
    have h00 : decide ((16384 : Int) < 0) = false := rfl
    go_wp2_with fail
    refine (take_ok br bs [] (keep e 3) 0 _ HR1.out (Nat.le_refl _)).mono ?_
    rintro x w2 ⟨a, cap, rfl, hs, hr, hk, hn⟩
    have HR2 := Lib.hid hr
    have HS := Lib.hid hs
    clear hr hs hn h1
    go_wp2_with fail
    refine (Clone_any bs a cap [] w2 HS.out.src (by simp)).mono ?_
    rintro x w3 ⟨b3, a3, cap3, rfl, ho, hb3, k3, hb4⟩
    have HO := Lib.hid ho
    clear ho
    go_wp2
    go_ret
    rw [textOut_err (l := l) (x := 3) (by unfold rdText; rw [HD.out])]
    exact ⟨b3, a3, cap3, rfl, HO.out, Nat.le_trans (h2.trans hk).size hb3, hb4, HR2.out.kept k3 (fun h => h) (fun _ h => h), (h2.trans hk).trans k3.ofNone⟩
  | some p =>
    obtain ⟨n, r⟩ := p
    have HD := Lib.hid hd
    clear hd
    have hb := rdInt_sound H8.out HD.out
    have hb1 := hb.2.1
    have hb2 := hb.2.2
    have hr8 : B8 r := fun x hx => H8.out x (by rw [hb.1]; exact List.mem_append_right _ hx)
    have hrl : r.length ≤ l.length := by rw [hb.1]; simp
    clear hb
    go_enter Tryz.func77, Tryz.ntmps77
    go_wp2_with fail
    refine (RInt_any br bs l e w HR.out hl).mono ?_
    intro x w1 hp
    unfold IntPost at hp
    rw [HD.out] at hp
    obtain ⟨rfl, h1, h2⟩ := hp
    have HR1 := Lib.hid h1
    clear h1
    by_cases hbig : 16384 < n
    · go_wp2_with (first | (go_at_call 85; refine (fail_any br bs _ e _ _ HR1.out).mono ?_; rintro x w' ⟨rfl, h1, h3⟩))
      go_ret
      rw [textOut_err (l := l) (x := 2) (by unfold rdText; rw [HD.out]; simp [hbig])]
      exact ⟨w.heap.size, none, 0, rfl, OwnB.nil _ _ _, Nat.le_refl _, (h2.trans h3).size, h1, h2.trans h3⟩
    · have HB := Lib.hid hbig
      by_cases hfew : n < 0 ∨ (r.length : Int) < n
      · have HF := Lib.hid hfew
        clear hfew
        go_wp2_with (first | (go_at_call 87; refine (take_no br bs r e n _ HR1.out HF.out).mono ?_; rintro x w' ⟨rfl, h1, h3⟩) | (go_at_call 67; refine (Clone_nil _).mono ?_; rintro e w' ⟨rfl, rfl⟩))
        go_ret
        rw [textOut_err (l := l) (x := 3) (by unfold rdText; rw [HD.out]; simp only; rw [if_neg (show ¬ (16384 : Int) < _ by have := HB.out; omega), if_pos HF.out])]
        exact ⟨w.heap.size, none, 0, rfl, OwnB.nil _ _ _, Nat.le_refl _, (h2.trans h3).size, h1, h2.trans h3⟩
      · obtain ⟨m, rfl⟩ : ∃ m : Nat, n = m := ⟨n.toNat, by omega⟩
        have hm : m ≤ r.length := by omega
        have HF := Lib.hid hfew
        clear hfew
        go_wp2_with fail
        refine (take_ok br bs r e m _ HR1.out hm).mono ?_
        rintro x w2 ⟨a, cap, rfl, hs, hr, hk, hn⟩
        have HR2 := Lib.hid hr
        have HS := Lib.hid hs
        clear hr hs hn
        have hlen : (r.take m).length = m := by rw [List.length_take]; omega
        have HL := Lib.hid hlen
        clear hlen
        go_wp2_with fail
        have hcl := Clone_any bs a cap (r.take m) w2 HS.out.src (by rw [HL.out]; omega)
        rw [HL.out] at hcl
        refine hcl.mono ?_
        rintro x w3 ⟨b3, a3, cap3, rfl, ho, hb3, k3, hb4⟩
        have HO := Lib.hid ho
        clear ho hcl
        go_wp2
        go_ret
        have e1 : textOut l e = (r.take m, r.drop m, e) := textOut_ok (by unfold rdText; rw [HD.out]; simp only; rw [if_neg (show ¬ (16384 : Int) < _ by have := HB.out; omega), if_neg HF.out]; simp)
        rw [e1]
        exact ⟨b3, a3, cap3, by rw [HL.out]; rfl, HO.out, Nat.le_trans (h2.trans hk).size hb3, hb4, HR2.out.kept k3 (fun h => h) (fun _ h => h), (h2.trans hk).trans k3.ofNone⟩
end Go.Proofs.YtaengjgmchpabaaGreat.Pk
end
section
/- A Reader of the call's own: each method, as one step. -/
namespace Go.Proofs.YtaengjgmchpabaaGreat.Pk
open Go Go.RowKit Mem
def OwnR (w wr : World) (br : Nat) (l : List Nat) (e : Int) : Prop := ∃ bs, RAt wr br bs l e ∧ w.heap.size ≤ br ∧ w.heap.size ≤ bs ∧ Kept None w wr
def intOut (l : List Nat) (e : Int) : Int × List Nat × Int := match rdInt l with | some (n, r) => (n, r, e) | none => (0, [], keep e 3)
def markOut (l : List Nat) (e : Int) : Bool × List Nat × Int := match rdMark l with | some (n, r) => (n, r, e) | none => (false, [], keep e 3)
def fltOut (l : List Nat) (e : Int) : Nat × List Nat × Int := match rdFlt l with | some (n, r) => (n, r, e) | none => (0, [], keep e 3)
theorem OwnR.keeps {w wr : World} {br : Nat} {l : List Nat} {e : Int} (h : OwnR w wr br l e) : Kept None w wr ∧ B8 l ∧ (e ≠ 0 → l = []) := by obtain ⟨_, h1, _, _, h2⟩ := h; exact ⟨h2, h1.len⟩
theorem OwnR.kept {w wr w' : World} {br : Nat} {l : List Nat} {e : Int} (h : OwnR w wr br l e) (hk : Kept None wr w') : OwnR w w' br l e := by
  obtain ⟨bs, h1, h2, h3, h4⟩ := h
  exact ⟨bs, h1.kept hk (fun h => h) (fun _ h => h), h2, h3, h4.trans hk⟩
theorem OwnR.step {w wr w' : World} {br bs : Nat} {l : List Nat} {e : Int} (h1 : RAt w' br bs l e) (h2 : w.heap.size ≤ br) (h3 : w.heap.size ≤ bs) (h4 : Kept None w wr) (hk : Kept (Only br) wr w') : OwnR w w' br l e :=
  ⟨bs, h1, h2, h3, h4.trans' hk (fun x hx => .inr (by cases hx; exact h2))⟩
theorem NewReader_own (w wr : World) (hk : Kept None w wr) (b : Nat) (a : Option Addr) (cap : Nat) (l : List Nat) (h : Src wr b a cap l) (hl : l.length ≤ 35184372088832) (h8 : B8 l) :
    Calls Tryz.prog 49 #[.slice a l.length cap] wr fun x w' => ∃ br, x = .returned (.pointer (some ⟨br, 0, none⟩)) ∧ OwnR w w' br l 0 ∧ Kept None wr w' :=
  (NewReader_any b a cap l wr h hl h8).mono fun _ _ ⟨br, bs, hx, hr, h1, h2, hk2⟩ => ⟨br, hx, ⟨bs, hr, Nat.le_trans hk.size h1, Nat.le_trans hk.size h2, hk.trans hk2⟩, hk2⟩
theorem RInt_own (w wr : World) (br : Nat) (l : List Nat) (e : Int) (h : OwnR w wr br l e) (hl : l.length ≤ 35184372088832) :
    Calls Tryz.prog 73 #[.pointer (some ⟨br, 0, none⟩)] wr fun x w' => x = .returned (.int .i64 (intOut l e).1) ∧ OwnR w w' br (intOut l e).2.1 (intOut l e).2.2 := by
  obtain ⟨bs, h1, h2, h3, h4⟩ := h
  refine (RInt_any br bs l e wr h1 hl).mono fun x w' hp => ?_
  unfold IntPost at hp
  unfold intOut
  cases hd : rdInt l with
  | none => rw [hd] at hp; exact ⟨hp.1, OwnR.step hp.2.1 h2 h3 h4 hp.2.2⟩
  | some p => rw [hd] at hp; exact ⟨hp.1, OwnR.step hp.2.1 h2 h3 h4 hp.2.2⟩
theorem RFloat_own (w wr : World) (br : Nat) (l : List Nat) (e : Int) (h : OwnR w wr br l e) :
    Calls Tryz.prog 111 #[.pointer (some ⟨br, 0, none⟩)] wr fun x w' => x = .returned (.float .f64 (fltOut l e).1) ∧ OwnR w w' br (fltOut l e).2.1 (fltOut l e).2.2 := by
  obtain ⟨bs, h1, h2, h3, h4⟩ := h
  refine (RFloat_any br bs l e wr h1).mono fun x w' hp => ?_
  unfold FltPost at hp
  unfold fltOut
  cases hd : rdFlt l with
  | none => rw [hd] at hp; exact ⟨hp.1, OwnR.step hp.2.1 h2 h3 h4 hp.2.2⟩
  | some p => rw [hd] at hp; exact ⟨hp.1, OwnR.step hp.2.1 h2 h3 h4 hp.2.2⟩
/-- what Text answers, of a Reader of the call's own -/
def TextOwn (w wr : World) (br : Nat) (l : List Nat) (e : Int) (x : Ending) (w' : World) : Prop :=
  ∃ b a cap, x = .returned (.slice a (textOut l e).1.length cap) ∧ OwnB 5 w' b a cap (textOut l e).1 ∧ wr.heap.size ≤ b ∧ b ≤ w'.heap.size ∧ OwnR w w' br (textOut l e).2.1 (textOut l e).2.2 ∧ Kept (Only br) wr w'
theorem RText_own (w wr : World) (br : Nat) (l : List Nat) (e : Int) (h : OwnR w wr br l e) (hl : l.length ≤ 35184372088832) :
    Calls Tryz.prog 77 #[.pointer (some ⟨br, 0, none⟩)] wr (TextOwn w wr br l e) := by
  obtain ⟨bs, h1, h2, h3, h4⟩ := h
  exact (RText_any br bs l e wr h1 hl).mono fun x w' ⟨b, a, cap, hx, ho, hb, hb2, hr, hk⟩ => ⟨b, a, cap, hx, ho, hb, hb2, OwnR.step hr h2 h3 h4 hk, hk⟩
end Go.Proofs.YtaengjgmchpabaaGreat.Pk
end
section
/- Cut out of SessMath so that every seat fills it. -/
namespace Go.Proofs.YtaengjgmchpabaaGreat.Ss
open Go Go.RowKit Vl Kv Mem
def bl (s : ByteArray) : List Nat := s.data.toList.map UInt8.toNat
def lb (l : List Nat) : ByteArray := ⟨(l.map UInt8.ofNat).toArray⟩
theorem lb_bl (s : ByteArray) : lb (bl s) = s := by
  unfold lb bl
  rw [List.map_map]
  have : (UInt8.ofNat ∘ UInt8.toNat) = id := by funext x; simp
  rw [this, List.map_id]
theorem bl_length (s : ByteArray) : (bl s).length = s.size := by unfold bl; rw [List.length_map]; rfl
theorem bl_b8 (s : ByteArray) : B8 (bl s) := by
  intro x hx
  obtain ⟨y, _, rfl⟩ := List.mem_map.1 hx
  exact y.toNat_lt
theorem bl_lb {l : List Nat} (h : B8 l) : bl (lb l) = l := by
  unfold bl lb
  simp only
  rw [List.map_map]
  induction l with
  | nil => rfl
  | cons x r ih =>
    have h1 := h x (List.mem_cons_self ..)
    rw [List.map_cons, ih (fun y hy => h y (List.mem_cons_of_mem _ hy))]
    congr 1
    show (UInt8.ofNat x).toNat = x
    rw [UInt8.toNat_ofNat']
    omega
theorem lb_nil : lb [] = (⟨#[]⟩ : ByteArray) := rfl
theorem bl_nil : bl (⟨#[]⟩ : ByteArray) = [] := rfl

def valB (v : V) : List Nat := Pk.intB v.kind ++ (if v.kind = 1 then Pk.fltB v.num else if v.kind = 2 then Pk.textB (bl v.text) else [])
theorem textB_b8 {t : List Nat} (h : B8 t) : B8 (Pk.textB t) := B8.append (Pk.intB_b8 _) h
theorem fltB_b8 (x : Nat) : B8 (Pk.fltB x) := Pk.high8_b8 _
theorem valB_b8 (v : V) : B8 (valB v) := by
  unfold valB
  refine B8.append (Pk.intB_b8 _) ?_
  split
  · exact fltB_b8 _
  · split
    · exact textB_b8 (bl_b8 _)
    · exact B8.nil
theorem flat_b8 {α : Type} {f : α → List Nat} (h : ∀ a, B8 (f a)) (L : List α) : B8 (L.flatMap f) := by
  intro x hx
  obtain ⟨a, _, ha⟩ := List.mem_flatMap.1 hx
  exact h a x ha
theorem textB_len (t : List Nat) : (Pk.textB t).length ≤ t.length + 10 := by
  unfold Pk.textB; rw [List.length_append]; have := (Pk.intB_len t.length).2; omega
theorem valB_len {v : V} (h : v.text.size ≤ 32) : (valB v).length ≤ 52 := by
  unfold valB
  rw [List.length_append]
  have := (Pk.intB_len v.kind).2
  split
  · have : (Pk.fltB v.num).length = 8 := rfl
    omega
  · split
    · have := textB_len (bl v.text)
      rw [bl_length] at this
      omega
    · simp; omega
theorem short_text {v : V} (h : v.check = 0) : v.text.size ≤ 32 := by
  obtain ⟨h0, h1, h2, _⟩ := check_zero h
  by_cases e : v.kind = 2
  · exact h1 e
  · have := h2 e; omega
theorem flat_len {α : Type} {f : α → List Nat} {n : Nat} {L : List α} (h : ∀ a ∈ L, (f a).length ≤ n) : (L.flatMap f).length ≤ L.length * n := by
  induction L with
  | nil => simp
  | cons a r ih =>
    rw [List.flatMap_cons, List.length_append, List.length_cons, Nat.succ_mul]
    have := h a (List.mem_cons_self ..)
    have := ih (fun b hb => h b (List.mem_cons_of_mem _ hb))
    omega
def rdV (l : List Nat) (e : Int) : V × List Nat × Int :=
  if (Pk.intOut l e).1 = 1 then (⟨(Pk.intOut l e).1, (Pk.fltOut (Pk.intOut l e).2.1 (Pk.intOut l e).2.2).1, ⟨#[]⟩⟩, (Pk.fltOut (Pk.intOut l e).2.1 (Pk.intOut l e).2.2).2)
  else if (Pk.intOut l e).1 = 2 then (⟨(Pk.intOut l e).1, 0, lb (Pk.textOut (Pk.intOut l e).2.1 (Pk.intOut l e).2.2).1⟩, (Pk.textOut (Pk.intOut l e).2.1 (Pk.intOut l e).2.2).2)
  else (⟨(Pk.intOut l e).1, 0, ⟨#[]⟩⟩, (Pk.intOut l e).2)
def rdN {α : Type} (f : List Nat → Int → α × List Nat × Int) (l : List Nat) (e : Int) : Nat → List α × List Nat × Int
  | 0 => ([], l, e)
  | n + 1 => ((rdN f l e n).1 ++ [(f (rdN f l e n).2.1 (rdN f l e n).2.2).1], (f (rdN f l e n).2.1 (rdN f l e n).2.2).2)
theorem rdN_length {α : Type} (f : List Nat → Int → α × List Nat × Int) (l : List Nat) (e : Int) (n : Nat) : (rdN f l e n).1.length = n := by
  induction n with
  | zero => rfl
  | succ n ih => show ((rdN f l e n).1 ++ [_]).length = _; rw [List.length_append, ih]; rfl
theorem intOut_enc {n : Int} (h1 : -9223372036854775808 ≤ n) (h2 : n ≤ 9223372036854775807) (r : List Nat) (e : Int) : Pk.intOut (Pk.intB n ++ r) e = (n, r, e) := by
  unfold Pk.intOut; rw [Pk.rdInt_enc h1 h2]
theorem fltOut_enc {x : Nat} (hx : x < 18446744073709551616) (r : List Nat) (e : Int) : Pk.fltOut (Pk.fltB x ++ r) e = (Nm.canon x, r, e) := by
  unfold Pk.fltOut; rw [Pk.rdFlt_enc hx]
theorem textOut_enc {t : List Nat} (h : t.length ≤ 16384) (r : List Nat) (e : Int) : Pk.textOut (Pk.textB t ++ r) e = (t, r, e) := by
  unfold Pk.textOut; rw [Pk.rdText_enc h]
theorem rdV_enc {v : V} (h : v.check = 0) (hn : v.num < 18446744073709551616) (r : List Nat) (e : Int) : rdV (valB v ++ r) e = (v, r, e) := by
  obtain ⟨h0, _, h2, h3, h4⟩ := check_zero h
  have h32 := short_text h
  have hk : -9223372036854775808 ≤ v.kind ∧ v.kind ≤ 9223372036854775807 := by omega
  unfold rdV valB
  rw [List.append_assoc, intOut_enc hk.1 hk.2]
  dsimp only
  by_cases e1 : v.kind = 1
  · rw [if_pos e1, if_pos e1, fltOut_enc hn, h4]
    have := empty_of (h2 (by omega))
    obtain ⟨k, n, t⟩ := v
    simp only at this
    rw [this]
  · rw [if_neg e1, if_neg e1]
    have hz := h3 e1
    by_cases e2 : v.kind = 2
    · rw [if_pos e2, if_pos e2, textOut_enc (by rw [bl_length]; omega), lb_bl]
      obtain ⟨k, n, t⟩ := v
      simp only at hz
      rw [hz]
    · rw [if_neg e2, if_neg e2]
      have := empty_of (h2 e2)
      obtain ⟨k, n, t⟩ := v
      simp only at this hz
      rw [this, hz]
      rfl
theorem rdN_enc {α : Type} {f : List Nat → Int → α × List Nat × Int} {g : α → List Nat} {L : List α} (h : ∀ a ∈ L, ∀ r e, f (g a ++ r) e = (a, r, e)) (r : List Nat) (e : Int) :
    ∀ k, k ≤ L.length → rdN f (L.flatMap g ++ r) e k = (L.take k, (L.drop k).flatMap g ++ r, e) := by
  intro k
  induction k with
  | zero => intro _; rfl
  | succ k ih =>
    intro hk
    have hlt : k < L.length := by omega
    unfold rdN
    rw [ih (by omega)]
    dsimp only
    rw [List.drop_eq_getElem_cons hlt, List.flatMap_cons, List.append_assoc, h _ (List.getElem_mem hlt)]
    rw [List.take_succ_eq_append_getElem hlt]
theorem rdN_all {α : Type} {f : List Nat → Int → α × List Nat × Int} {g : α → List Nat} {L : List α} (h : ∀ a ∈ L, ∀ r e, f (g a ++ r) e = (a, r, e)) (r : List Nat) (e : Int) : rdN f (L.flatMap g ++ r) e L.length = (L, r, e) := by
  rw [rdN_enc h r e L.length (Nat.le_refl _), List.take_length, List.drop_length]
  rfl
end Go.Proofs.YtaengjgmchpabaaGreat.Ss
end
section
/- Cut out of SessStr so that every seat fills it. Texts as bytes, and back: the two conversions; a Writer and a Reader beside other blocks. -/
namespace Go.Proofs.YtaengjgmchpabaaGreat.Ss
open Go Go.RowKit Vl Kv Mem

theorem strOfNums_lb (l : List Nat) : strOfNums (l.map Int.ofNat) = lb l := by
  unfold strOfNums lb
  rw [List.map_map]
  congr 2
theorem run_lb (w : World) (b : Nat) (a : Option Addr) (cap n : Nat) (l : List Nat) (hn : n = l.length) (h : OwnB 5 w b a cap l) :
    (convert 25 9 (.slice a n cap)).run Tryz.prog w = .ok (.string (lb l)) w := by
  subst hn
  have hc := h
  rcases h with ⟨rfl, rfl, h3⟩ | ⟨rfl, _, _, _⟩
  · have : l = [] := by simpa using h3
    subst this
    exact run_convert_bytes_nil w _ _ Tryz.underlying25 Tryz.underlying5 _ _ _ Tryz.underlying9
  · rw [run_convert_bytes_arg w 25 5 Tryz.underlying25 Tryz.underlying5 b 0 l.length cap (l.map Int.ofNat) (by simp) (fun i hi => by
      rw [Nat.zero_add, hc.cellAt i hi]
      simp [hi]) _ Tryz.underlying9, strOfNums_lb]
theorem run_bl (w : World) (s : ByteArray) : (convert 9 25 (.string s)).run Tryz.prog w = .ok (.slice (some ⟨w.heap.size, 0, none⟩) s.size (grownCap w s.size 0 5)) (Lib.bytesWorld w 5 s) :=
  Lib.run_convert_string_bytes w _ _ _ s Tryz.underlying9 Tryz.underlying25 Tryz.underlying5
theorem bytesW_beh (w : World) (s : ByteArray) : Beh w (Lib.bytesWorld w 5 s) :=
  ⟨rfl, rfl, rfl, by rw [Lib.bytesWorld_size]; omega, fun k hk => Lib.bytesWorld_at_old w _ s k hk⟩
theorem bytesW_src (w : World) (s : ByteArray) (hs : s.size ≤ 16384) : Shows (Lib.bytesWorld w 5 s) w.heap.size (some ⟨w.heap.size, 0, none⟩) (grownCap w s.size 0 5) (bl s) := by
  have h1 := grownCap_ge w s.size 0 5
  have h2 := grownCap_le_maxLen w s.size 0 5 (by unfold maxLen; omega)
  refine ⟨by rw [bl_length]; exact h1, by unfold maxLen at h2; omega, .inr ⟨0, rfl, fun i hi => ?_⟩⟩
  rw [bl_length] at hi
  rw [Nat.zero_add, Lib.bytesWorld_cell w _ s i hi]
  have e : s.data[i]? = some s.data[i] := Array.getElem?_eq_getElem hi
  unfold bl
  simp [List.getD, e]

theorem cellOn {w w' : World} (hb : Beh w w') {a : Addr} {v : Value} (h : w.cell? a = some v) : w'.cell? a = some v :=
  (World.cell?_of_block (w := w) (hb.below.block a.block (World.block_lt_of_cell? w _ h))).trans h
/-! ### a Writer beside other blocks -/
def OwnX (w0 wr : World) (bw : Nat) (l : List Nat) (F : List (Nat × Obj)) : Prop :=
  ∃ S, Pk.WAt wr bw S l ∧ (∀ k, S k → w0.heap.size ≤ k) ∧ Kept None w0 wr ∧ ∀ x ∈ F, wr.heap[x.1]? = some x.2 ∧ ¬ S x.1
theorem kept_beh {w w' : World} (h : Beh w w') : Kept None w w' := Kept.of_below h
theorem beh_kept {w w' : World} (h : Kept None w w') : Beh w w' := h.below (Nat.le_refl _) (fun _ h => h.elim)
theorem OwnX.beh {w0 wr : World} {bw : Nat} {l : List Nat} {F : List (Nat × Obj)} (h : OwnX w0 wr bw l F) : Beh w0 wr := by
  obtain ⟨_, _, _, h, _⟩ := h; exact beh_kept h
theorem OwnX.get {w0 wr : World} {bw : Nat} {l : List Nat} {F : List (Nat × Obj)} (h : OwnX w0 wr bw l F) {n : Nat} {o : Obj} (hx : (n, o) ∈ F) : wr.heap[n]? = some o := by
  obtain ⟨_, _, _, _, h⟩ := h; exact (h _ hx).1
theorem OwnX.put {w0 wr w' : World} {bw : Nat} {l m : List Nat} {F : List (Nat × Obj)} {S : Nat → Prop} {x : Ending} (_h1 : Pk.WAt wr bw S l) (h2 : ∀ k, S k → w0.heap.size ≤ k) (h3 : Kept None w0 wr) (h4 : ∀ x ∈ F, wr.heap[x.1]? = some x.2 ∧ ¬ S x.1)
    (hp : Pk.Put bw S m wr x w') : x = .returned (.tuple #[]) ∧ OwnX w0 w' bw m F := by
  obtain ⟨hx, p1, p2⟩ := hp
  have hs := h3.size
  refine ⟨hx, _, p1, fun k hk => hk.elim (h2 k) (fun h => by omega), h3.trans' p2 (fun x hx => .inr (h2 x hx)), fun x hxF => ?_⟩
  obtain ⟨a, b⟩ := h4 x hxF
  have hlt := heap_lt a
  exact ⟨p2.heap a b, fun e => e.elim b (fun h => by omega)⟩
theorem OwnX.on {w0 wr w' : World} {bw : Nat} {l : List Nat} {F : List (Nat × Obj)} (h : OwnX w0 wr bw l F) (hb : Beh wr w') : OwnX w0 w' bw l F := by
  obtain ⟨S, h1, h2, h3, h4⟩ := h
  exact ⟨S, h1.kept (kept_beh hb) (fun _ _ h => h), h2, h3.trans (kept_beh hb), fun x hx => ⟨hb.box (h4 x hx).1, (h4 x hx).2⟩⟩
theorem OwnX.more {w0 wr : World} {bw : Nat} {l : List Nat} {F : List (Nat × Obj)} (h : OwnX w0 wr bw l F) (o : Obj) : OwnX w0 (wr.alloc o) bw l ((wr.heap.size, o) :: F) := by
  obtain ⟨S, h1, h2, h3, h4⟩ := h
  have hk : Kept None wr (wr.alloc o) := (Kept.refl _ _).alloc _
  refine ⟨S, h1.kept hk (fun _ _ h => h), h2, h3.trans hk, fun x hx => ?_⟩
  rcases List.mem_cons.1 hx with rfl | hx
  · exact ⟨alloc_here _ rfl, fun e => by have := h1.2.1 _ e; omega⟩
  · exact ⟨old_alloc _ (h4 x hx).1, (h4 x hx).2⟩
theorem OwnX.less {w0 wr : World} {bw : Nat} {l : List Nat} {F G : List (Nat × Obj)} (h : OwnX w0 wr bw l F) (hg : ∀ x ∈ G, x ∈ F) : OwnX w0 wr bw l G := by
  obtain ⟨S, h1, h2, h3, h4⟩ := h
  exact ⟨S, h1, h2, h3, fun x hx => h4 x (hg x hx)⟩
theorem WAt.new {T : TypeId} (w : World) : Pk.WAt (w.alloc (.cells #[.pointer none, .int .i64 0, .bool false] T)) w.heap.size (Only w.heap.size) [] := Pk.WAt.new w
theorem OwnX.new {T : TypeId} {w0 wr : World} (h : Beh w0 wr) {F : List (Nat × Obj)} (hF : ∀ x ∈ F, wr.heap[x.1]? = some x.2) : OwnX w0 (wr.alloc (.cells #[.pointer none, .int .i64 0, .bool false] T)) wr.heap.size [] F :=
  ⟨_, WAt.new wr, fun k hk => by cases hk; exact h.size, (kept_beh h).alloc _, fun x hx => ⟨old_alloc _ (hF x hx), fun e => by
    have h1 : x.1 = wr.heap.size := e
    have := heap_lt (hF x hx); omega⟩⟩
theorem wInt {w0 wr : World} {bw : Nat} {l : List Nat} {F : List (Nat × Obj)} (h : OwnX w0 wr bw l F) {n : Int} (h1 : -9223372036854775808 ≤ n) (h2 : n ≤ 9223372036854775807) (hl : l.length ≤ 100000) :
    Calls Tryz.prog 35 #[.pointer (some ⟨bw, 0, none⟩), .int .i64 n] wr fun x w' => x = .returned (.tuple #[]) ∧ OwnX w0 w' bw (l ++ Pk.intB n) F := by
  obtain ⟨S, a, b, c, d⟩ := h
  exact (Pk.WInt_any bw S l n wr a h1 h2 (by omega)).mono fun x w' hp => OwnX.put a b c d hp
theorem wFloat {w0 wr : World} {bw : Nat} {l : List Nat} {F : List (Nat × Obj)} (h : OwnX w0 wr bw l F) {n : Nat} (hl : l.length ≤ 100000) :
    Calls Tryz.prog 102 #[.pointer (some ⟨bw, 0, none⟩), .float .f64 n] wr fun x w' => x = .returned (.tuple #[]) ∧ OwnX w0 w' bw (l ++ Pk.fltB n) F := by
  obtain ⟨S, a, b, c, d⟩ := h
  exact (Pk.WFloat_any bw S l n wr a (by omega)).mono fun x w' hp => OwnX.put a b c d hp
/-- Text of a string's bytes -/
theorem wText {w0 wr : World} {bw : Nat} {l : List Nat} {F : List (Nat × Obj)} (h : OwnX w0 wr bw l F) (s : ByteArray) (hs : s.size ≤ 16384) (hl : l.length ≤ 100000) :
    Calls Tryz.prog 39 #[.pointer (some ⟨bw, 0, none⟩), .slice (some ⟨wr.heap.size, 0, none⟩) s.size (grownCap wr s.size 0 5)] (Lib.bytesWorld wr 5 s) fun x w' => x = .returned (.tuple #[]) ∧ OwnX w0 w' bw (l ++ Pk.textB (bl s)) F := by
  have hb := bytesW_beh wr s
  obtain ⟨S, a, b, c, d⟩ := h
  have a2 := a.kept (kept_beh hb) (fun _ _ h => h)
  have := Pk.WText_any bw S l (Lib.bytesWorld wr 5 s) a2 wr.heap.size _ _ (bl s) (bytesW_src wr s hs).src (fun _ e => by have := a.2.1 _ e; omega) (bl_b8 s) (by rw [bl_length]; exact hs) (by omega)
  rw [bl_length] at this
  exact this.mono fun x w' hp => OwnX.put a2 b (c.trans (kept_beh hb)) (fun x hx => ⟨hb.box (d x hx).1, (d x hx).2⟩) hp
theorem wTextAt {w0 wr w2 : World} {bw n cap : Nat} {l : List Nat} {F : List (Nat × Obj)} (h : OwnX w0 wr bw l F) (s : ByteArray) (hs : s.size ≤ 16384) (hl : l.length ≤ 100000) (hw : w2 = Lib.bytesWorld wr 5 s) (hn : n = wr.heap.size) (hc : cap = grownCap wr s.size 0 5) :
    Calls Tryz.prog 39 #[.pointer (some ⟨bw, 0, none⟩), .slice (some ⟨n, 0, none⟩) s.size cap] w2 fun x w' => x = .returned (.tuple #[]) ∧ OwnX w0 w' bw (l ++ Pk.textB (bl s)) F := by
  subst hw hn hc
  exact wText h s hs hl
theorem wBytes {w0 wr : World} {bw : Nat} {l : List Nat} {F : List (Nat × Obj)} (h : OwnX w0 wr bw l F) (hl : l.length ≤ 100000) :
    Calls Tryz.prog 34 #[.pointer (some ⟨bw, 0, none⟩)] wr fun x w' => ∃ b a cap, x = .returned (.tuple #[.slice a l.length cap, .int .i64 0]) ∧ OwnB 5 w' b a cap l ∧ wr.heap.size ≤ b ∧ Beh wr w' := by
  obtain ⟨S, a, b, c, d⟩ := h
  exact (Pk.WBytes_any bw S l wr a (by omega)).mono fun x w' ⟨b, a, cap, hx, ho, hb, _, hk⟩ => ⟨b, a, cap, hx, ho, hb, beh_kept hk⟩

/-! ### a Reader: each method, as one step -/
theorem rInt {wr : World} {br bs : Nat} {l : List Nat} {e : Int} (h : Pk.RAt wr br bs l e) (hl : l.length ≤ 100000) :
    Calls Tryz.prog 73 #[.pointer (some ⟨br, 0, none⟩)] wr fun x w' => x = .returned (.int .i64 (Pk.intOut l e).1) ∧ Pk.RAt w' br bs (Pk.intOut l e).2.1 (Pk.intOut l e).2.2 ∧ Kept (Only br) wr w' := by
  refine (Pk.RInt_any br bs l e wr h (by omega)).mono fun x w' hp => ?_
  unfold Pk.IntPost at hp
  unfold Pk.intOut
  cases hd : Pk.rdInt l with
  | none => rw [hd] at hp; exact ⟨hp.1, hp.2.1, hp.2.2⟩
  | some p => rw [hd] at hp; exact ⟨hp.1, hp.2.1, hp.2.2⟩
theorem rFloat {wr : World} {br bs : Nat} {l : List Nat} {e : Int} (h : Pk.RAt wr br bs l e) :
    Calls Tryz.prog 111 #[.pointer (some ⟨br, 0, none⟩)] wr fun x w' => x = .returned (.float .f64 (Pk.fltOut l e).1) ∧ Pk.RAt w' br bs (Pk.fltOut l e).2.1 (Pk.fltOut l e).2.2 ∧ Kept (Only br) wr w' := by
  refine (Pk.RFloat_any br bs l e wr h).mono fun x w' hp => ?_
  unfold Pk.FltPost at hp
  unfold Pk.fltOut
  cases hd : Pk.rdFlt l with
  | none => rw [hd] at hp; exact ⟨hp.1, hp.2.1, hp.2.2⟩
  | some p => rw [hd] at hp; exact ⟨hp.1, hp.2.1, hp.2.2⟩
theorem rText {wr : World} {br bs : Nat} {l : List Nat} {e : Int} (h : Pk.RAt wr br bs l e) (hl : l.length ≤ 100000) :
    Calls Tryz.prog 77 #[.pointer (some ⟨br, 0, none⟩)] wr fun x w' => ∃ b a cap, x = .returned (.slice a (Pk.textOut l e).1.length cap) ∧ OwnB 5 w' b a cap (Pk.textOut l e).1 ∧ Pk.RAt w' br bs (Pk.textOut l e).2.1 (Pk.textOut l e).2.2 ∧ Kept (Only br) wr w' :=
  (Pk.RText_any br bs l e wr h (by omega)).mono fun x w' ⟨b, a, cap, hx, ho, _, _, hr, hk⟩ => ⟨b, a, cap, hx, ho, hr, hk⟩
end Go.Proofs.YtaengjgmchpabaaGreat.Ss
end
