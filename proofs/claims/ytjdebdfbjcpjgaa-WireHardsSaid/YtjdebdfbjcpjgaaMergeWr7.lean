import Derived.Test.YtjdebdfbjcpjgaaMergeWr6
import Derived.Test.YtjdebdfbjcpjgaaClone
import Derived.LoopTactic
section
/- A Writer of the call's own. -/
namespace Go.Proofs.Ytjdebdfbjcpjgaa.Pk
open Go Go.RowKit Mem
attribute [local go_sem] run_bits run_frombits
theorem WAt.new {T : TypeId} (w : World) : WAt (w.alloc (.cells #[.pointer none, .int .i64 0, .bool false] T)) w.heap.size (Only w.heap.size) [] :=
  ⟨rfl, fun k hk => by cases hk; simp, B8.nil, T, .inl ⟨heap_alloc_new w _, rfl⟩⟩
/-- A Writer of the call's own (w: the world in which the call began). -/
def OwnW (w wr : World) (bw : Nat) (l : List Nat) : Prop := ∃ S, WAt wr bw S l ∧ (∀ k, S k → w.heap.size ≤ k) ∧ Kept None w wr
theorem OwnW.new {T : TypeId} (w wr : World) (h : Kept None w wr) : OwnW w (wr.alloc (.cells #[.pointer none, .int .i64 0, .bool false] T)) wr.heap.size [] :=
  ⟨_, WAt.new wr, fun k hk => by cases hk; exact h.size, h.alloc _⟩
theorem OwnW.put {w wr w' : World} {bw : Nat} {S : Nat → Prop} {l : List Nat} {x : Ending} (hs : ∀ k, S k → w.heap.size ≤ k) (hk : Kept None w wr) (h : Put bw S l wr x w') : x = .returned (.tuple #[]) ∧ OwnW w w' bw l := by
  obtain ⟨hx, h1, h2⟩ := h
  have := hk.size
  exact ⟨hx, _, h1, fun k hk => hk.elim (hs k) (fun h => by omega), hk.trans' h2 (fun x hx => .inr (hs x hx))⟩
theorem OwnW.kept {w wr w' : World} {bw : Nat} {l : List Nat} (h : OwnW w wr bw l) (hk : Kept None wr w') : OwnW w w' bw l := by
  obtain ⟨S, h1, h2, h3⟩ := h
  exact ⟨S, h1.kept hk (fun _ _ h => h), h2, h3.trans hk⟩
theorem OwnW.keeps {w wr : World} {bw : Nat} {l : List Nat} (h : OwnW w wr bw l) : Kept None w wr ∧ B8 l := by obtain ⟨S, h1, h2, h3⟩ := h; exact ⟨h3, h1.2.2.1⟩
theorem WInt_own (w wr : World) (bw : Nat) (l : List Nat) (n : Int) (h : OwnW w wr bw l) (h1 : -9223372036854775808 ≤ n) (h2 : n ≤ 9223372036854775807) (hlen : l.length ≤ 35184372088832) :
    Calls Try.prog 68 #[.pointer (some ⟨bw, 0, none⟩), .int .i64 n] wr fun x w' => x = .returned (.tuple #[]) ∧ OwnW w w' bw (l ++ intB n) := by
  obtain ⟨S, hw, hs, hk⟩ := h
  exact (WInt_any bw S l n wr hw h1 h2 hlen).mono fun x w' hp => OwnW.put hs hk hp
theorem WFloat_own (w wr : World) (bw : Nat) (l : List Nat) (x : Nat) (h : OwnW w wr bw l) (hlen : l.length ≤ 35184372088832) :
    Calls Try.prog 114 #[.pointer (some ⟨bw, 0, none⟩), .float .f64 x] wr fun x' w' => x' = .returned (.tuple #[]) ∧ OwnW w w' bw (l ++ fltB x) := by
  obtain ⟨S, hw, hs, hk⟩ := h
  exact (WFloat_any bw S l x wr hw hlen).mono fun x w' hp => OwnW.put hs hk hp
/-- what Bytes answers, of a Writer of the call's own -/
def BytesOwn (w wr : World) (bw : Nat) (l : List Nat) (x : Ending) (w' : World) : Prop :=
  ∃ b a cap, x = .returned (.tuple #[.slice a l.length cap, .int .i64 0]) ∧ OwnB 5 w' b a cap l ∧ wr.heap.size ≤ b ∧ b ≤ w'.heap.size ∧ OwnW w w' bw l ∧ Kept None wr w'
theorem WBytes_own (w wr : World) (bw : Nat) (l : List Nat) (h : OwnW w wr bw l) (hlen : l.length ≤ 35184372088832) :
    Calls Try.prog 65 #[.pointer (some ⟨bw, 0, none⟩)] wr (BytesOwn w wr bw l) := by
  have h0 := h
  obtain ⟨S, hw, hs, hk⟩ := h
  exact (WBytes_any bw S l wr hw hlen).mono fun x w' ⟨b, a, cap, hx, ho, hb, hb2, hk2⟩ => ⟨b, a, cap, hx, ho, hb, hb2, h0.kept hk2, hk2⟩
end Go.Proofs.Ytjdebdfbjcpjgaa.Pk
end
section
/- Walks of the Reader: Int, Mark, Float, Text. -/
namespace Go.Proofs.Ytjdebdfbjcpjgaa.Pk
open Go Go.RowKit Mem

/-- what Int answers -/
def IntPost (br bs : Nat) (l : List Nat) (e : Int) (w : World) (x : Ending) (w' : World) : Prop :=
  match rdInt l with
  | some (n, r) => x = .returned (.int .i64 n) ∧ RAt w' br bs r e ∧ Kept (Only br) w w'
  | none => Fell br bs (keep e 3) (.int .i64 0) w x w'
theorem intPost_none {br bs : Nat} {l : List Nat} {e : Int} {w : World} {x : Ending} {w' : World} (h : dec 0 0 l = none) (hp : Fell br bs (keep e 3) (.int .i64 0) w x w') : IntPost br bs l e w x w' := by
  unfold IntPost rdInt; rw [h]; exact hp
theorem intPost_some {br bs : Nat} {l r : List Nat} {z : Nat} {e : Int} {w : World} {x : Ending} {w' : World} (h : dec 0 0 l = some (z, r)) (hx : x = .returned (.int .i64 (unzig z))) (hr : RAt w' br bs r e) (hk : Kept (Only br) w w') : IntPost br bs l e w x w' := by
  unfold IntPost rdInt; rw [h]; exact ⟨hx, hr, hk⟩
theorem drop_get {l : List Nat} {k : Nat} (h : k < l.length) : l.drop k = l.getD k 0 :: l.drop (k + 1) := by
  rw [List.drop_eq_getElem_cons h]; simp [h]
theorem acc_next {k Z y : Nat} (hk : k ≤ 9) (hZ : Z < 128 ^ k) (hy : k = 9 → y ≤ 1) : bits .or .u64 (Z : Int) (IntKind.u64.wrap (((y % 128 : Nat) : Int) * 2 ^ (7 * (k : Int)).toNat)) = ((Z + 128 ^ k * (y % 128) : Nat) : Int) ∧ Z + 128 ^ k * (y % 128) < 128 ^ (k + 1) ∧ Z + 128 ^ k * (y % 128) < 18446744073709551616 := by
  have e1 : (7 * (k : Int)).toNat = 7 * k := by omega
  have hp : (2 : Nat) ^ (7 * k) = 128 ^ k := by rw [Nat.pow_mul]
  have h9 : 128 ^ k ≤ 128 ^ 9 := Nat.pow_le_pow_right (by decide) hk
  rw [show 128 ^ 9 = 9223372036854775808 from rfl] at h9
  have h3 : Z + 128 ^ k * (y % 128) < 128 ^ (k + 1) := by
    rw [Nat.pow_succ]
    have : 128 ^ k * (y % 128) ≤ 128 ^ k * 127 := Nat.mul_le_mul_left _ (by omega)
    omega
  have h4 : Z + 128 ^ k * (y % 128) < 18446744073709551616 := by
    by_cases e : k = 9
    · have := hy e
      subst e
      rw [show 128 ^ 9 = 9223372036854775808 from rfl] at hZ ⊢
      omega
    · have h5 : 128 ^ (k + 1) ≤ 128 ^ 9 := Nat.pow_le_pow_right (by decide) (by omega)
      rw [show 128 ^ 9 = 9223372036854775808 from rfl] at h5
      omega
  have e2 : IntKind.u64.wrap (((y % 128 : Nat) : Int) * 2 ^ (7 * (k : Int)).toNat) = ((2 ^ (7 * k) * (y % 128) : Nat) : Int) := by
    have e3 : ((y % 128 : Nat) : Int) * 2 ^ (7 * (k : Int)).toNat = ((2 ^ (7 * k) * (y % 128) : Nat) : Int) := by
      rw [e1, Int.natCast_mul, Int.natCast_pow, Int.mul_comm]; rfl
    rw [e3, hp]
    have hT : 128 ^ k * (y % 128) < 18446744073709551616 := by omega
    generalize 128 ^ k * (y % 128) = T at hT
    simp [IntKind.wrap, IntKind.bits, IntKind.signed]
    omega
  rw [e2, or_high _ _ _ (by rw [hp]; exact hZ) (by rw [hp]; omega) (by omega), hp]
  exact ⟨rfl, h3, h4⟩
theorem acc_walk {k Z y : Nat} (hk : k ≤ 9) (hZ : Z < 128 ^ k) (hy : k = 9 → y ≤ 1) (hy2 : y < 256) : bits .or .u64 (Z : Int) (IntKind.u64.wrap (IntKind.u64.wrap (bits .and .u8 (y : Int) 127) * 2 ^ (7 * k))) = ((Z + 128 ^ k * (y % 128) : Nat) : Int) ∧ Z + 128 ^ k * (y % 128) < 128 ^ (k + 1) ∧ Z + 128 ^ k * (y % 128) < 18446744073709551616 := by
  have h := acc_next hk hZ hy
  have e : IntKind.u64.wrap ((y % 128 : Nat) : Int) = ((y % 128 : Nat) : Int) := by
    have : y % 128 < 128 := by omega
    generalize y % 128 = T at this
    simp [IntKind.wrap, IntKind.bits, IntKind.signed]
    omega
  rw [show (7 * (k : Int)).toNat = 7 * k by omega] at h
  rw [and8_127 y hy2, e]
  exact h
theorem unfold_eq (q : Int) (z : Nat) (w : World) (hq : q = z) (h2 : z < 18446744073709551616) :
    Calls Try.prog 117 #[.int .u64 q] w fun e w' => e = .returned (.int .i64 (unzig z)) ∧ w = w' := by
  subst hq; exact unfold_any z w h2
/-- where the rest begins -/
theorem rest_at (bs off cap n : Nat) : ∃ o2, (if cap = n then some (⟨bs, off, none⟩ : Addr) else some ⟨bs, off + n, none⟩) = some ⟨bs, o2, none⟩ ∧ (o2 = off + n ∨ cap = n) := by
  by_cases h : cap = n
  · exact ⟨off, by rw [if_pos h], .inr h⟩
  · exact ⟨off + n, by rw [if_neg h], .inl rfl⟩
/-- the Reader behind n bytes -/
theorem rest_R {w : World} {br bs off o2 cap n : Nat} {l : List Nat} {e : Int} (hh : w.heap[br]? = some (.cells #[.slice (some ⟨bs, off, none⟩) l.length cap, .int .i64 e] 147 (0, 0)))
    (hs : Shows w bs (some ⟨bs, off, none⟩) cap l) (h8 : B8 l) (hne : br ≠ bs) (he : e ≠ 0 → l = []) (hn : n ≤ l.length) (ho : o2 = off + n ∨ cap = n) :
    RAt (w.setCell ⟨br, 0, none⟩ (.slice (some ⟨bs, o2, none⟩) (l.length - n) (cap - n))) br bs (l.drop n) e ∧ Kept (Only br) w (w.setCell ⟨br, 0, none⟩ (.slice (some ⟨bs, o2, none⟩) (l.length - n) (cap - n))) := by
  have k : Kept (Only br) w (w.setCell ⟨br, 0, none⟩ (.slice (some ⟨bs, o2, none⟩) (l.length - n) (cap - n))) := (Kept.refl _ _).setAt (.inl Only.self) _ _
  refine ⟨⟨some ⟨bs, o2, none⟩, cap - n, ?_, (fits_rest hs hn ho).kept k (fun _ => not_self hne), h8.drop _, hne, fun h => by rw [he h]; simp⟩, k⟩
  rw [heap_set hh 0]
  simp
set_option maxHeartbeats 1000000 in
set_option maxRecDepth 100000 in
theorem RInt_any (br bs : Nat) (l : List Nat) (e : Int) (w : World) (h : RAt w br bs l e) (hl : l.length ≤ 35184372088832) :
    Calls Try.prog 106 #[.pointer (some ⟨br, 0, none⟩)] w (IntPost br bs l e w) := by
  have HR := Lib.hid h
  obtain ⟨a, cap, hh, hs, h8, hne, he⟩ := h
  have c0 := cell_heap hh 0
  have f0 := frozen_heap hh 0
  simp at c0
  have HH := Lib.hid hh
  have H8 := Lib.hid h8
  have HE := Lib.hid he
  clear hh he
  rcases hs.2.2 with ⟨rfl, rfl, rfl⟩ | ⟨off, rfl, hc⟩
  · clear hs
    go_enter Try.func106, Try.ntmps106
    go_wp2
    refine wp_loop_rounds 1 ?_
    rw [rounds_succ]
    go_wp2_with (first | (go_at_call 118; refine (fail_any br bs [] e _ _ HR.out).mono ?_; rintro x w' ⟨rfl, h1, h2⟩))
    go_ret
    exact intPost_none rfl ⟨rfl, h1, h2⟩
  · have h1 := hs.1
    have h2 := hs.2.1
    have HS := Lib.hid hs
    have HC := Lib.hid hc
    clear hs hc h8
    go_enter Try.func106, Try.ntmps106
    go_wp2
    go_loop [3, 11] (fun z i => ∃ k Z : Nat, k ≤ l.length ∧ k ≤ 9 ∧ i = .int .i64 k ∧ z = .int .u64 Z ∧ Hid (Z < 128 ^ k ∧ dec 0 0 l = dec k Z (l.drop k))) (fun _ i => l.length - (intOf i).toNat)
    case atStart => exact ⟨0, 0, by omega, by omega, rfl, rfl, by decide, by simp⟩
    case round =>
      obtain ⟨k, Z, hk, hk9, rfl, rfl, hz⟩ := hrel
      by_cases hlt : k < l.length
      · have hcell := HC.out k hlt
        have hd := Lib.hid (drop_get hlt)
        have hy := H8.out.get k
        generalize l.getD k 0 = y at *
        rcases Nat.lt_or_ge 1 y with hy1 | hy1
        · by_cases hk8 : k ≤ 8
          · have hk9' : ((k : Int) == 9) = false := beq_eq_false_iff_ne.2 (by omega)
            have HN := Lib.hid (acc_walk (Z := Z) (y := y) hk9 hz.out.1 (by omega) hy)
            by_cases hy2 : 128 ≤ y
            · go_wp2
              go_round
              case rel => exact ⟨k + 1, Z + 128 ^ k * (y % 128), by omega, by omega, by go_num, by rw [HN.out.1], HN.out.2.1, by rw [hz.out.2, hd.out, dec, if_neg (by omega), if_pos hy2]⟩
              case measure => simp [intOf]; omega
            · have hy0 : ((y : Int) == 0) = false := beq_eq_false_iff_ne.2 (by omega)
              have hn1 : k + 1 ≤ l.length := hlt
              obtain ⟨o2, hA, hB⟩ := rest_at bs off cap (k + 1)
              have HB := Lib.hid hB
              clear hB
              go_wp2_with (first | (go_at_call 117; refine (unfold_eq _ _ _ HN.out.1 HN.out.2.2).mono ?_; rintro e w' ⟨rfl, rfl⟩))
              go_ret
              obtain ⟨r1, r2⟩ := rest_R HH.out HS.out H8.out hne HE.out hn1 HB.out
              refine intPost_some ?_ rfl r1 r2
              rw [hz.out.2, hd.out, dec, if_neg (by omega), if_neg (by omega), if_neg (by omega), show y % 128 = y by omega]
          · have hk9' : ((k : Int) == 9) = true := beq_iff_eq.2 (by omega)
            have K9 := Lib.hid (show k = 9 by omega)
            clear hk8
            go_wp2_with (first | (go_at_call 118; refine (fail_any br bs l e _ _ HR.out).mono ?_; rintro x w' ⟨rfl, h1, h2⟩))
            go_ret
            refine intPost_none ?_ ⟨rfl, h1, h2⟩
            rw [hz.out.2, hd.out, dec, if_pos ⟨K9.out, hy1⟩]
        · have HN := Lib.hid (acc_walk (Z := Z) (y := y) hk9 hz.out.1 (by omega) hy)
          obtain ⟨q9, hk9', HQ⟩ : ∃ q, ((k : Int) == 9) = q ∧ Hid True := ⟨_, rfl, trivial⟩
          have hy2 : decide (1 < (y : Int)) = false := by simp; omega
          rcases Nat.eq_zero_or_pos y with hy3 | hy3
          · have hy0 : ((y : Int) == 0) = true := by simpa using hy3
            have HY := Lib.hid hy3
            have hyu : y ≤ 0 := by omega
            clear hy3
            rcases Nat.eq_zero_or_pos k with hk0 | hk0
            · have hkz : k ≤ 0 := by omega
              have hk99 : ((k : Int) == 9) = false := beq_eq_false_iff_ne.2 (by omega)
              clear hk9' hk0
              have hn1 : k + 1 ≤ l.length := hlt
              obtain ⟨o2, hA, hB⟩ := rest_at bs off cap (k + 1)
              have HB := Lib.hid hB
              clear hB
              go_wp2_with (first | (go_at_call 117; refine (unfold_eq _ _ _ HN.out.1 HN.out.2.2).mono ?_; rintro e w' ⟨rfl, rfl⟩))
              go_ret
              obtain ⟨r1, r2⟩ := rest_R HH.out HS.out H8.out hne HE.out hn1 HB.out
              refine intPost_some ?_ rfl r1 r2
              rw [hz.out.2, hd.out, dec, if_neg (by omega), if_neg (by omega), if_neg (by omega), show y % 128 = y by omega]
            · cases q9
              all_goals
                go_wp2_with (first | (go_at_call 118; refine (fail_any br bs l e _ _ HR.out).mono ?_; rintro x w' ⟨rfl, h1, h2⟩))
                go_ret
                refine intPost_none ?_ ⟨rfl, h1, h2⟩
                rw [hz.out.2, hd.out, dec, if_neg (by omega), if_neg (by omega), if_pos ⟨HY.out, hk0⟩]
          · have hy0 : ((y : Int) == 0) = false := beq_eq_false_iff_ne.2 (by omega)
            cases q9
            all_goals
              have hn1 : k + 1 ≤ l.length := hlt
              obtain ⟨o2, hA, hB⟩ := rest_at bs off cap (k + 1)
              have HB := Lib.hid hB
              clear hB
              go_wp2_with (first | (go_at_call 117; refine (unfold_eq _ _ _ HN.out.1 HN.out.2.2).mono ?_; rintro e w' ⟨rfl, rfl⟩))
              go_ret
              obtain ⟨r1, r2⟩ := rest_R HH.out HS.out H8.out hne HE.out hn1 HB.out
              refine intPost_some ?_ rfl r1 r2
              rw [hz.out.2, hd.out, dec, if_neg (by omega), if_neg (by omega), if_neg (by omega), show y % 128 = y by omega]
      · obtain rfl : k = l.length := by omega
        go_wp2_with (first | (go_at_call 118; refine (fail_any br bs l e _ _ HR.out).mono ?_; rintro x w' ⟨rfl, h1, h2⟩))
        go_ret
        refine intPost_none ?_ ⟨rfl, h1, h2⟩
        rw [hz.out.2, List.drop_length]; rfl
end Go.Proofs.Ytjdebdfbjcpjgaa.Pk
end
section
/- Walks of the Reader: Mark, Float, Text. -/
namespace Go.Proofs.Ytjdebdfbjcpjgaa.Pk
open Go Go.RowKit Mem
theorem first_cell {w : World} {bs cap y : Nat} {r : List Nat} {a : Option Addr} (hs : Shows w bs a cap ((y :: r).take 1)) (hn : a = none → y :: r = []) : ∃ off, a = some ⟨bs, off, none⟩ ∧ w.cell? ⟨bs, off, none⟩ = some (.int .u8 y) := by
  rcases hs.2.2 with ⟨ha, _⟩ | ⟨off, ha, hc⟩
  · have := hn ha; cases this
  · exact ⟨off, ha, hc 0 (by simp)⟩
theorem beq_one (y : Nat) : ((y : Int) == 1) = (y == 1) := by rw [Bool.eq_iff_iff]; simp; omega
theorem RAt.ne {w : World} {br bs : Nat} {l : List Nat} {e : Int} (h : RAt w br bs l e) : br ≠ bs := by
  obtain ⟨_, _, _, _, _, h, _⟩ := h; exact h
/-- what Float answers -/
def FltPost (br bs : Nat) (l : List Nat) (e : Int) (w : World) (x : Ending) (w' : World) : Prop :=
  match rdFlt l with
  | some (n, r) => x = .returned (.float .f64 n) ∧ RAt w' br bs r e ∧ Kept (Only br) w w'
  | none => Fell br bs (keep e 3) (.float .f64 0) w x w'
theorem fltPost_none {br bs : Nat} {l : List Nat} {e : Int} {w : World} {x : Ending} {w' : World} (h : rdFlt l = none) (hp : Fell br bs (keep e 3) (.float .f64 0) w x w') : FltPost br bs l e w x w' := by
  unfold FltPost; rw [h]; exact hp
theorem fltPost_some {br bs : Nat} {l r : List Nat} {z : Nat} {e : Int} {w : World} {x : Ending} {w' : World} (h : rdFlt l = some (z, r)) (hx : x = .returned (.float .f64 z)) (hr : RAt w' br bs r e) (hk : Kept (Only br) w w') : FltPost br bs l e w x w' := by
  unfold FltPost; rw [h]; exact ⟨hx, hr, hk⟩
theorem num8_snoc (l : List Nat) (k : Nat) (h : k < l.length) : num8 (l.take (k + 1)) = num8 (l.take k) * 256 + l.getD k 0 := by
  rw [List.take_succ_eq_append_getElem h]
  unfold num8
  rw [List.foldl_append]
  simp [h]
theorem num8_lt (l : List Nat) (h : B8 l) : ∀ k, k ≤ l.length → num8 (l.take k) < 256 ^ k := by
  intro k
  induction k with
  | zero => intro _; simp [num8]
  | succ k ih =>
    intro hk
    rw [num8_snoc l k hk, Nat.pow_succ]
    have := ih (by omega)
    have := h.get k
    omega
theorem num8_step {Z y : Nat} (hZ : Z ≤ 72057594037927935) (hy : y < 256) : bits .or .u64 ((Z : Int) * 256) (y : Int) = ((Z * 256 + y : Nat) : Int) := by
  have := or_low y Z hy (by omega)
  rw [Int.natCast_mul] at this
  exact this
theorem num8_small {l : List Nat} (h : B8 l) {k : Nat} (hk : k ≤ l.length) (h7 : k ≤ 7) : num8 (l.take k) ≤ 72057594037927935 := by
  have h1 := num8_lt l h k hk
  have h2 : 256 ^ k ≤ 256 ^ 7 := Nat.pow_le_pow_right (by decide) h7
  rw [show 256 ^ 7 = 72057594037927936 from rfl] at h2
  omega
attribute [local go_sem] run_bits run_frombits
set_option maxHeartbeats 1000000 in
theorem RFloat_any (br bs : Nat) (l : List Nat) (e : Int) (w : World) (h : RAt w br bs l e) :
    Calls Try.prog 125 #[.pointer (some ⟨br, 0, none⟩)] w (FltPost br bs l e w) := by
  have HR := Lib.hid h
  have H8 : Hid (B8 l) := by obtain ⟨_, _, _, _, h8, _⟩ := h; exact h8
  clear h
  by_cases h8 : l.length < 8
  · have h00 : ((0 : Int) != 0) = false := rfl
    go_enter Try.func125, Try.ntmps125
    go_wp2_with (first | (go_at_call 123; refine (take_no br bs l e 8 _ HR.out (.inr (by omega))).mono ?_; rintro x w' ⟨rfl, h1, h2⟩))
    refine wp_loop_rounds 1 ?_
    rw [rounds_succ]
    go_wp2_with (first | (go_at_call 124; refine (Canon_any _ _).mono ?_; rintro e w' ⟨rfl, rfl⟩))
    go_ret
    exact fltPost_none (by unfold rdFlt; rw [if_pos h8]) ⟨rfl, h1, h2⟩
  · go_enter Try.func125, Try.ntmps125
    go_wp2_with fail
    refine (take_ok br bs l e 8 _ HR.out (by omega)).mono ?_
    rintro x w1 ⟨a, cap, rfl, hs, hr, hk, hn⟩
    have HR1 := Lib.hid hr
    obtain ⟨off, rfl, hc⟩ : ∃ off, a = some ⟨bs, off, none⟩ ∧ ∀ i, i < 8 → w1.cell? ⟨bs, off + i, none⟩ = some (.int .u8 (l.getD i 0)) := by
      rcases hs.2.2 with ⟨ha, _⟩ | ⟨off, ha, hc⟩
      · have := hn ha; subst this; simp at h8
      · refine ⟨off, ha, fun i hi => ?_⟩
        rw [hc i (by rw [List.length_take]; omega)]
        simp [List.getD, hi]
    have HC := Lib.hid hc
    clear hr hs hn hc
    go_wp2
    go_loop [3, 10] (fun z i => ∃ k Z : Nat, k ≤ 8 ∧ i = .int .i64 k ∧ z = .int .u64 Z ∧ Hid (Z = num8 (l.take k))) (fun _ i => 8 - (intOf i).toNat)
    case atStart => exact ⟨0, 0, by omega, rfl, rfl, rfl⟩
    case round =>
      obtain ⟨k, Z, hk8, rfl, rfl, hz⟩ := hrel
      by_cases hlt : k < 8
      · have hcell := HC.out k hlt
        have hy := H8.out.get k
        have hsn := Lib.hid (num8_snoc l k (by omega))
        have hZ : Z ≤ 72057594037927935 := by rw [hz.out]; exact num8_small H8.out (by omega) (by omega)
        generalize l.getD k 0 = y at *
        have HN := Lib.hid (num8_step hZ hy)
        go_wp2
        go_round
        case rel => exact ⟨k + 1, Z * 256 + y, by omega, by go_num, by rw [HN.out], by show _ = _; rw [hsn.out, hz.out]⟩
        case measure => simp [intOf]; omega
      · obtain rfl : k = 8 := by omega
        obtain ⟨q, hq⟩ : ∃ q, (((Nm.canon Z : Nat) : Int) != (Z : Int)) = q := ⟨_, rfl⟩
        cases q
        · go_wp2_with (first | (go_at_call 124; refine (Canon_any _ _).mono ?_; rintro e w' ⟨rfl, rfl⟩))
          go_ret
          refine fltPost_some ?_ rfl HR1.out hk
          unfold rdFlt
          rw [if_neg h8, ← hz.out, if_pos (by simp at hq; omega)]
        · go_wp2_with (first | (go_at_call 124; refine (Canon_any _ _).mono ?_; rintro e w' ⟨rfl, rfl⟩) | (go_at_call 118; refine (fail_any br bs _ e _ _ HR1.out).mono ?_; rintro x w' ⟨rfl, h1, h2⟩))
          go_ret
          refine fltPost_none ?_ ⟨rfl, h1, hk.trans h2⟩
          unfold rdFlt
          rw [if_neg h8, ← hz.out, if_neg (by simp at hq; omega)]

/-- what Text answers: new bytes (none, where there is an error), what is left, and the error -/
def textOut (l : List Nat) (e : Int) : List Nat × List Nat × Int := match rdText l with
  | .ok (t, r) => (t, r, e)
  | .error x => ([], [], keep e x)
def TextPost (br bs : Nat) (w : World) (o : List Nat × List Nat × Int) (x : Ending) (w' : World) : Prop :=
  ∃ b a cap, x = .returned (.slice a o.1.length cap) ∧ OwnB 5 w' b a cap o.1 ∧ w.heap.size ≤ b ∧ b ≤ w'.heap.size ∧ RAt w' br bs o.2.1 o.2.2 ∧ Kept (Only br) w w'
theorem textOut_err {l : List Nat} {e x : Int} (h : rdText l = .error x) : textOut l e = ([], [], keep e x) := by unfold textOut; rw [h]
theorem textOut_ok {l t r : List Nat} {e : Int} (h : rdText l = .ok (t, r)) : textOut l e = (t, r, e) := by unfold textOut; rw [h]
theorem RAt.kept {w w' : World} {br bs : Nat} {l : List Nat} {e : Int} {S : Nat → Prop} (h : RAt w br bs l e) (hk : Kept S w w') (h1 : ¬ S br) (h2 : l ≠ [] → ¬ S bs) : RAt w' br bs l e := by
  obtain ⟨a, cap, hh, hs, h3⟩ := h
  exact ⟨a, cap, hk.heap hh h1, hs.kept hk h2, h3⟩
theorem RAt.len {w : World} {br bs : Nat} {l : List Nat} {e : Int} (h : RAt w br bs l e) : B8 l ∧ (e ≠ 0 → l = []) := by
  obtain ⟨_, _, _, _, h8, _, he⟩ := h; exact ⟨h8, he⟩
theorem keep_keep (e x y : Int) (hx : x ≠ 0) : keep (keep e x) y = keep e x := by unfold keep; split <;> simp_all
set_option maxHeartbeats 1000000 in
theorem RText_any (br bs : Nat) (l : List Nat) (e : Int) (w : World) (h : RAt w br bs l e) (hl : l.length ≤ 35184372088832) :
    Calls Try.prog 111 #[.pointer (some ⟨br, 0, none⟩)] w (TextPost br bs w (textOut l e)) := by
  have HR := Lib.hid h
  have H8 := Lib.hid h.len.1
  clear h
  cases hd : rdInt l with
  | none =>
    have HD := Lib.hid hd
    clear hd
    go_enter Try.func111, Try.ntmps111
    go_wp2_with fail
    refine (RInt_any br bs l e w HR.out hl).mono ?_
    intro x w1 hp
    unfold IntPost at hp
    rw [HD.out] at hp
    obtain ⟨rfl, h1, h2⟩ := hp
    have HR1 := Lib.hid h1
    have h00 : decide ((16384 : Int) < 0) = false := rfl
    go_wp2_with fail
    refine (take_ok br bs [] (keep e 3) 0 _ HR1.out (Nat.le_refl _)).mono ?_
    rintro x w2 ⟨a, cap, rfl, hs, hr, hk, hn⟩
    have HR2 := Lib.hid hr
    have HS := Lib.hid hs
    clear hr hs hn h1
    go_wp2_with fail
    refine (Clone_any bs a cap [] w2 HS.out.src (by simp)).mono ?_
    rintro x w3 ⟨b3, a3, cap3, rfl, ho, hb3, k3, hb4⟩
    have HO := Lib.hid ho
    clear ho
    go_wp2
    go_ret
    rw [textOut_err (l := l) (x := 3) (by unfold rdText; rw [HD.out])]
    exact ⟨b3, a3, cap3, rfl, HO.out, Nat.le_trans (h2.trans hk).size hb3, hb4, HR2.out.kept k3 (fun h => h) (fun _ h => h), (h2.trans hk).trans k3.ofNone⟩
  | some p =>
    obtain ⟨n, r⟩ := p
    have HD := Lib.hid hd
    clear hd
    have hb := rdInt_sound H8.out HD.out
    have hb1 := hb.2.1
    have hb2 := hb.2.2
    have hr8 : B8 r := fun x hx => H8.out x (by rw [hb.1]; exact List.mem_append_right _ hx)
    have hrl : r.length ≤ l.length := by rw [hb.1]; simp
    clear hb
    go_enter Try.func111, Try.ntmps111
    go_wp2_with fail
    refine (RInt_any br bs l e w HR.out hl).mono ?_
    intro x w1 hp
    unfold IntPost at hp
    rw [HD.out] at hp
    obtain ⟨rfl, h1, h2⟩ := hp
    have HR1 := Lib.hid h1
    clear h1
    by_cases hbig : 16384 < n
    · go_wp2_with (first | (go_at_call 118; refine (fail_any br bs _ e _ _ HR1.out).mono ?_; rintro x w' ⟨rfl, h1, h3⟩))
      go_ret
      rw [textOut_err (l := l) (x := 2) (by unfold rdText; rw [HD.out]; simp [hbig])]
      exact ⟨w.heap.size, none, 0, rfl, OwnB.nil _ _ _, Nat.le_refl _, (h2.trans h3).size, h1, h2.trans h3⟩
    · have HB := Lib.hid hbig
      by_cases hfew : n < 0 ∨ (r.length : Int) < n
      · have HF := Lib.hid hfew
        clear hfew
        go_wp2_with (first | (go_at_call 123; refine (take_no br bs r e n _ HR1.out HF.out).mono ?_; rintro x w' ⟨rfl, h1, h3⟩) | (go_at_call 97; refine (Clone_nil _).mono ?_; rintro e w' ⟨rfl, rfl⟩))
        go_ret
        rw [textOut_err (l := l) (x := 3) (by unfold rdText; rw [HD.out]; simp only; rw [if_neg (show ¬ (16384 : Int) < _ by have := HB.out; omega), if_pos HF.out])]
        exact ⟨w.heap.size, none, 0, rfl, OwnB.nil _ _ _, Nat.le_refl _, (h2.trans h3).size, h1, h2.trans h3⟩
      · obtain ⟨m, rfl⟩ : ∃ m : Nat, n = m := ⟨n.toNat, by omega⟩
        have hm : m ≤ r.length := by omega
        have HF := Lib.hid hfew
        clear hfew
        go_wp2_with fail
        refine (take_ok br bs r e m _ HR1.out hm).mono ?_
        rintro x w2 ⟨a, cap, rfl, hs, hr, hk, hn⟩
        have HR2 := Lib.hid hr
        have HS := Lib.hid hs
        clear hr hs hn
        have hlen : (r.take m).length = m := by rw [List.length_take]; omega
        have HL := Lib.hid hlen
        clear hlen
        go_wp2_with fail
        have hcl := Clone_any bs a cap (r.take m) w2 HS.out.src (by rw [HL.out]; omega)
        rw [HL.out] at hcl
        refine hcl.mono ?_
        rintro x w3 ⟨b3, a3, cap3, rfl, ho, hb3, k3, hb4⟩
        have HO := Lib.hid ho
        clear ho hcl
        go_wp2
        go_ret
        have e1 : textOut l e = (r.take m, r.drop m, e) := textOut_ok (by unfold rdText; rw [HD.out]; simp only; rw [if_neg (show ¬ (16384 : Int) < _ by have := HB.out; omega), if_neg HF.out]; simp)
        rw [e1]
        exact ⟨b3, a3, cap3, by rw [HL.out]; rfl, HO.out, Nat.le_trans (h2.trans hk).size hb3, hb4, HR2.out.kept k3 (fun h => h) (fun _ h => h), (h2.trans hk).trans k3.ofNone⟩
end Go.Proofs.Ytjdebdfbjcpjgaa.Pk
end
section
/- A Reader of the call's own: each method, as one step. -/
namespace Go.Proofs.Ytjdebdfbjcpjgaa.Pk
open Go Go.RowKit Mem
def OwnR (w wr : World) (br : Nat) (l : List Nat) (e : Int) : Prop := ∃ bs, RAt wr br bs l e ∧ w.heap.size ≤ br ∧ w.heap.size ≤ bs ∧ Kept None w wr
def intOut (l : List Nat) (e : Int) : Int × List Nat × Int := match rdInt l with | some (n, r) => (n, r, e) | none => (0, [], keep e 3)
def markOut (l : List Nat) (e : Int) : Bool × List Nat × Int := match rdMark l with | some (n, r) => (n, r, e) | none => (false, [], keep e 3)
def fltOut (l : List Nat) (e : Int) : Nat × List Nat × Int := match rdFlt l with | some (n, r) => (n, r, e) | none => (0, [], keep e 3)
theorem OwnR.keeps {w wr : World} {br : Nat} {l : List Nat} {e : Int} (h : OwnR w wr br l e) : Kept None w wr ∧ B8 l ∧ (e ≠ 0 → l = []) := by obtain ⟨_, h1, _, _, h2⟩ := h; exact ⟨h2, h1.len⟩
theorem OwnR.kept {w wr w' : World} {br : Nat} {l : List Nat} {e : Int} (h : OwnR w wr br l e) (hk : Kept None wr w') : OwnR w w' br l e := by
  obtain ⟨bs, h1, h2, h3, h4⟩ := h
  exact ⟨bs, h1.kept hk (fun h => h) (fun _ h => h), h2, h3, h4.trans hk⟩
theorem OwnR.step {w wr w' : World} {br bs : Nat} {l : List Nat} {e : Int} (h1 : RAt w' br bs l e) (h2 : w.heap.size ≤ br) (h3 : w.heap.size ≤ bs) (h4 : Kept None w wr) (hk : Kept (Only br) wr w') : OwnR w w' br l e :=
  ⟨bs, h1, h2, h3, h4.trans' hk (fun x hx => .inr (by cases hx; exact h2))⟩
theorem NewReader_own (w wr : World) (hk : Kept None w wr) (b : Nat) (a : Option Addr) (cap : Nat) (l : List Nat) (h : Src wr b a cap l) (hl : l.length ≤ 35184372088832) (h8 : B8 l) :
    Calls Try.prog 77 #[.slice a l.length cap] wr fun x w' => ∃ br, x = .returned (.pointer (some ⟨br, 0, none⟩)) ∧ OwnR w w' br l 0 ∧ Kept None wr w' :=
  (NewReader_any b a cap l wr h hl h8).mono fun _ _ ⟨br, bs, hx, hr, h1, h2, hk2⟩ => ⟨br, hx, ⟨bs, hr, Nat.le_trans hk.size h1, Nat.le_trans hk.size h2, hk.trans hk2⟩, hk2⟩
theorem RInt_own (w wr : World) (br : Nat) (l : List Nat) (e : Int) (h : OwnR w wr br l e) (hl : l.length ≤ 35184372088832) :
    Calls Try.prog 106 #[.pointer (some ⟨br, 0, none⟩)] wr fun x w' => x = .returned (.int .i64 (intOut l e).1) ∧ OwnR w w' br (intOut l e).2.1 (intOut l e).2.2 := by
  obtain ⟨bs, h1, h2, h3, h4⟩ := h
  refine (RInt_any br bs l e wr h1 hl).mono fun x w' hp => ?_
  unfold IntPost at hp
  unfold intOut
  cases hd : rdInt l with
  | none => rw [hd] at hp; exact ⟨hp.1, OwnR.step hp.2.1 h2 h3 h4 hp.2.2⟩
  | some p => rw [hd] at hp; exact ⟨hp.1, OwnR.step hp.2.1 h2 h3 h4 hp.2.2⟩
theorem RFloat_own (w wr : World) (br : Nat) (l : List Nat) (e : Int) (h : OwnR w wr br l e) :
    Calls Try.prog 125 #[.pointer (some ⟨br, 0, none⟩)] wr fun x w' => x = .returned (.float .f64 (fltOut l e).1) ∧ OwnR w w' br (fltOut l e).2.1 (fltOut l e).2.2 := by
  obtain ⟨bs, h1, h2, h3, h4⟩ := h
  refine (RFloat_any br bs l e wr h1).mono fun x w' hp => ?_
  unfold FltPost at hp
  unfold fltOut
  cases hd : rdFlt l with
  | none => rw [hd] at hp; exact ⟨hp.1, OwnR.step hp.2.1 h2 h3 h4 hp.2.2⟩
  | some p => rw [hd] at hp; exact ⟨hp.1, OwnR.step hp.2.1 h2 h3 h4 hp.2.2⟩
/-- what Text answers, of a Reader of the call's own -/
def TextOwn (w wr : World) (br : Nat) (l : List Nat) (e : Int) (x : Ending) (w' : World) : Prop :=
  ∃ b a cap, x = .returned (.slice a (textOut l e).1.length cap) ∧ OwnB 5 w' b a cap (textOut l e).1 ∧ wr.heap.size ≤ b ∧ b ≤ w'.heap.size ∧ OwnR w w' br (textOut l e).2.1 (textOut l e).2.2 ∧ Kept (Only br) wr w'
theorem RText_own (w wr : World) (br : Nat) (l : List Nat) (e : Int) (h : OwnR w wr br l e) (hl : l.length ≤ 35184372088832) :
    Calls Try.prog 111 #[.pointer (some ⟨br, 0, none⟩)] wr (TextOwn w wr br l e) := by
  obtain ⟨bs, h1, h2, h3, h4⟩ := h
  exact (RText_any br bs l e wr h1 hl).mono fun x w' ⟨b, a, cap, hx, ho, hb, hb2, hr, hk⟩ => ⟨b, a, cap, hx, ho, hb, hb2, OwnR.step hr h2 h3 h4 hk, hk⟩
end Go.Proofs.Ytjdebdfbjcpjgaa.Pk
end
