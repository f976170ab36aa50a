/- Walks of heavy, write, got. -/
import Derived.Test.YtjlpmmbmjkbdiaaItems
import Derived.Deep.RegionWith
namespace Go.Proofs.Ytjlpmmbmjkbdiaa.Pk
open Go Go.RowKit Mem
def big (x : It) : Bool := decide (32768 < x.t.length)
def heavyB (L : List It) : Bool := decide (200 < L.length) || L.any big
theorem heavy_no {L : List It} (h : heavyB L = false) : L.length ≤ 200 ∧ ∀ x ∈ L, x.t.length ≤ 32768 := by
  unfold heavyB at h
  rw [Bool.or_eq_false_iff] at h
  refine ⟨by have := h.1; simp at this; omega, fun x hx => ?_⟩
  have := List.any_eq_false.1 h.2 x hx
  unfold big at this
  simp at this; omega
set_option maxHeartbeats 1000000 in
theorem heavy_any (a : Option Addr) (cap : Nat) (L : List It) (w : World) (h : Items w a L) :
    Calls Try.prog 9 #[.slice a L.length cap] w fun e w' => e = .returned (.bool (heavyB L)) ∧ w = w' := by
  have HI := Lib.hid h
  have hm := h.2.1
  clear h
  by_cases hbig : 200 < L.length
  · go_enter Try.func9, Try.ntmps9
    go_wp2
    go_ret
    exact ⟨ret_bool (by simp [heavyB, hbig]), rfl⟩
  · go_enter Try.func9, Try.ntmps9
    go_wp2
    go_loop [3] (fun i => ∃ k : Nat, k ≤ L.length ∧ i = .int .i64 k ∧ Hid ((L.take k).any big = false)) (fun i => L.length - (intOf i).toNat)
    case atStart => exact ⟨0, by omega, rfl, rfl⟩
    case round =>
      obtain ⟨k, hk, rfl, hw⟩ := hrel
      by_cases hlt : k < L.length
      · obtain ⟨b, off, rfl, hc⟩ := HI.out.2.2 (by omega)
        have h4 := (hc k hlt).2.2.2.2
        have hsn : Hid (L.take (k + 1) = L.take k ++ [L.getD k It.none]) := by
          show _ = _
          rw [List.take_succ_eq_append_getElem hlt]; simp [hlt]
        have hmem : L.getD k It.none ∈ L := by simp [hlt]
        have HM := Lib.hid hmem
        clear hc hmem
        generalize L.getD k It.none = x at *
        by_cases hx : 32768 < x.t.length
        · go_wp2
          go_ret
          exact ⟨ret_bool (by unfold heavyB; rw [show L.any big = true from List.any_eq_true.2 ⟨x, HM.out, by simp [big, hx]⟩]; simp), rfl⟩
        · go_wp2
          go_round
          case rel => exact ⟨k + 1, by omega, by go_num, by show _ = _; rw [hsn.out, List.any_append, hw.out]; simp [big]; omega⟩
          case measure => simp [intOf]; omega
      · obtain rfl : k = L.length := by omega
        go_wp2
        go_ret
        have := hw.out
        rw [List.take_length] at this
        exact ⟨ret_bool (by simp [heavyB, this]; omega), rfl⟩

/-- which kind -/
def kq (K : Int) (j : Int) : Bool := (IntKind.u64.wrap K).tmod 4 == j
def It.v (x : It) : V := if kq x.K 0 then .int x.N else if kq x.K 1 then .mark x.I else if kq x.K 2 then .flt x.X else .text x.t
theorem It.v_ok {w : World} {x : It} (h : x.ok w) (ht : x.t.length ≤ 16384) : x.v.ok := by
  unfold It.v
  split
  · exact h.2.1
  · split
    · trivial
    · split
      · exact h.2.2.1
      · exact ⟨ht, h.2.2.2.2⟩
theorem enc_len {v : V} (h : v.ok) : v.enc.length ≤ 16394 := by
  cases v with
  | int n => have := (intB_len n).2; show (intB n).length ≤ _; omega
  | mark b => show 1 ≤ _; omega
  | flt x => show 8 ≤ _; omega
  | text t => show (intB t.length ++ t).length ≤ _; rw [List.length_append]; have := (intB_len t.length).2; have := h.1; omega
set_option maxHeartbeats 1000000 in
set_option maxRecDepth 100000 in
theorem write_any (bw : Nat) (S : Nat → Prop) (l : List Nat) (x : It) (w : World) (h : WAt w bw S l) (hx : x.ok w) (hs : x.t ≠ [] → ¬ S x.tb) (ht : kq x.K 0 = false → kq x.K 1 = false → kq x.K 2 = false → x.t.length ≤ 16384) (hlen : l.length ≤ 35184372088832) :
    Calls Try.prog 11 #[.pointer (some ⟨bw, 0, Option.none⟩), x.agg] w (Put bw S (l ++ x.v.enc) w) := by
  obtain ⟨K, N, I, X, tb, ta, tc, t⟩ := x
  obtain ⟨hK, hN, hX, hT, h8⟩ := hx
  unfold It.agg It.v
  simp only at hK hN hX hT h8 hs ht ⊢
  have hK1 := hK.1
  have hK2 := hK.2
  have hN1 := hN.1
  have hN2 := hN.2
  obtain ⟨w1, hw1⟩ : ∃ w1, w1 = w.alloc (.cells #[.int .i64 K, .int .i64 N, .bool I, .float .f64 X, .slice ta t.length tc] 32) := ⟨_, rfl⟩
  have k1 : Kept Mem.None w w1 := by rw [hw1]; exact (Kept.refl _ _).alloc _
  have HA1 : Hid (WAt w1 bw S l) := h.kept k1 (fun _ _ h => h)
  have HT1 : Hid (Src w1 tb ta tc t) := hT.kept k1 (fun _ h => h)
  have HLT := Lib.hid h.2.1
  have HK1 := Lib.hid k1
  have HW1 := Lib.hid hw1
  have HS := Lib.hid hs
  have HT16 : Hid (kq K 0 = false → kq K 1 = false → kq K 2 = false → t.length ≤ 16384) := ht
  clear hK hN h hT k1 hw1 hs ht
  cases q0 : kq K 0 <;> cases q1 : kq K 1 <;> cases q2 : kq K 2
  all_goals
    unfold kq at q0 q1 q2
    go_enter Try.func11, Try.ntmps11
    go_wp2_with fail
    rw [← HW1.out]
    first
    | (refine (WText_any bw S l w1 HA1.out tb ta tc t HT1.out HS.out h8 (HT16.out q0 q1 q2) hlen).mono ?_)
    | (refine (WFloat_any bw S l X w1 HA1.out hlen).mono ?_)
    | (refine (WMark_any bw S l I w1 HA1.out hlen).mono ?_)
    | (refine (WInt_any bw S l N w1 HA1.out hN1 hN2 hlen).mono ?_)
    intro x w' hp
    obtain ⟨rfl, h1, h2⟩ := hp.later HK1.out HLT.out
    clear hp
    go_wp2
    go_end0
    exact ⟨rfl, h1, h2⟩
end Go.Proofs.Ytjlpmmbmjkbdiaa.Pk
