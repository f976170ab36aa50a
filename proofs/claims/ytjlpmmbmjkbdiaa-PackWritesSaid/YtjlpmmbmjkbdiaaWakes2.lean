/- The walk of layer 2's wakes. -/
import Derived.Test.YtjlpmmbmjkbdiaaRef
import Derived.Test.YtjlpmmbmjkbdiaaKeep
namespace Go.Proofs.Ytjlpmmbmjkbdiaa.Pk
open Go Go.RowKit Mem
attribute [local go_sem] run_bits run_frombits
set_option maxHeartbeats 1000000 in
theorem Copysign_0 (w : World) :
    Calls Try.prog 39 #[.float .f64 0, .float .f64 13830554455654793216] w fun e w' => e = .returned (.float .f64 9223372036854775808) ∧ w = w' := by
  go_enter Try.func39, Try.ntmps39
  go_wp2
  go_ret
  exact ⟨ret_float (by decide +kernel), rfl⟩
theorem WAt.new (w : World) : WAt (w.alloc (.cells #[.pointer none, .int .i64 0, .bool false] 27)) w.heap.size (Only w.heap.size) [] :=
  ⟨rfl, fun k hk => by cases hk; simp, B8.nil, .inl ⟨heap_alloc_new w _, rfl⟩⟩
/-- A Writer of the call's own (w: the world in which the call began). -/
def OwnW (w wr : World) (bw : Nat) (l : List Nat) : Prop := ∃ S, WAt wr bw S l ∧ (∀ k, S k → w.heap.size ≤ k) ∧ Kept None w wr
theorem OwnW.new (w wr : World) (h : Kept None w wr) : OwnW w (wr.alloc (.cells #[.pointer none, .int .i64 0, .bool false] 27)) wr.heap.size [] :=
  ⟨_, WAt.new wr, fun k hk => by cases hk; exact h.size, h.alloc _⟩
theorem OwnW.put {w wr w' : World} {bw : Nat} {S : Nat → Prop} {l : List Nat} {x : Ending} (hs : ∀ k, S k → w.heap.size ≤ k) (hk : Kept None w wr) (h : Put bw S l wr x w') : x = .returned (.tuple #[]) ∧ OwnW w w' bw l := by
  obtain ⟨hx, h1, h2⟩ := h
  have := hk.size
  exact ⟨hx, _, h1, fun k hk => hk.elim (hs k) (fun h => by omega), hk.trans' h2 (fun x hx => .inr (hs x hx))⟩
theorem OwnW.kept {w wr w' : World} {bw : Nat} {l : List Nat} (h : OwnW w wr bw l) (hk : Kept None wr w') : OwnW w w' bw l := by
  obtain ⟨S, h1, h2, h3⟩ := h
  exact ⟨S, h1.kept hk (fun _ _ h => h), h2, h3.trans hk⟩
theorem OwnW.keeps {w wr : World} {bw : Nat} {l : List Nat} (h : OwnW w wr bw l) : Kept None w wr ∧ B8 l := by obtain ⟨S, h1, h2, h3⟩ := h; exact ⟨h3, h1.2.2.1⟩
theorem WInt_own (w wr : World) (bw : Nat) (l : List Nat) (n : Int) (h : OwnW w wr bw l) (h1 : -9223372036854775808 ≤ n) (h2 : n ≤ 9223372036854775807) (hlen : l.length ≤ 35184372088832) :
    Calls Try.prog 21 #[.pointer (some ⟨bw, 0, none⟩), .int .i64 n] wr fun x w' => x = .returned (.tuple #[]) ∧ OwnW w w' bw (l ++ intB n) := by
  obtain ⟨S, hw, hs, hk⟩ := h
  exact (WInt_any bw S l n wr hw h1 h2 hlen).mono fun x w' hp => OwnW.put hs hk hp
theorem WMark_own (w wr : World) (bw : Nat) (l : List Nat) (b : Bool) (h : OwnW w wr bw l) (hlen : l.length ≤ 35184372088832) :
    Calls Try.prog 23 #[.pointer (some ⟨bw, 0, none⟩), .bool b] wr fun x w' => x = .returned (.tuple #[]) ∧ OwnW w w' bw (l ++ markB b) := by
  obtain ⟨S, hw, hs, hk⟩ := h
  exact (WMark_any bw S l b wr hw hlen).mono fun x w' hp => OwnW.put hs hk hp
theorem WFloat_own (w wr : World) (bw : Nat) (l : List Nat) (x : Nat) (h : OwnW w wr bw l) (hlen : l.length ≤ 35184372088832) :
    Calls Try.prog 25 #[.pointer (some ⟨bw, 0, none⟩), .float .f64 x] wr fun x' w' => x' = .returned (.tuple #[]) ∧ OwnW w w' bw (l ++ fltB x) := by
  obtain ⟨S, hw, hs, hk⟩ := h
  exact (WFloat_any bw S l x wr hw hlen).mono fun x w' hp => OwnW.put hs hk hp
/-- what Bytes answers, of a Writer of the call's own -/
def BytesOwn (w wr : World) (bw : Nat) (l : List Nat) (x : Ending) (w' : World) : Prop :=
  ∃ b a cap, x = .returned (.tuple #[.slice a l.length cap, .int .i64 0]) ∧ OwnB 5 w' b a cap l ∧ wr.heap.size ≤ b ∧ b ≤ w'.heap.size ∧ OwnW w w' bw l ∧ Kept None wr w'
theorem WBytes_own (w wr : World) (bw : Nat) (l : List Nat) (h : OwnW w wr bw l) (hlen : l.length ≤ 35184372088832) :
    Calls Try.prog 15 #[.pointer (some ⟨bw, 0, none⟩)] wr (BytesOwn w wr bw l) := by
  have h0 := h
  obtain ⟨S, hw, hs, hk⟩ := h
  exact (WBytes_any bw S l wr hw hlen).mono fun x w' ⟨b, a, cap, hx, ho, hb, hb2, hk2⟩ => ⟨b, a, cap, hx, ho, hb, hb2, h0.kept hk2, hk2⟩
theorem wakes_same : decide (intB 64 ++ fltB 9223372036854775808 = [128, 1, 128, 0, 0, 0, 0, 0, 0, 0]) = true := by decide +kernel
set_option maxHeartbeats 1000000 in
theorem wakes_any (w : World) :
    Calls Try.prog 16 #[] w fun e w' => e = .returned (.bool true) ∧ Kept None w w' := by
  have H0 := Lib.hid (OwnW.new w w (Kept.refl _ _))
  go_enter Try.func16, Try.ntmps16
  go_wp2_with fail
  refine (WInt_own w _ w.heap.size [] 64 H0.out (by decide) (by decide) (by decide)).mono ?_
  rintro x w1 ⟨rfl, h1⟩
  have H1 := Lib.hid h1
  clear h1
  go_wp2_with (first | (go_at_call 39; refine (Copysign_0 _).mono ?_; rintro e w' ⟨rfl, rfl⟩))
  refine (WFloat_own w _ w.heap.size _ _ H1.out (by decide +kernel)).mono ?_
  rintro x w2 ⟨rfl, h2⟩
  have H2 := Lib.hid h2
  clear h2
  go_wp2_with fail
  refine (WBytes_own w _ w.heap.size _ H2.out (by decide +kernel)).mono ?_
  rintro x w3 ⟨b, a, cap, rfl, ho, hb, hb2, hw3, hk3⟩
  have HO := Lib.hid ho
  have H3 := Lib.hid hw3.keeps
  clear ho hw3 hk3
  go_wp2_with fail
  refine (KBytes_any b a cap _ w3.heap.size _ 10 [128, 1, 128, 0, 0, 0, 0, 0, 0, 0] _ (HO.out.src.kept ((Kept.refl None _).alloc _) (fun _ h => h)) (shows_made (heap_alloc_new w3 _) rfl (by decide) (by decide)).src (by decide +kernel) (by decide)).mono ?_
  rintro x w4 ⟨rfl, n, rfl⟩
  have hd := wakes_same
  go_wp2
  go_ret
  exact ⟨ret_bool hd, (H3.out.1.alloc _).drewN n⟩
end Go.Proofs.Ytjlpmmbmjkbdiaa.Pk
