/- Walks of the Writer: Mark, Bytes. -/
import Derived.Test.YtlgmjkbaihpmmaaGreatPut
import Derived.Test.YtlgmjkbaihpmmaaGreatCanon
namespace Go.Proofs.YtlgmjkbaihpmmaaGreat.Pk
open Go Go.RowKit Mem
theorem WAt.lt {w : World} {bw : Nat} {S : Nat → Prop} {l : List Nat} (h : WAt w bw S l) : (∀ k, S k → k < w.heap.size) ∧ B8 l ∧ S bw := ⟨h.2.1, h.2.2.1, h.1⟩
theorem WAt.mono {w : World} {bw : Nat} {S T : Nat → Prop} {l : List Nat} (h : WAt w bw S l) (hs : ∀ k, S k → T k) (ht : ∀ k, T k → k < w.heap.size) : WAt w bw T l := by
  obtain ⟨h1, _, h8, h3⟩ := h
  refine ⟨hs _ h1, ht, h8, ?_⟩
  rcases h3 with h3 | ⟨bp, bd, a, cap, hh, hp, ho, sp, sd, n⟩
  · exact .inl h3
  · exact .inr ⟨bp, bd, a, cap, hh, hp, ho, hs _ sp, fun ha => hs _ (sd ha), n⟩
theorem Put.later {bw : Nat} {S : Nat → Prop} {l : List Nat} {w w1 : World} {x : Ending} {w' : World} (h : Put bw S l w1 x w') (hk : Kept None w w1) (hlt : ∀ k, S k → k < w.heap.size) : Put bw S l w x w' := by
  obtain ⟨hx, h1, h2⟩ := h
  have := hk.size
  have := h2.size
  refine ⟨hx, h1.mono (fun k hk => hk.elim .inl (fun h => .inr ⟨by omega, h.2⟩)) (fun k hk => ?_), hk.ofNone.trans h2⟩
  rcases hk with hk | hk
  · have := hlt k hk; omega
  · exact hk.2
/-- put, of bytes in a block that is new -/
theorem put_new (bw : Nat) (S : Nat → Prop) (l : List Nat) (w w1 : World) (h : WAt w bw S l) (hk : Kept None w w1) (b2 : Nat) (hb : w.heap.size ≤ b2) (a2 : Option Addr) (cap2 n : Nat) (m : List Nat) (hs : Shows w1 b2 a2 cap2 m) (hn : n = m.length) (hm : B8 m) (hlen : l.length + n ≤ 70368744177664) :
    Calls Tryz.prog 45 #[.pointer (some ⟨bw, 0, none⟩), .slice a2 n cap2] w1 (Put bw S (l ++ m) w) := by
  subst hn
  refine (put_any bw S l w1 (h.kept hk (fun _ _ h => h)) b2 a2 cap2 m hs.src (fun _ e => by have := h.2.1 _ e; omega) hm hlen).mono fun x w' hp => ?_
  exact hp.later hk h.2.1
/-- whatever put makes of the bytes m in a block that is new: Q -/
def PutsNew (bw : Nat) (w : World) (m : List Nat) (Q : World → Prop) : Prop :=
  ∀ (w1 : World) (b2 : Nat) (a2 : Option Addr) (cap2 n : Nat), Kept None w w1 → w.heap.size ≤ b2 → Shows w1 b2 a2 cap2 m → n = m.length →
    Calls Tryz.prog 45 #[.pointer (some ⟨bw, 0, none⟩), .slice a2 n cap2] w1 fun x w' => x = .returned (.tuple #[]) ∧ Q w'
theorem puts_new (bw : Nat) (S : Nat → Prop) (l : List Nat) (w : World) (h : WAt w bw S l) (m : List Nat) (hm : B8 m) (hlen : l.length + m.length ≤ 70368744177664) :
    PutsNew bw w m fun w' => WAt w' bw (Grow S w w') (l ++ m) ∧ Kept S w w' := by
  intro w1 b2 a2 cap2 n hk hb hs hn
  exact put_new bw S l w w1 h hk b2 hb a2 cap2 n m hs hn hm (by omega)
/-- the head of an array that the call has made -/
theorem shows_made {w : World} {b : Nat} {C : Array Value} {t : TypeId} {f : Nat × Nat} {m : List Nat} {cap : Nat} (h : w.heap[b]? = some (.cells C t f)) (hC : C.toList.take m.length = m.map byteV) (h1 : m.length ≤ cap) (h2 : cap ≤ 9223372036854775807) : Shows w b (some ⟨b, 0, none⟩) cap m := by
  refine ⟨h1, h2, .inr ⟨0, rfl, fun i hi => ?_⟩⟩
  rw [Nat.zero_add, cell_heap h i]
  have e : (C.toList.take m.length)[i]? = (m.map byteV)[i]? := by rw [hC]
  rw [List.getElem?_take_of_lt hi] at e
  rw [← Array.getElem?_toList, e]
  simp [byteV, hi]
/-- what Bytes answers -/
def BytesPost (l : List Nat) (w : World) (x : Ending) (w' : World) : Prop :=
  ∃ b a cap, x = .returned (.tuple #[.slice a l.length cap, .int .i64 0]) ∧ OwnB 5 w' b a cap l ∧ w.heap.size ≤ b ∧ b ≤ w'.heap.size ∧ Kept None w w'
set_option maxHeartbeats 1000000 in
theorem WBytes_any (bw : Nat) (S : Nat → Prop) (l : List Nat) (w : World) (h : WAt w bw S l) (hlen : l.length ≤ 35184372088832) :
    Calls Tryz.prog 23 #[.pointer (some ⟨bw, 0, none⟩)] w (BytesPost l w) := by
  obtain ⟨_, _, h8, h3⟩ := h
  rcases h3 with ⟨hh, rfl⟩ | ⟨bp, bd, a, cap, hh, hp, ho, sp, sd, n⟩
  · have c2 := cell_heap hh 2
    simp at c2
    have HH := Lib.hid hh
    clear hh
    go_enter Tryz.func23, Tryz.ntmps23
    go_wp2_with (first | (go_at_call 48; refine (written_nil bw w HH.out).mono ?_; rintro x w' ⟨rfl, rfl⟩) | (go_at_call 47; refine (Clone_nil _).mono ?_; rintro e w' ⟨rfl, rfl⟩))
    go_ret2
    exact ⟨w.heap.size, none, 0, rfl, OwnB.nil _ _ _, Nat.le_refl _, Nat.le_refl _, Kept.refl _ _⟩
  · have c2 := cell_heap hh 2
    simp at c2
    have HH := Lib.hid hh
    have HP := Lib.hid hp
    have HO := Lib.hid ho
    clear hh hp ho
    go_enter Tryz.func23, Tryz.ntmps23
    go_wp2_with fail
    refine (written_some bw bp a cap l w HH.out HP.out HO.out.shows.1).mono ?_
    rintro x w1 ⟨rfl, n1, rfl⟩
    go_wp2_with fail
    refine (Clone_any bd a cap l (w.drewN n1) (HO.out.src.heap rfl) hlen).mono ?_
    rintro x w3 ⟨b3, a3, cap3, rfl, ho, hb3, k3, hb4⟩
    have HO3 := Lib.hid ho
    clear ho
    go_wp2
    go_ret2
    exact ⟨b3, a3, cap3, rfl, HO3.out, hb3, hb4, k3.heap2 rfl rfl rfl rfl⟩
end Go.Proofs.YtlgmjkbaihpmmaaGreat.Pk
