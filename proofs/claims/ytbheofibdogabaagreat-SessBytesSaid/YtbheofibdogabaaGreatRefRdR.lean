import Derived.Test.YtbheofibdogabaaGreatMergeSb49
import Derived.Test.YtbheofibdogabaaGreatMergeSb18
/- The reference's Decode: a machine that is being read. No walk. -/
namespace Go.Proofs.YtbheofibdogabaaGreat.Ss
open Go Go.RowKit Vl Kv Mem Nm

/-- the result's box (w.heap.size), the Reader's (+ 1), the machine's (+ 2) -/
structure RdR (w wr : World) (b : Nat) (a : Option Addr) (cap : Nat) (F r : List Nat) (e : Int) (P : List Pr) (S : List Se) (s : Ms) (bp bq : Nat) : Prop where
  rd : RR wr (w.heap.size + 1) b a cap F r e
  beh : Beh w wr
  mbox : wr.heap[w.heap.size + 2]? = some (.cells #[.slice s.a P.length s.cap, .slice s.a2 S.length s.cap2] 25)
  zbox : wr.heap[w.heap.size]? = some (.cells #[.slice none 0 0, .slice none 0 0] 25)
  op : OwnP 61 wr bp s.a s.cap P
  oq : OwnS 54 wr bq s.a2 s.cap2 S
  lo1 : s.a ≠ none → w.heap.size + 3 ≤ bp
  lo2 : s.a2 ≠ none → w.heap.size + 3 ≤ bq
  ne : s.a ≠ none → s.a2 ≠ none → bp ≠ bq
  lbs : F ≠ [] → b < w.heap.size
section
variable {w wr w' : World} {b bp bq : Nat} {a : Option Addr} {cap : Nat} {F r r' : List Nat} {e e' : Int} {P : List Pr} {S : List Se} {s : Ms}
theorem RdR.len (h : RdR w wr b a cap F r e P S s bp bq) : w.heap.size + 2 < wr.heap.size := lt_of_heap h.mbox
theorem RdR.call (h : RdR w wr b a cap F r e P S s bp bq) (hr : RR w' (w.heap.size + 1) b a cap F r' e') (hk : Kept (Only (w.heap.size + 1)) wr w') : RdR w w' b a cap F r' e' P S s bp bq := by
  refine ⟨hr, h.beh.below.trans (hk.below h.beh.size (fun k hk => by have hk : k = w.heap.size + 1 := hk; omega)), keptO hk h.mbox (by omega), keptO hk h.zbox (by omega), h.op.kept hk (fun ha e => by have := h.lo1 ha; have e : bp = w.heap.size + 1 := e; omega), h.oq.kept hk (fun ha e => by have := h.lo2 ha; have e : bq = w.heap.size + 1 := e; omega), h.lo1, h.lo2, h.ne, h.lbs⟩
theorem RdR.on (h : RdR w wr b a cap F r e P S s bp bq) (hk : Kept None wr w') : RdR w w' b a cap F r e P S s bp bq :=
  h.call (h.rd.kept hk (fun h => h) (fun _ h => h)) hk.ofNone
theorem RdR.pair {b' cap' : Nat} {a' : Option Addr} {p : Pr} (h : RdR w wr b a cap F r e P S s bp bq)
    (h2 : OwnC 61 4 w' b' a' cap' (P.length + 1) (flat P ++ flat [p])) (h3 : Kept (Of s.a bp) wr w') (h4 : (b' = bp ∧ (a' = none ∨ s.a ≠ none)) ∨ wr.heap.size ≤ b') :
    RdR w (w'.setCell ⟨w.heap.size + 2, 0, none⟩ (.slice a' (P.length + 1) cap')) b a cap F r e (P ++ [p]) S ⟨a', cap', s.a2, s.cap2⟩ b' bq := by
  have hlen := h.len
  have hof : ∀ k, Of s.a bp k → w.heap.size + 3 ≤ k := fun k hk => by have h1 := h.lo1 hk.1; have h2 := hk.2; omega
  have hm : w'.heap[w.heap.size + 2]? = _ := h3.heap h.mbox (fun e => by have := hof _ e; omega)
  have hset : Kept (Only (w.heap.size + 2)) w' (w'.setCell ⟨w.heap.size + 2, 0, none⟩ (.slice a' (P.length + 1) cap')) := (Kept.refl (Only (w.heap.size + 2)) w').setAt (.inl rfl) _ _
  have hblo : a' ≠ none → w.heap.size + 3 ≤ b' := fun ha => by
    rcases h4 with ⟨rfl, h4⟩ | h4
    · exact h.lo1 (h4.resolve_left ha)
    · omega
  refine ⟨(h.rd.kept h3 (fun e => by have := hof _ e; omega) (fun hF e => by have := hof _ e; have := h.lbs hF; omega)).kept hset (fun e => by have e : w.heap.size + 1 = w.heap.size + 2 := e; omega) (fun hF e => by have e : b = w.heap.size + 2 := e; have := h.lbs hF; omega),
    (h.beh.below.trans (h3.below h.beh.size (fun k hk => by have := hof _ hk; omega))).trans (hset.below (by have := h3.size; omega) (fun k hk => by have hk : k = w.heap.size + 2 := hk; omega)), ?_, ?_, ?_, ?_, hblo, h.lo2, ?_, h.lbs⟩
  · have := heap_setc (b := w.heap.size + 2) (i := 0) (v := .slice a' (P.length + 1) cap') hm
    rw [this]
    simp
  · exact hset.heap (h3.heap h.zbox (fun e => by have := hof _ e; omega)) (fun e => by have e : w.heap.size = w.heap.size + 2 := e; omega)
  · have := OwnC.kept h2 hset (fun ha e => by have := hblo ha; have e : b' = w.heap.size + 2 := e; omega)
    show OwnC _ 4 _ b' a' cap' (P ++ [p]).length (flat (P ++ [p]))
    rw [List.length_append, flat_append]
    exact this
  · exact OwnC.kept (OwnC.kept h.oq h3 (fun ha e => by have e2 := e.2; exact (h.ne e.1 ha) e2.symm)) hset (fun ha e => by have := h.lo2 ha; have e : bq = w.heap.size + 2 := e; omega)
  · intro ha ha2 e
    rcases h4 with ⟨rfl, h4⟩ | h4
    · exact h.ne (h4.resolve_left ha) ha2 e
    · have := OwnC.lt h.oq ha2
      omega
theorem RdR.sess {b' cap' : Nat} {a' : Option Addr} {p : Se} (h : RdR w wr b a cap F r e P S s bp bq)
    (h2 : OwnC 54 6 w' b' a' cap' (S.length + 1) (flatS S ++ flatS [p])) (h3 : Kept (Of s.a2 bq) wr w') (h4 : (b' = bq ∧ (a' = none ∨ s.a2 ≠ none)) ∨ wr.heap.size ≤ b') :
    RdR w (w'.setCell ⟨w.heap.size + 2, 1, none⟩ (.slice a' (S.length + 1) cap')) b a cap F r e P (S ++ [p]) ⟨s.a, s.cap, a', cap'⟩ bp b' := by
  have hlen := h.len
  have hof : ∀ k, Of s.a2 bq k → w.heap.size + 3 ≤ k := fun k hk => by have h1 := h.lo2 hk.1; have h2 := hk.2; omega
  have hm : w'.heap[w.heap.size + 2]? = _ := h3.heap h.mbox (fun e => by have := hof _ e; omega)
  have hset : Kept (Only (w.heap.size + 2)) w' (w'.setCell ⟨w.heap.size + 2, 1, none⟩ (.slice a' (S.length + 1) cap')) := (Kept.refl (Only (w.heap.size + 2)) w').setAt (.inl rfl) _ _
  have hblo : a' ≠ none → w.heap.size + 3 ≤ b' := fun ha => by
    rcases h4 with ⟨rfl, h4⟩ | h4
    · exact h.lo2 (h4.resolve_left ha)
    · omega
  refine ⟨(h.rd.kept h3 (fun e => by have := hof _ e; omega) (fun hF e => by have := hof _ e; have := h.lbs hF; omega)).kept hset (fun e => by have e : w.heap.size + 1 = w.heap.size + 2 := e; omega) (fun hF e => by have e : b = w.heap.size + 2 := e; have := h.lbs hF; omega),
    (h.beh.below.trans (h3.below h.beh.size (fun k hk => by have := hof _ hk; omega))).trans (hset.below (by have := h3.size; omega) (fun k hk => by have hk : k = w.heap.size + 2 := hk; omega)), ?_, ?_, ?_, ?_, h.lo1, hblo, ?_, h.lbs⟩
  · have := heap_setc (b := w.heap.size + 2) (i := 1) (v := .slice a' (S.length + 1) cap') hm
    rw [this]
    simp
  · exact hset.heap (h3.heap h.zbox (fun e => by have := hof _ e; omega)) (fun e => by have e : w.heap.size = w.heap.size + 2 := e; omega)
  · exact OwnC.kept (OwnC.kept h.op h3 (fun ha e => by have e2 := e.2; exact (h.ne ha e.1) e2)) hset (fun ha e => by have := h.lo1 ha; have e : bp = w.heap.size + 2 := e; omega)
  · have := OwnC.kept h2 hset (fun ha e => by have := hblo ha; have e : b' = w.heap.size + 2 := e; omega)
    show OwnC _ 6 _ b' a' cap' (S ++ [p]).length (flatS (S ++ [p]))
    rw [List.length_append, flatS_append]
    exact this
  · intro ha ha2 e
    rcases h4 with ⟨rfl, h4⟩ | h4
    · exact h.ne ha (h4.resolve_left ha2) e
    · have := OwnC.lt h.op ha
      omega
end
end Go.Proofs.YtbheofibdogabaaGreat.Ss
