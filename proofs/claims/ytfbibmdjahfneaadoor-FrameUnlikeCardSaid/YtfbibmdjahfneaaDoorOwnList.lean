/- Rows that a call has made itself (bytes of its own in cells of its own): one more row. -/
import Derived.Test.YtfbibmdjahfneaaDoorKList
namespace Go.Proofs.YtfbibmdjahfneaaDoor.Kp
open Go Go.RowKit Mem
theorem infoRow : (Tryd.prog.info? 22).map (fun i => (i.zero, i.size, i.bytes)) = some (some (.slice none 0 0), 1, 24) := by kernel_rfl
structure OwnRows (w wr : World) (b : Nat) (a : Option Addr) (cap : Nat) (R : List Row) : Prop where
  outer : OwnV 22 wr b a cap (R.map Row.val)
  new : w.heap.size ≤ b
  old : b ≤ wr.heap.size
  inner : ∀ r ∈ R, OwnB 5 wr r.b r.a r.cap r.l ∧ w.heap.size ≤ r.b ∧ (r.a ≠ none → a ≠ none → r.b ≠ b)
  kept : Kept None w wr
theorem OwnRows.start (w : World) : OwnRows w w w.heap.size none 0 [] := ⟨OwnV.nil _ _ _, Nat.le_refl _, Nat.le_refl _, fun _ h => (List.not_mem_nil h).elim, Kept.refl _ _⟩
theorem OwnRows.rows {w wr : World} {b : Nat} {a : Option Addr} {cap : Nat} {R : List Row} (h : OwnRows w wr b a cap R) : RowsAt wr a cap R := ⟨b, .inl (ownV_shows h.outer), fun r hr => (h.inner r hr).1.src⟩
theorem OwnRows.on {w wr w' : World} {b : Nat} {a : Option Addr} {cap : Nat} {R : List Row} (h : OwnRows w wr b a cap R) (hk : Kept None wr w') : OwnRows w w' b a cap R :=
  ⟨h.outer.kept hk (fun _ h => h), h.new, Nat.le_trans h.old hk.size, fun r hr => ⟨(h.inner r hr).1.kept hk (fun _ h => h), (h.inner r hr).2⟩, h.kept.trans hk⟩
theorem OwnRows.next {w wr w1 w2 w3 : World} {b br b' : Nat} {a ar a' : Option Addr} {cap cr cap' : Nat} {R : List Row} {p : List Nat} (h : OwnRows w wr b a cap R) (hk : Kept None wr w1) (hr : OwnB 5 w1 br ar cr p) (hrb : wr.heap.size ≤ br) (hk2 : Kept None w1 w2)
    (h2 : OwnV 22 w3 b' a' cap' (R.map Row.val ++ [.slice ar p.length cr])) (h3 : Kept (Of a b) w2 w3) (h4 : (b' = b ∧ a ≠ none) ∨ w2.heap.size ≤ b') :
    OwnRows w w3 b' a' cap' (R ++ [⟨br, ar, cr, p⟩]) := by
  have ha' : a' ≠ none := by
    rcases h2 with ⟨_, _, h⟩ | ⟨h, _⟩
    · simp at h
    · rw [h]; simp
  have k2 : Kept None wr w2 := hk.trans hk2
  have hsz := h.kept.size
  have hs2 := k2.size
  refine ⟨by rw [List.map_append]; exact h2, ?_, Nat.le_of_lt (h2.lt ha'), ?_, (h.kept.trans k2).trans' h3 (fun x hx => .inr (by rw [hx.2]; exact h.new))⟩
  · rcases h4 with ⟨rfl, _⟩ | h4
    · exact h.new
    · omega
  · intro r hr'
    rcases List.mem_append.1 hr' with hm | hm
    · obtain ⟨o1, o2, o3⟩ := h.inner r hm
      have o4 : OwnB 5 w2 r.b r.a r.cap r.l := o1.kept k2 (fun _ h => h)
      refine ⟨o4.kept h3 (fun hn e => o3 hn e.1 e.2), o2, fun hn _ => ?_⟩
      rcases h4 with ⟨rfl, h4⟩ | h4
      · exact o3 hn h4
      · have := o4.lt hn; omega
    · obtain rfl : r = ⟨br, ar, cr, p⟩ := by simpa using hm
      have o4 : OwnB 5 w2 br ar cr p := hr.kept hk2 (fun _ h => h)
      have hne : a ≠ none → br ≠ b := fun hn => by have := h.outer.lt hn; omega
      refine ⟨o4.kept h3 (fun _ e => hne e.1 e.2), Nat.le_trans hsz hrb, fun hn _ => ?_⟩
      rcases h4 with ⟨rfl, h4⟩ | h4
      · exact hne h4
      · have := o4.lt hn; show br ≠ b'; omega
end Go.Proofs.YtfbibmdjahfneaaDoor.Kp
