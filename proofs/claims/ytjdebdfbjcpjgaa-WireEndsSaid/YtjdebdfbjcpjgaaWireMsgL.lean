/- A message that came in and is not too heavy fits. -/
import Derived.Test.YtjdebdfbjcpjgaaWireHm
import Derived.Test.YtjdebdfbjcpjgaaWireEncM
namespace Go.Proofs.Ytjdebdfbjcpjgaa.Wr
open Go Go.RowKit Vl Kv Ss Cn Lg Li
theorem MsgIn.on {w w' : World} {x : Mr} {L : List Mr} (h : MsgIn w x L) (hb : Below w.heap.size w w') : MsgIn w' x L := ⟨h.flat.on hb, h.len, h.list.below hb, fun y hy => by
  obtain ⟨h1, K, h2, h3, h4⟩ := h.all y hy
  exact ⟨h1.on hb, K, h2, h3.below hb, fun z hz => (h4 z hz).on hb⟩⟩
theorem MsgIn.at_ {w : World} {x : Mr} {L : List Mr} (h : MsgIn w x L) : MsgAt w x L := ⟨h.flat, h.len, h.list, fun y hy => (h.all y hy).1⟩
theorem heavyF_no {f : Fl} (h : heavyF f = false) : heavyL f.ents = false ∧ f.snap.length ≤ 32768 := by
  unfold heavyF at h
  rw [Bool.or_eq_false_iff] at h
  exact ⟨h.1, by have := of_decide_eq_false h.2; omega⟩
theorem Light.fit {w : World} {x : Mr} {L : List Mr} (h : Light x L) (hm : MsgIn w x L) (rx : RF x.1) (rl : ∀ y ∈ L, RF y.1) : FitMs x L :=
  ⟨rx.fit (heavyF_no h.self).1 (heavyF_no h.self).2, hm.len, by have := h.len; omega, fun y hy => ⟨(rl y hy).fit (heavyF_no (h.all y hy).1).1 (heavyF_no (h.all y hy).1).2, by have := (h.all y hy).2; omega⟩⟩
end Go.Proofs.Ytjdebdfbjcpjgaa.Wr
