import Derived.Test.YtjdebdfbjcpjgaaWireKF
import Derived.Test.YtjdebdfbjcpjgaaMergeWr27
/- What is the same to the keeper, of messages that may be written, is one message. Plain. -/
namespace Go.Proofs.Ytjdebdfbjcpjgaa.Wr
open Go Go.RowKit Vl Kv Ss Cn Lg Li
theorem ok_canon {v : V} (h : cVal.ok v) : Nm.canon v.num = v.num := by
  have h2 := (cVal_ok (fitV_of h)).1 h
  unfold okV at h2
  rw [Bool.and_eq_true] at h2
  have h3 := h2.2
  by_cases h1 : v.kind = 1
  · rw [if_pos h1, beq_iff_eq] at h3; exact h3
  · rw [if_neg h1, beq_iff_eq] at h3; rw [h3]; exact canon_zero
theorem ent_canon {x : E} (h : cEnt.ok x) : Nm.canon x.call.cmd.old.num = x.call.cmd.old.num ∧ Nm.canon x.call.cmd.val.num = x.call.cmd.val.num := by
  obtain ⟨t, k, c, f⟩ := x
  have h : (In64 t ∧ In64 k) ∧ (entPart k).ok (c, f) := h
  have h := h.2
  have hz : Nm.canon Cl.zero.cmd.old.num = Cl.zero.cmd.old.num ∧ Nm.canon Cl.zero.cmd.val.num = Cl.zero.cmd.val.num := ⟨canon_zero, canon_zero⟩
  unfold entPart at h
  by_cases h1 : k = 1
  · rw [if_pos h1] at h
    have h : (cCall.ok c ∧ (c, C.zero) = (c, f)) := h
    have h : In64 c.client ∧ In64 c.seq ∧ (In64 c.cmd.kind ∧ cKey.ok c.cmd.key ∧ cVal.ok c.cmd.old ∧ cVal.ok c.cmd.val) := h.1
    exact ⟨ok_canon h.2.2.2.2.1, ok_canon h.2.2.2.2.2⟩
  · rw [if_neg h1] at h
    by_cases h2 : k = 2
    · rw [if_pos h2] at h
      have h : (cConf.ok f ∧ (Cl.zero, f) = (c, f)) := h
      have hc : Cl.zero = c := congrArg Prod.fst h.2
      show Nm.canon c.cmd.old.num = _ ∧ Nm.canon c.cmd.val.num = _
      rw [← hc]; exact hz
    · rw [if_neg h2] at h
      by_cases h0 : k = 0
      · rw [if_pos h0] at h
        have h : (c, f) = (Cl.zero, C.zero) := h
        have hc : c = Cl.zero := congrArg Prod.fst h
        show Nm.canon c.cmd.old.num = _ ∧ Nm.canon c.cmd.val.num = _
        rw [hc]; exact hz
      · rw [if_neg h0] at h
        exact (h : False).elim
theorem vsame_eq {a b : V} (h : a.same b = true) (ha : Nm.canon a.num = a.num) (hb : Nm.canon b.num = b.num) : a = b := by
  unfold V.same Nm.same at h
  rw [Bool.and_eq_true, Bool.and_eq_true, decide_eq_true_eq, decide_eq_true_eq, decide_eq_true_eq, ha, hb] at h
  exact V.ext h.1.1 h.1.2 h.2
theorem esame_eq {x y : E} (h : E.same x y = true) (hx : cEnt.ok x) (hy : cEnt.ok y) : x = y := by
  obtain ⟨x1, x2⟩ := ent_canon hx
  obtain ⟨y1, y2⟩ := ent_canon hy
  obtain ⟨t, k, ⟨cl, sq, ⟨kd, ky, o, v⟩⟩, f⟩ := x
  obtain ⟨t', k', ⟨cl', sq', ⟨kd', ky', o', v'⟩⟩, f'⟩ := y
  unfold E.same Cl.same Cm.same at h
  simp only [Bool.and_eq_true, beq_iff_eq, decide_eq_true_eq] at h
  obtain ⟨⟨⟨h1, h2⟩, ⟨h3, h4⟩, ⟨⟨h5, h6⟩, h7⟩, h8⟩, h9⟩ := h
  have e1 := vsame_eq h7 x1 y1
  have e2 := vsame_eq h8 x2 y2
  subst h1 h2 h3 h4 h5 h6 h9 e1 e2
  rfl
theorem fsame_eq {f g : Fl} (h : Fl.same f g = true) (hf : cHead.ok f) (hg : cHead.ok g) : f = g := by
  have ents : ∀ f, cHead.ok f → ∀ x ∈ f.ents, cEnt.ok x := fun f o => by
    have o : In64 f.kind ∧ In64 f.from_ ∧ In64 f.to ∧ In64 f.term ∧ In64 f.index ∧ In64 f.logt ∧ In64 f.commit ∧ In64 f.round ∧ True ∧ (cList cEnt (fun n => decide (n ≤ 8))).ok f.ents ∧ cConf.ok f.conf ∧ (f.snap.length ≤ 16384 ∧ Mem.B8 f.snap) := o
    exact ((cList_ok cEnt).1 o.2.2.2.2.2.2.2.2.2.1).2.2
  have a1 := ents f hf
  have a2 := ents g hg
  obtain ⟨k, fr, to, t, i, lt, cm, rd, ys, es, c, s⟩ := f
  obtain ⟨k', fr', to', t', i', lt', cm', rd', ys', es', c', s'⟩ := g
  unfold Fl.same at h
  simp only [Bool.and_eq_true, beq_iff_eq, decide_eq_true_eq] at h
  obtain ⟨⟨⟨⟨⟨⟨⟨⟨⟨⟨⟨h1, h2⟩, h3⟩, h4⟩, h5⟩, h6⟩, h7⟩, h8⟩, h9⟩, h10⟩, h11⟩, h12⟩ := h
  have e1 := sameBy_eq h10 fun x hx y hy hxy => esame_eq hxy (a1 x hx) (a2 y hy)
  subst h1 h2 h3 h4 h5 h6 h7 h8 h9 e1 h11 h12
  rfl
end Go.Proofs.Ytjdebdfbjcpjgaa.Wr
