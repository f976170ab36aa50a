import Derived.Test.YtaengjgmchpabaaGreatMergeWr4
/- The Writer's put. -/
namespace Go.Proofs.YtaengjgmchpabaaGreat.Pk
open Go Go.RowKit Mem
/-- a Writer that has more behind it -/
def Put (bw : Nat) (S : Nat → Prop) (l : List Nat) (w : World) (x : Ending) (w' : World) : Prop :=
  x = .returned (.tuple #[]) ∧ WAt w' bw (Grow S w w') l ∧ Kept S w w'
/-- what the walk reads behind the append -/
theorem put_facts {w w' : World} {bw bp bd : Nat} {a : Option Addr} {v0 v1 v2 : Value} (c0 : w.cell? ⟨bw, 0, none⟩ = some v0) (c1 : w.cell? ⟨bw, 1, none⟩ = some v1) (p0 : w.cell? ⟨bp, 0, none⟩ = some v2) (g1 : w.frozen? ⟨bw, 1, none⟩ = false) (q0 : w.frozen? ⟨bp, 0, none⟩ = false)
    (_n1 : bw ≠ bp) (n2 : bd ≠ bw) (n3 : bd ≠ bp) (h : Kept (Of a bd) w w') :
    w'.cell? ⟨bw, 0, none⟩ = some v0 ∧ w'.cell? ⟨bw, 1, none⟩ = some v1 ∧ w'.cell? ⟨bp, 0, none⟩ = some v2 ∧ w'.frozen? ⟨bw, 1, none⟩ = false ∧ w'.frozen? ⟨bp, 0, none⟩ = false := by
  have lw := World.block_lt_of_cell? w _ c0
  have lp := World.block_lt_of_cell? w _ p0
  have nw : ¬ Of a bd bw := fun e => n2 e.2.symm
  have np : ¬ Of a bd bp := fun e => n3 e.2.symm
  exact ⟨(h.cell (p := ⟨bw, 0, none⟩) lw nw).trans c0, (h.cell (p := ⟨bw, 1, none⟩) lw nw).trans c1, (h.cell (p := ⟨bp, 0, none⟩) lp np).trans p0, (h.frozen (p := ⟨bw, 1, none⟩) lw nw).trans g1, (h.frozen (p := ⟨bp, 0, none⟩) lp np).trans q0⟩
/-- what stands behind a put -/
theorem put_end {T : TypeId} {w w' wf : World} {bw bp bd b' : Nat} {a a' : Option Addr} {cap cap' : Nat} {l m : List Nat} {S : Nat → Prop} {v : Value}
    (hh : w.heap[bw]? = some (.cells #[.pointer (some ⟨bp, 0, none⟩), v, .bool false] T (0, 0))) (hp : w.heap[bp]? = some (.cells #[.slice a l.length cap] 25 (0, 0)))
    (h8 : B8 l) (hm : B8 m) (hlt : ∀ k, S k → k < w.heap.size) (hS : S bw) (sp : S bp) (sd : a ≠ none → S bd) (n1 : bw ≠ bp) (n2 : bd ≠ bw) (n3 : bd ≠ bp)
    (h2 : OwnB 5 w' b' a' cap' (l ++ m)) (h3 : Kept (Of a bd) w w') (h4 : (b' = bd ∧ (a' = none ∨ a ≠ none)) ∨ w.heap.size ≤ b')
    (hf : wf.heap = ((w'.setCell ⟨bp, 0, none⟩ (.slice a' (l ++ m).length cap')).setCell ⟨bw, 1, none⟩ (.int .i64 (l ++ m).length)).heap) (ho : wf.os = w'.os) (ht : wf.tape = w'.tape) (hu : wf.output = w'.output) :
    WAt wf bw (Grow S w wf) (l ++ m) ∧ Kept S w wf := by
  have lw := lt_of_heap hh
  have lp := lt_of_heap hp
  have nw : ¬ Of a bd bw := fun e => n2 e.2.symm
  have np : ¬ Of a bd bp := fun e => n3 e.2.symm
  have hh' := h3.heap hh nw
  have hp' := h3.heap hp np
  have k1 : Kept S w w' := h3.mono (fun x hx => by rw [hx.2]; exact sd hx.1)
  have k2 : Kept S w ((w'.setCell ⟨bp, 0, none⟩ (.slice a' (l ++ m).length cap')).setCell ⟨bw, 1, none⟩ (.int .i64 (l ++ m).length)) := (k1.setAt (.inl sp) _ _).setAt (.inl hS) _ _
  have kf : Kept S w wf := ⟨ho.trans k1.os, ht.trans k1.tape, hu.trans k1.output, by rw [hf]; exact k2.size, fun k hk hs => by rw [hf]; exact k2.block k hk hs⟩
  have hsz : wf.heap.size = w'.heap.size := by rw [hf]; simp
  have nb' : a' ≠ none → b' ≠ bw ∧ b' ≠ bp ∧ (S b' ∨ w.heap.size ≤ b') := by
    intro ha
    rcases h4 with ⟨rfl, h⟩ | h
    · exact ⟨n2, n3, .inl (sd (h.resolve_left ha))⟩
    · exact ⟨by omega, by omega, .inr h⟩
  -- the block of the bytes may be named anew, where there is none
  obtain ⟨b3, o3, s3, m1, m2⟩ : ∃ b3, OwnB 5 w' b3 a' cap' (l ++ m) ∧ (a' ≠ none → Grow S w wf b3) ∧ b3 ≠ bw ∧ b3 ≠ bp := by
    by_cases ha : a' = none
    · subst ha
      exact ⟨bd, h2.move _, fun h => absurd rfl h, n2, n3⟩
    · have := nb' ha
      exact ⟨b', h2, fun _ => this.2.2.elim .inl (fun h => .inr ⟨h, by rw [hsz]; exact h2.lt ha⟩), this.1, this.2.1⟩
  have ko : OwnB 5 wf b3 a' cap' (l ++ m) := by
    have k4 : Kept (fun k => k = bp ∨ k = bw) w' ((w'.setCell ⟨bp, 0, none⟩ (.slice a' (l ++ m).length cap')).setCell ⟨bw, 1, none⟩ (.int .i64 (l ++ m).length)) := ((Kept.refl _ _).setAt (.inl (.inl rfl)) _ _).setAt (.inl (.inr rfl)) _ _
    exact (o3.kept k4 (fun _ e => e.elim m2 m1)).heap hf
  refine ⟨⟨.inl hS, fun k hk => ?_, h8.append hm, T, .inr ⟨bp, b3, a', cap', ?_, ?_, ko, .inl sp, s3, n1, m1, m2⟩⟩, kf⟩
  · rcases hk with hk | hk
    · exact Nat.lt_of_lt_of_le (hlt k hk) kf.size
    · exact hk.2
  · rw [hf, heap_set (heap_set_other hh' (a := ⟨bp, 0, none⟩) (fun e => n1 e.symm) _) 1]
    rfl
  · rw [hf]
    exact heap_set_other (heap_set hp' 0 _) (a := ⟨bw, 1, none⟩) (fun e => n1 e) _
set_option maxHeartbeats 4000000 in
theorem put_some {T : TypeId} (bw bp bd : Nat) (a : Option Addr) (cap : Nat) (l : List Nat) (S : Nat → Prop) (w : World) (hS : S bw) (hlt : ∀ k, S k → k < w.heap.size) (h8 : B8 l)
    (hh : w.heap[bw]? = some (.cells #[.pointer (some ⟨bp, 0, none⟩), .int .i64 l.length, .bool false] T (0, 0))) (hp : w.heap[bp]? = some (.cells #[.slice a l.length cap] 25 (0, 0)))
    (ho : OwnB 5 w bd a cap l) (sp : S bp) (sd : a ≠ none → S bd) (n1 : bw ≠ bp) (n2 : bd ≠ bw) (n3 : bd ≠ bp)
    (b2 : Nat) (a2 : Option Addr) (cap2 : Nat) (m : List Nat) (hs : Src w b2 a2 cap2 m) (hm : B8 m) (hlen : l.length + m.length ≤ 70368744177664) :
    Calls Tryz.prog 70 #[.pointer (some ⟨bw, 0, none⟩), .slice a2 m.length cap2] w (Put bw S (l ++ m) w) := by
  obtain ⟨i0, hi, hz0, hz1, hz2⟩ := info_parts infoU8
  have c0 := cell_heap hh 0
  have c1 := cell_heap hh 1
  have c2 := cell_heap hh 2
  have p0 := cell_heap hp 0
  have g1 := frozen_heap hh 1
  have q0 := frozen_heap hp 0
  simp at c0 c1 c2 p0
  have HH := Lib.hid hh
  have HP := Lib.hid hp
  have HO := Lib.hid ho
  have HS := Lib.hid hs
  have HL := Lib.hid hlt
  have hno : ((l.length : Int) != l.length) = false := by simp
  clear hh hp ho hs hlt
  go_enter Tryz.func70, Tryz.ntmps70
  go_wp2
  go_quiet (fail)
  go_wp2
  go_region_law ((refine step_append_bytes rfl (.tmp 43) (.tmp 44) 25 rfl 5 i0 Tryz.underlying25 hi hz0 hz1 hz2 bd a cap l l.length (by simp [Act.eval]) (HO.out.heap rfl) rfl b2 a2 cap2 m m.length (by simp [Act.eval]) (HS.out.heap rfl) rfl hlen ?_; intro b' a' cap' w' h2 h3 h4 h5; obtain ⟨e0, e1, e2, e3, e4⟩ := put_facts c0 c1 p0 g1 q0 n1 n2 n3 (h3.heap2 rfl rfl rfl rfl); have H2 := Lib.hid h2; have H3 := Lib.hid (h3.heap2 (v := w) rfl rfl rfl rfl); have H4 := Lib.hid h4; clear h2 h3 h4 h5))
  all_goals
    go_wp2
    go_end0
    exact ⟨rfl, put_end HH.out HP.out h8 hm HL.out hS sp sd n1 n2 n3 H2.out H3.out H4.out (by simp only [List.length_append, Int.natCast_add]) rfl rfl rfl⟩
theorem put_fin {w W1 wf : World} {bw bp : Nat} {S : Nat → Prop} {m : List Nat} (kw : Kept S w W1) (hlt : ∀ k, S k → k < w.heap.size) (s1 : W1.heap.size = bp + 1) (s0 : w.heap.size = bp)
    (h : WAt wf bw (Grow (fun k => S k ∨ k = bp) W1 wf) ([] ++ m) ∧ Kept (fun k => S k ∨ k = bp) W1 wf) : WAt wf bw (Grow S w wf) m ∧ Kept S w wf := by
  obtain ⟨⟨h1, h2, h8, h3⟩, hk⟩ := h
  have hsz := hk.size
  have sub : ∀ k, Grow (fun k => S k ∨ k = bp) W1 wf k → Grow S w wf k := by
    intro k hk
    rcases hk with (hk | hk) | hk
    · exact .inl hk
    · exact .inr ⟨by omega, by omega⟩
    · exact .inr ⟨by omega, hk.2⟩
  refine ⟨⟨sub _ h1, fun k hk => ?_, h8, ?_⟩, kw.trans' hk (fun x hx => hx.elim .inl (fun e => .inr (by omega)))⟩
  · rcases hk with hk | hk
    · have := hlt k hk
      omega
    · exact hk.2
  · rcases h3 with ⟨T, h3 | ⟨bp, bd, a, cap, hh, hp, ho, sp, sd, n⟩⟩
    · exact ⟨T, .inl h3⟩
    · exact ⟨T, .inr ⟨bp, bd, a, cap, hh, hp, ho, sub _ sp, fun ha => sub _ (sd ha), n⟩⟩
set_option maxHeartbeats 4000000 in
theorem put_nil {T : TypeId} (bw : Nat) (S : Nat → Prop) (w : World) (hS : S bw) (hlt : ∀ k, S k → k < w.heap.size)
    (hh : w.heap[bw]? = some (.cells #[.pointer none, .int .i64 0, .bool false] T (0, 0)))
    (b2 : Nat) (a2 : Option Addr) (cap2 : Nat) (m : List Nat) (hs : Src w b2 a2 cap2 m) (hs2 : m ≠ [] → ¬ S b2) (hm : B8 m) (hlen : m.length ≤ 70368744177664) :
    Calls Tryz.prog 70 #[.pointer (some ⟨bw, 0, none⟩), .slice a2 m.length cap2] w (Put bw S m w) := by
  obtain ⟨i0, hi, hz0, hz1, hz2⟩ := info_parts infoU8
  have c0 := cell_heap hh 0
  have c1 := cell_heap hh 1
  have c2 := cell_heap hh 2
  have g0 := frozen_heap hh 0
  have g1 := frozen_heap hh 1
  simp at c0 c1 c2
  have lw := lt_of_heap hh
  have HH := Lib.hid hh
  have HS := Lib.hid hs
  have HL := Lib.hid hlt
  clear hh hs hlt
  go_enter Tryz.func70, Tryz.ntmps70
  go_wp2
  go_quiet (fail)
  obtain ⟨W0, hW⟩ : ∃ W0, W0 = w.drewN nq := ⟨_, rfl⟩
  rw [← hW]
  have d0 : W0.cell? ⟨bw, 0, none⟩ = some (.pointer none) := by rw [hW]; exact c0
  have d1 : W0.cell? ⟨bw, 1, none⟩ = some (.int .i64 0) := by rw [hW]; exact c1
  have d2 : W0.cell? ⟨bw, 2, none⟩ = some (.bool false) := by rw [hW]; exact c2
  have e0 : W0.frozen? ⟨bw, 0, none⟩ = false := by rw [hW]; exact g0
  have e1 : W0.frozen? ⟨bw, 1, none⟩ = false := by rw [hW]; exact g1
  have l0 : bw < W0.heap.size := by rw [hW]; exact lw
  have HW := Lib.hid hW
  have HH0 : Hid (W0.heap[bw]? = some (.cells #[.pointer none, .int .i64 0, .bool false] T (0, 0))) := by rw [hW]; exact HH.out
  clear hW c0 c1 c2 g0 g1 lw
  go_wp2_with (first | (go_at_call 68; refine (written_nil bw W0 HH0.out).mono ?_; rintro x w' ⟨rfl, rfl⟩) | (go_at_call 67; refine (Clone_nil _).mono ?_; rintro e w' ⟨rfl, rfl⟩))
  obtain ⟨W1, hW1⟩ : ∃ W1, W1 = (W0.setCell ⟨bw, 0, none⟩ (.pointer (some ⟨W0.heap.size, 0, none⟩))).alloc (.cells #[.slice none 0 0] 25) := ⟨_, rfl⟩
  rw [← hW1]
  have sz1 : W1.heap.size = W0.heap.size + 1 := by rw [hW1]; simp
  have k01 : Kept S W0 W1 := by rw [hW1]; exact ((Kept.refl _ _).setAt (.inl hS) _ _).alloc _
  have kw1 : Kept S w W1 := k01.heap2 (by rw [HW.out]; rfl) (by rw [HW.out]; rfl) (by rw [HW.out]; rfl) (by rw [HW.out]; rfl)
  have hh1 : W1.heap[bw]? = some (.cells #[.pointer (some ⟨W0.heap.size, 0, none⟩), .int .i64 ([] : List Nat).length, .bool false] T (0, 0)) := by
    rw [hW1, heap_alloc_old _ _ (by simp; exact l0), heap_set HH0.out 0]; rfl
  have hp1 : W1.heap[W0.heap.size]? = some (.cells #[.slice none ([] : List Nat).length 0] 25 (0, 0)) := by
    have := heap_alloc_new (W0.setCell ⟨bw, 0, none⟩ (.pointer (some ⟨W0.heap.size, 0, none⟩))) (.cells #[.slice none 0 0] 25)
    rw [hW1]
    simpa using this
  have c0 := cell_heap hh1 0
  have c1 := cell_heap hh1 1
  have c2 := cell_heap hh1 2
  have p0 := cell_heap hp1 0
  have g1 := frozen_heap hh1 1
  have q0 := frozen_heap hp1 0
  simp at c0 c1 c2 p0
  have n1 : bw ≠ W0.heap.size := by omega
  have n2 : W0.heap.size + 1 ≠ bw := by omega
  have n3 : W0.heap.size + 1 ≠ W0.heap.size := by omega
  have wsz : w.heap.size = W0.heap.size := by rw [HW.out]; rfl
  have HSZ := Lib.hid (And.intro sz1 wsz)
  have HH1 := Lib.hid hh1
  have HP1 := Lib.hid hp1
  have HN := Lib.hid (And.intro n1 (And.intro n2 n3))
  have HS1 : Hid (Src W1 b2 a2 cap2 m) := HS.out.kept kw1 hs2
  have KW1 := Lib.hid kw1
  clear hW1 d0 d1 d2 e0 e1 sz1 hh1 hp1 n1 n2 n3 wsz kw1 k01
  generalize W0.heap.size = bp at *
  have own0 : ∀ w, OwnB 5 w (bp + 1) none 0 [] := fun w => OwnB.nil _ _ _
  go_region_law ((refine step_append_bytes rfl (.tmp 43) (.tmp 44) 25 rfl 5 i0 Tryz.underlying25 hi hz0 hz1 hz2 (bp + 1) none 0 [] 0 (by simp [Act.eval]) (own0 _) rfl b2 a2 cap2 m m.length (by simp [Act.eval]) (HS1.out.heap rfl) rfl (by omega) ?_; intro b' a' cap' w' h2 h3 h4 h5; obtain ⟨e0, e1, e2, e3, e4⟩ := put_facts c0 c1 p0 g1 q0 HN.out.1 HN.out.2.1 HN.out.2.2 (h3.heap2 rfl rfl rfl rfl); have H2 := Lib.hid h2; have H3 := Lib.hid (h3.heap2 (v := W1) rfl rfl rfl rfl); have H4 := Lib.hid h4; clear h2 h3 h4 h5))
  all_goals
    go_wp2
    go_end0
    exact ⟨rfl, put_fin KW1.out HL.out HSZ.out.1 HSZ.out.2 (put_end (l := []) (m := m) (S := fun k => S k ∨ k = bp) HH1.out HP1.out B8.nil hm (fun k hk => hk.elim (fun h => by have := HL.out k h; have := HSZ.out; omega) (fun h => by have := HSZ.out; omega)) (.inl hS) (.inr rfl) (fun h => absurd rfl h) HN.out.1 HN.out.2.1 HN.out.2.2 H2.out H3.out H4.out rfl rfl rfl rfl)⟩
set_option maxHeartbeats 1000000 in
theorem put_any (bw : Nat) (S : Nat → Prop) (l : List Nat) (w : World) (h : WAt w bw S l)
    (b2 : Nat) (a2 : Option Addr) (cap2 : Nat) (m : List Nat) (hs : Src w b2 a2 cap2 m) (hs2 : m ≠ [] → ¬ S b2) (hm : B8 m) (hlen : l.length + m.length ≤ 70368744177664) :
    Calls Tryz.prog 70 #[.pointer (some ⟨bw, 0, none⟩), .slice a2 m.length cap2] w (Put bw S (l ++ m) w) := by
  obtain ⟨h1, h2, h8, h3⟩ := h
  rcases h3 with ⟨T, ⟨hh, rfl⟩ | ⟨bp, bd, a, cap, hh, hp, ho, sp, sd, n1, n2, n3⟩⟩
  · exact put_nil bw S w h1 h2 hh b2 a2 cap2 m hs hs2 hm (by omega)
  · exact put_some bw bp bd a cap l S w h1 h2 h8 hh hp ho sp sd n1 n2 n3 b2 a2 cap2 m hs hm hlen
end Go.Proofs.YtaengjgmchpabaaGreat.Pk
