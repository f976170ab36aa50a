import Derived.Test.YtjdebdfbjcpjgaaWriter
import Derived.Test.YtjdebdfbjcpjgaaMergeWr0
import Derived.Test.YtjdebdfbjcpjgaaMergeWr3
section
/- The Writer's put. -/
namespace Go.Proofs.Ytjdebdfbjcpjgaa.Pk
open Go Go.RowKit Mem
/-- a Writer that has more behind it -/
def Put (bw : Nat) (S : Nat → Prop) (l : List Nat) (w : World) (x : Ending) (w' : World) : Prop :=
  x = .returned (.tuple #[]) ∧ WAt w' bw (Grow S w w') l ∧ Kept S w w'
/-- what the walk reads behind the append -/
theorem put_facts {w w' : World} {bw bp bd : Nat} {a : Option Addr} {v0 v1 v2 : Value} (c0 : w.cell? ⟨bw, 0, none⟩ = some v0) (c1 : w.cell? ⟨bw, 1, none⟩ = some v1) (p0 : w.cell? ⟨bp, 0, none⟩ = some v2) (g1 : w.frozen? ⟨bw, 1, none⟩ = false) (q0 : w.frozen? ⟨bp, 0, none⟩ = false)
    (_n1 : bw ≠ bp) (n2 : bd ≠ bw) (n3 : bd ≠ bp) (h : Kept (Of a bd) w w') :
    w'.cell? ⟨bw, 0, none⟩ = some v0 ∧ w'.cell? ⟨bw, 1, none⟩ = some v1 ∧ w'.cell? ⟨bp, 0, none⟩ = some v2 ∧ w'.frozen? ⟨bw, 1, none⟩ = false ∧ w'.frozen? ⟨bp, 0, none⟩ = false := by
  have lw := World.block_lt_of_cell? w _ c0
  have lp := World.block_lt_of_cell? w _ p0
  have nw : ¬ Of a bd bw := fun e => n2 e.2.symm
  have np : ¬ Of a bd bp := fun e => n3 e.2.symm
  exact ⟨(h.cell (p := ⟨bw, 0, none⟩) lw nw).trans c0, (h.cell (p := ⟨bw, 1, none⟩) lw nw).trans c1, (h.cell (p := ⟨bp, 0, none⟩) lp np).trans p0, (h.frozen (p := ⟨bw, 1, none⟩) lw nw).trans g1, (h.frozen (p := ⟨bp, 0, none⟩) lp np).trans q0⟩
/-- what stands behind a put -/
theorem put_end {T : TypeId} {w w' wf : World} {bw bp bd b' : Nat} {a a' : Option Addr} {cap cap' : Nat} {l m : List Nat} {S : Nat → Prop} {v : Value}
    (hh : w.heap[bw]? = some (.cells #[.pointer (some ⟨bp, 0, none⟩), v, .bool false] T (0, 0))) (hp : w.heap[bp]? = some (.cells #[.slice a l.length cap] 33 (0, 0)))
    (h8 : B8 l) (hm : B8 m) (hlt : ∀ k, S k → k < w.heap.size) (hS : S bw) (sp : S bp) (sd : a ≠ none → S bd) (n1 : bw ≠ bp) (n2 : bd ≠ bw) (n3 : bd ≠ bp)
    (h2 : OwnB 5 w' b' a' cap' (l ++ m)) (h3 : Kept (Of a bd) w w') (h4 : (b' = bd ∧ (a' = none ∨ a ≠ none)) ∨ w.heap.size ≤ b')
    (hf : wf.heap = ((w'.setCell ⟨bp, 0, none⟩ (.slice a' (l ++ m).length cap')).setCell ⟨bw, 1, none⟩ (.int .i64 (l ++ m).length)).heap) (ho : wf.os = w'.os) (ht : wf.tape = w'.tape) (hu : wf.output = w'.output) :
    WAt wf bw (Grow S w wf) (l ++ m) ∧ Kept S w wf := by
  have lw := lt_of_heap hh
  have lp := lt_of_heap hp
  have nw : ¬ Of a bd bw := fun e => n2 e.2.symm
  have np : ¬ Of a bd bp := fun e => n3 e.2.symm
  have hh' := h3.heap hh nw
  have hp' := h3.heap hp np
  have k1 : Kept S w w' := h3.mono (fun x hx => by rw [hx.2]; exact sd hx.1)
  have k2 : Kept S w ((w'.setCell ⟨bp, 0, none⟩ (.slice a' (l ++ m).length cap')).setCell ⟨bw, 1, none⟩ (.int .i64 (l ++ m).length)) := (k1.setAt (.inl sp) _ _).setAt (.inl hS) _ _
  have kf : Kept S w wf := ⟨ho.trans k1.os, ht.trans k1.tape, hu.trans k1.output, by rw [hf]; exact k2.size, fun k hk hs => by rw [hf]; exact k2.block k hk hs⟩
  have hsz : wf.heap.size = w'.heap.size := by rw [hf]; simp
  have nb' : a' ≠ none → b' ≠ bw ∧ b' ≠ bp ∧ (S b' ∨ w.heap.size ≤ b') := by
    intro ha
    rcases h4 with ⟨rfl, h⟩ | h
    · exact ⟨n2, n3, .inl (sd (h.resolve_left ha))⟩
    · exact ⟨by omega, by omega, .inr h⟩
  -- the block of the bytes may be named anew, where there is none
  obtain ⟨b3, o3, s3, m1, m2⟩ : ∃ b3, OwnB 5 w' b3 a' cap' (l ++ m) ∧ (a' ≠ none → Grow S w wf b3) ∧ b3 ≠ bw ∧ b3 ≠ bp := by
    by_cases ha : a' = none
    · subst ha
      exact ⟨bd, h2.move _, fun h => absurd rfl h, n2, n3⟩
    · have := nb' ha
      exact ⟨b', h2, fun _ => this.2.2.elim .inl (fun h => .inr ⟨h, by rw [hsz]; exact h2.lt ha⟩), this.1, this.2.1⟩
  have ko : OwnB 5 wf b3 a' cap' (l ++ m) := by
    have k4 : Kept (fun k => k = bp ∨ k = bw) w' ((w'.setCell ⟨bp, 0, none⟩ (.slice a' (l ++ m).length cap')).setCell ⟨bw, 1, none⟩ (.int .i64 (l ++ m).length)) := ((Kept.refl _ _).setAt (.inl (.inl rfl)) _ _).setAt (.inl (.inr rfl)) _ _
    exact (o3.kept k4 (fun _ e => e.elim m2 m1)).heap hf
  refine ⟨⟨.inl hS, fun k hk => ?_, h8.append hm, T, .inr ⟨bp, b3, a', cap', ?_, ?_, ko, .inl sp, s3, n1, m1, m2⟩⟩, kf⟩
  · rcases hk with hk | hk
    · exact Nat.lt_of_lt_of_le (hlt k hk) kf.size
    · exact hk.2
  · rw [hf, heap_set (heap_set_other hh' (a := ⟨bp, 0, none⟩) (fun e => n1 e.symm) _) 1]
    rfl
  · rw [hf]
    exact heap_set_other (heap_set hp' 0 _) (a := ⟨bw, 1, none⟩) (fun e => n1 e) _
set_option maxHeartbeats 4000000 in
theorem put_some {T : TypeId} (bw bp bd : Nat) (a : Option Addr) (cap : Nat) (l : List Nat) (S : Nat → Prop) (w : World) (hS : S bw) (hlt : ∀ k, S k → k < w.heap.size) (h8 : B8 l)
    (hh : w.heap[bw]? = some (.cells #[.pointer (some ⟨bp, 0, none⟩), .int .i64 l.length, .bool false] T (0, 0))) (hp : w.heap[bp]? = some (.cells #[.slice a l.length cap] 33 (0, 0)))
    (ho : OwnB 5 w bd a cap l) (sp : S bp) (sd : a ≠ none → S bd) (n1 : bw ≠ bp) (n2 : bd ≠ bw) (n3 : bd ≠ bp)
    (b2 : Nat) (a2 : Option Addr) (cap2 : Nat) (m : List Nat) (hs : Src w b2 a2 cap2 m) (hm : B8 m) (hlen : l.length + m.length ≤ 70368744177664) :
    Calls Try.prog 101 #[.pointer (some ⟨bw, 0, none⟩), .slice a2 m.length cap2] w (Put bw S (l ++ m) w) := by
  obtain ⟨i0, hi, hz0, hz1, hz2⟩ := info_parts infoU8
  have c0 := cell_heap hh 0
  have c1 := cell_heap hh 1
  have c2 := cell_heap hh 2
  have p0 := cell_heap hp 0
  have g1 := frozen_heap hh 1
  have q0 := frozen_heap hp 0
  simp at c0 c1 c2 p0
  have HH := Lib.hid hh
  have HP := Lib.hid hp
  have HO := Lib.hid ho
  have HS := Lib.hid hs
  have HL := Lib.hid hlt
  have hno : ((l.length : Int) != l.length) = false := by simp
  clear hh hp ho hs hlt
  go_enter Try.func101, Try.ntmps101
  go_wp2
  go_quiet (fail)
  go_wp2
  go_region_law ((refine step_append_bytes rfl (.tmp 43) (.tmp 44) 33 rfl 5 i0 Try.underlying33 hi hz0 hz1 hz2 bd a cap l l.length (by simp [Act.eval]) (HO.out.heap rfl) rfl b2 a2 cap2 m m.length (by simp [Act.eval]) (HS.out.heap rfl) rfl hlen ?_; intro b' a' cap' w' h2 h3 h4 h5; obtain ⟨e0, e1, e2, e3, e4⟩ := put_facts c0 c1 p0 g1 q0 n1 n2 n3 (h3.heap2 rfl rfl rfl rfl); have H2 := Lib.hid h2; have H3 := Lib.hid (h3.heap2 (v := w) rfl rfl rfl rfl); have H4 := Lib.hid h4; clear h2 h3 h4 h5))
  all_goals
    go_wp2
    go_end0
    exact ⟨rfl, put_end HH.out HP.out h8 hm HL.out hS sp sd n1 n2 n3 H2.out H3.out H4.out (by simp only [List.length_append, Int.natCast_add]) rfl rfl rfl⟩
theorem put_fin {w W1 wf : World} {bw bp : Nat} {S : Nat → Prop} {m : List Nat} (kw : Kept S w W1) (hlt : ∀ k, S k → k < w.heap.size) (s1 : W1.heap.size = bp + 1) (s0 : w.heap.size = bp)
    (h : WAt wf bw (Grow (fun k => S k ∨ k = bp) W1 wf) ([] ++ m) ∧ Kept (fun k => S k ∨ k = bp) W1 wf) : WAt wf bw (Grow S w wf) m ∧ Kept S w wf := by
  obtain ⟨⟨h1, h2, h8, h3⟩, hk⟩ := h
  have hsz := hk.size
  have sub : ∀ k, Grow (fun k => S k ∨ k = bp) W1 wf k → Grow S w wf k := by
    intro k hk
    rcases hk with (hk | hk) | hk
    · exact .inl hk
    · exact .inr ⟨by omega, by omega⟩
    · exact .inr ⟨by omega, hk.2⟩
  refine ⟨⟨sub _ h1, fun k hk => ?_, h8, ?_⟩, kw.trans' hk (fun x hx => hx.elim .inl (fun e => .inr (by omega)))⟩
  · rcases hk with hk | hk
    · have := hlt k hk
      omega
    · exact hk.2
  · rcases h3 with ⟨T, h3 | ⟨bp, bd, a, cap, hh, hp, ho, sp, sd, n⟩⟩
    · exact ⟨T, .inl h3⟩
    · exact ⟨T, .inr ⟨bp, bd, a, cap, hh, hp, ho, sub _ sp, fun ha => sub _ (sd ha), n⟩⟩
set_option maxHeartbeats 4000000 in
theorem put_nil {T : TypeId} (bw : Nat) (S : Nat → Prop) (w : World) (hS : S bw) (hlt : ∀ k, S k → k < w.heap.size)
    (hh : w.heap[bw]? = some (.cells #[.pointer none, .int .i64 0, .bool false] T (0, 0)))
    (b2 : Nat) (a2 : Option Addr) (cap2 : Nat) (m : List Nat) (hs : Src w b2 a2 cap2 m) (hs2 : m ≠ [] → ¬ S b2) (hm : B8 m) (hlen : m.length ≤ 70368744177664) :
    Calls Try.prog 101 #[.pointer (some ⟨bw, 0, none⟩), .slice a2 m.length cap2] w (Put bw S m w) := by
  obtain ⟨i0, hi, hz0, hz1, hz2⟩ := info_parts infoU8
  have c0 := cell_heap hh 0
  have c1 := cell_heap hh 1
  have c2 := cell_heap hh 2
  have g0 := frozen_heap hh 0
  have g1 := frozen_heap hh 1
  simp at c0 c1 c2
  have lw := lt_of_heap hh
  have HH := Lib.hid hh
  have HS := Lib.hid hs
  have HL := Lib.hid hlt
  clear hh hs hlt
  go_enter Try.func101, Try.ntmps101
  go_wp2
  go_quiet (fail)
  obtain ⟨W0, hW⟩ : ∃ W0, W0 = w.drewN nq := ⟨_, rfl⟩
  rw [← hW]
  have d0 : W0.cell? ⟨bw, 0, none⟩ = some (.pointer none) := by rw [hW]; exact c0
  have d1 : W0.cell? ⟨bw, 1, none⟩ = some (.int .i64 0) := by rw [hW]; exact c1
  have d2 : W0.cell? ⟨bw, 2, none⟩ = some (.bool false) := by rw [hW]; exact c2
  have e0 : W0.frozen? ⟨bw, 0, none⟩ = false := by rw [hW]; exact g0
  have e1 : W0.frozen? ⟨bw, 1, none⟩ = false := by rw [hW]; exact g1
  have l0 : bw < W0.heap.size := by rw [hW]; exact lw
  have HW := Lib.hid hW
  have HH0 : Hid (W0.heap[bw]? = some (.cells #[.pointer none, .int .i64 0, .bool false] T (0, 0))) := by rw [hW]; exact HH.out
  clear hW c0 c1 c2 g0 g1 lw
  go_wp2_with (first | (go_at_call 98; refine (written_nil bw W0 HH0.out).mono ?_; rintro x w' ⟨rfl, rfl⟩) | (go_at_call 97; refine (Clone_nil _).mono ?_; rintro e w' ⟨rfl, rfl⟩))
  obtain ⟨W1, hW1⟩ : ∃ W1, W1 = (W0.setCell ⟨bw, 0, none⟩ (.pointer (some ⟨W0.heap.size, 0, none⟩))).alloc (.cells #[.slice none 0 0] 33) := ⟨_, rfl⟩
  rw [← hW1]
  have sz1 : W1.heap.size = W0.heap.size + 1 := by rw [hW1]; simp
  have k01 : Kept S W0 W1 := by rw [hW1]; exact ((Kept.refl _ _).setAt (.inl hS) _ _).alloc _
  have kw1 : Kept S w W1 := k01.heap2 (by rw [HW.out]; rfl) (by rw [HW.out]; rfl) (by rw [HW.out]; rfl) (by rw [HW.out]; rfl)
  have hh1 : W1.heap[bw]? = some (.cells #[.pointer (some ⟨W0.heap.size, 0, none⟩), .int .i64 ([] : List Nat).length, .bool false] T (0, 0)) := by
    rw [hW1, heap_alloc_old _ _ (by simp; exact l0), heap_set HH0.out 0]; rfl
  have hp1 : W1.heap[W0.heap.size]? = some (.cells #[.slice none ([] : List Nat).length 0] 33 (0, 0)) := by
    have := heap_alloc_new (W0.setCell ⟨bw, 0, none⟩ (.pointer (some ⟨W0.heap.size, 0, none⟩))) (.cells #[.slice none 0 0] 33)
    rw [hW1]
    simpa using this
  have c0 := cell_heap hh1 0
  have c1 := cell_heap hh1 1
  have c2 := cell_heap hh1 2
  have p0 := cell_heap hp1 0
  have g1 := frozen_heap hh1 1
  have q0 := frozen_heap hp1 0
  simp at c0 c1 c2 p0
  have n1 : bw ≠ W0.heap.size := by omega
  have n2 : W0.heap.size + 1 ≠ bw := by omega
  have n3 : W0.heap.size + 1 ≠ W0.heap.size := by omega
  have wsz : w.heap.size = W0.heap.size := by rw [HW.out]; rfl
  have HSZ := Lib.hid (And.intro sz1 wsz)
  have HH1 := Lib.hid hh1
  have HP1 := Lib.hid hp1
  have HN := Lib.hid (And.intro n1 (And.intro n2 n3))
  have HS1 : Hid (Src W1 b2 a2 cap2 m) := HS.out.kept kw1 hs2
  have KW1 := Lib.hid kw1
  clear hW1 d0 d1 d2 e0 e1 sz1 hh1 hp1 n1 n2 n3 wsz kw1 k01
  generalize W0.heap.size = bp at *
  have own0 : ∀ w, OwnB 5 w (bp + 1) none 0 [] := fun w => OwnB.nil _ _ _
  go_region_law ((refine step_append_bytes rfl (.tmp 43) (.tmp 44) 33 rfl 5 i0 Try.underlying33 hi hz0 hz1 hz2 (bp + 1) none 0 [] 0 (by simp [Act.eval]) (own0 _) rfl b2 a2 cap2 m m.length (by simp [Act.eval]) (HS1.out.heap rfl) rfl (by omega) ?_; intro b' a' cap' w' h2 h3 h4 h5; obtain ⟨e0, e1, e2, e3, e4⟩ := put_facts c0 c1 p0 g1 q0 HN.out.1 HN.out.2.1 HN.out.2.2 (h3.heap2 rfl rfl rfl rfl); have H2 := Lib.hid h2; have H3 := Lib.hid (h3.heap2 (v := W1) rfl rfl rfl rfl); have H4 := Lib.hid h4; clear h2 h3 h4 h5))
  all_goals
    go_wp2
    go_end0
    exact ⟨rfl, put_fin KW1.out HL.out HSZ.out.1 HSZ.out.2 (put_end (l := []) (m := m) (S := fun k => S k ∨ k = bp) HH1.out HP1.out B8.nil hm (fun k hk => hk.elim (fun h => by have := HL.out k h; have := HSZ.out; omega) (fun h => by have := HSZ.out; omega)) (.inl hS) (.inr rfl) (fun h => absurd rfl h) HN.out.1 HN.out.2.1 HN.out.2.2 H2.out H3.out H4.out rfl rfl rfl rfl)⟩
set_option maxHeartbeats 1000000 in
theorem put_any (bw : Nat) (S : Nat → Prop) (l : List Nat) (w : World) (h : WAt w bw S l)
    (b2 : Nat) (a2 : Option Addr) (cap2 : Nat) (m : List Nat) (hs : Src w b2 a2 cap2 m) (hs2 : m ≠ [] → ¬ S b2) (hm : B8 m) (hlen : l.length + m.length ≤ 70368744177664) :
    Calls Try.prog 101 #[.pointer (some ⟨bw, 0, none⟩), .slice a2 m.length cap2] w (Put bw S (l ++ m) w) := by
  obtain ⟨h1, h2, h8, h3⟩ := h
  rcases h3 with ⟨T, ⟨hh, rfl⟩ | ⟨bp, bd, a, cap, hh, hp, ho, sp, sd, n1, n2, n3⟩⟩
  · exact put_nil bw S w h1 h2 hh b2 a2 cap2 m hs hs2 hm (by omega)
  · exact put_some bw bp bd a cap l S w h1 h2 h8 hh hp ho sp sd n1 n2 n3 b2 a2 cap2 m hs hm hlen
end Go.Proofs.Ytjdebdfbjcpjgaa.Pk
end
section
/- Walks of floats' bits and of Canon. -/
namespace Go.Proofs.Ytjdebdfbjcpjgaa.Pk
open Go Go.RowKit Nm

theorem run_bits (a : Nat) (w : World) : (callFunc 103 #[.float .f64 a]).run Try.prog w = .ok (.value (.int .u64 a)) w := by
  rw [run_callFunc_extern (fn := Try.f103) (e := Extern.MathFloatBits.float64bits) Try.func103 (by kernel_rfl) (by kernel_rfl) (by kernel_rfl) (by kernel_rfl)]
  rfl
theorem run_frombits (n : Int) (w : World) : (callFunc 120 #[.int .u64 n]).run Try.prog w = .ok (.value (.float .f64 n.toNat)) w := by
  rw [run_callFunc_extern (fn := Try.f120) (e := Extern.MathFloatBits.float64frombits) Try.func120 (by kernel_rfl) (by kernel_rfl) (by kernel_rfl) (by kernel_rfl)]
  rfl
attribute [local go_sem] run_bits run_frombits

set_option maxHeartbeats 400000 in
theorem IsNaN_any (a : Nat) (w : World) :
    Calls Try.prog 126 #[.float .f64 a] w fun e w' => e = .returned (.bool (isNaN a)) ∧ w = w' := by
  go_enter Try.func126, Try.ntmps126
  go_wp2
  go_ret
  exact ⟨rfl, rfl⟩
set_option maxHeartbeats 400000 in
theorem nan_any (w : World) :
    Calls Try.prog 127 #[] w fun e w' => e = .returned (.float .f64 nanBits) ∧ w = w' := by
  go_enter Try.func127, Try.ntmps127
  go_wp2
  go_ret
  exact ⟨rfl, rfl⟩
set_option maxHeartbeats 400000 in
theorem refNaN_any (w : World) :
    Calls Try.prog 115 #[] w fun e w' => e = .returned (.float .f64 nanBits) ∧ w = w' := by
  go_enter Try.func115, Try.ntmps115
  go_wp2
  go_ret
  exact ⟨rfl, rfl⟩
set_option maxHeartbeats 400000 in
theorem Canon_any (a : Nat) (w : World) :
    Calls Try.prog 124 #[.float .f64 a] w fun e w' => e = .returned (.float .f64 (canon a)) ∧ w = w' := by
  cases h : isNaN a
  all_goals
    have h2 : (FloatKind.f64.format.order a a != some .eq) = _ := h
    go_enter Try.func124, Try.ntmps124
    go_wp2_with (first | (go_at_call 126; refine (IsNaN_any _ _).mono ?_; rintro e w' ⟨rfl, rfl⟩) | (go_at_call 127; refine (nan_any _).mono ?_; rintro e w' ⟨rfl, rfl⟩))
    go_ret
    exact ⟨by simp [canon, h], rfl⟩
set_option maxHeartbeats 400000 in
theorem refCanon_any (a : Nat) (w : World) :
    Calls Try.prog 104 #[.float .f64 a] w fun e w' => e = .returned (.float .f64 (canon a)) ∧ w = w' := by
  cases h : isNaN a
  all_goals
    have h2 : (FloatKind.f64.format.order a a != some .eq) = _ := h
    go_enter Try.func104, Try.ntmps104
    go_wp2_with (first | (go_at_call 115; refine (refNaN_any _).mono ?_; rintro e w' ⟨rfl, rfl⟩))
    go_ret
    exact ⟨by simp [canon, h], rfl⟩
end Go.Proofs.Ytjdebdfbjcpjgaa.Pk
end
section
/- Walks of the Writer: Mark, Bytes. -/
namespace Go.Proofs.Ytjdebdfbjcpjgaa.Pk
open Go Go.RowKit Mem
theorem WAt.lt {w : World} {bw : Nat} {S : Nat → Prop} {l : List Nat} (h : WAt w bw S l) : (∀ k, S k → k < w.heap.size) ∧ B8 l ∧ S bw := ⟨h.2.1, h.2.2.1, h.1⟩
theorem WAt.mono {w : World} {bw : Nat} {S T : Nat → Prop} {l : List Nat} (h : WAt w bw S l) (hs : ∀ k, S k → T k) (ht : ∀ k, T k → k < w.heap.size) : WAt w bw T l := by
  obtain ⟨h1, _, h8, h3⟩ := h
  refine ⟨hs _ h1, ht, h8, ?_⟩
  rcases h3 with ⟨T, h3 | ⟨bp, bd, a, cap, hh, hp, ho, sp, sd, n⟩⟩
  · exact ⟨T, .inl h3⟩
  · exact ⟨T, .inr ⟨bp, bd, a, cap, hh, hp, ho, hs _ sp, fun ha => hs _ (sd ha), n⟩⟩
theorem Put.later {bw : Nat} {S : Nat → Prop} {l : List Nat} {w w1 : World} {x : Ending} {w' : World} (h : Put bw S l w1 x w') (hk : Kept None w w1) (hlt : ∀ k, S k → k < w.heap.size) : Put bw S l w x w' := by
  obtain ⟨hx, h1, h2⟩ := h
  have := hk.size
  have := h2.size
  refine ⟨hx, h1.mono (fun k hk => hk.elim .inl (fun h => .inr ⟨by omega, h.2⟩)) (fun k hk => ?_), hk.ofNone.trans h2⟩
  rcases hk with hk | hk
  · have := hlt k hk; omega
  · exact hk.2
/-- put, of bytes in a block that is new -/
theorem put_new (bw : Nat) (S : Nat → Prop) (l : List Nat) (w w1 : World) (h : WAt w bw S l) (hk : Kept None w w1) (b2 : Nat) (hb : w.heap.size ≤ b2) (a2 : Option Addr) (cap2 n : Nat) (m : List Nat) (hs : Shows w1 b2 a2 cap2 m) (hn : n = m.length) (hm : B8 m) (hlen : l.length + n ≤ 70368744177664) :
    Calls Try.prog 101 #[.pointer (some ⟨bw, 0, none⟩), .slice a2 n cap2] w1 (Put bw S (l ++ m) w) := by
  subst hn
  refine (put_any bw S l w1 (h.kept hk (fun _ _ h => h)) b2 a2 cap2 m hs.src (fun _ e => by have := h.2.1 _ e; omega) hm hlen).mono fun x w' hp => ?_
  exact hp.later hk h.2.1
/-- whatever put makes of the bytes m in a block that is new: Q -/
def PutsNew (bw : Nat) (w : World) (m : List Nat) (Q : World → Prop) : Prop :=
  ∀ (w1 : World) (b2 : Nat) (a2 : Option Addr) (cap2 n : Nat), Kept None w w1 → w.heap.size ≤ b2 → Shows w1 b2 a2 cap2 m → n = m.length →
    Calls Try.prog 101 #[.pointer (some ⟨bw, 0, none⟩), .slice a2 n cap2] w1 fun x w' => x = .returned (.tuple #[]) ∧ Q w'
theorem puts_new (bw : Nat) (S : Nat → Prop) (l : List Nat) (w : World) (h : WAt w bw S l) (m : List Nat) (hm : B8 m) (hlen : l.length + m.length ≤ 70368744177664) :
    PutsNew bw w m fun w' => WAt w' bw (Grow S w w') (l ++ m) ∧ Kept S w w' := by
  intro w1 b2 a2 cap2 n hk hb hs hn
  exact put_new bw S l w w1 h hk b2 hb a2 cap2 n m hs hn hm (by omega)
/-- the head of an array that the call has made -/
theorem shows_made {w : World} {b : Nat} {C : Array Value} {t : TypeId} {f : Nat × Nat} {m : List Nat} {cap : Nat} (h : w.heap[b]? = some (.cells C t f)) (hC : C.toList.take m.length = m.map byteV) (h1 : m.length ≤ cap) (h2 : cap ≤ 9223372036854775807) : Shows w b (some ⟨b, 0, none⟩) cap m := by
  refine ⟨h1, h2, .inr ⟨0, rfl, fun i hi => ?_⟩⟩
  rw [Nat.zero_add, cell_heap h i]
  have e : (C.toList.take m.length)[i]? = (m.map byteV)[i]? := by rw [hC]
  rw [List.getElem?_take_of_lt hi] at e
  rw [← Array.getElem?_toList, e]
  simp [byteV, hi]
/-- what Bytes answers -/
def BytesPost (l : List Nat) (w : World) (x : Ending) (w' : World) : Prop :=
  ∃ b a cap, x = .returned (.tuple #[.slice a l.length cap, .int .i64 0]) ∧ OwnB 5 w' b a cap l ∧ w.heap.size ≤ b ∧ b ≤ w'.heap.size ∧ Kept None w w'
set_option maxHeartbeats 1000000 in
theorem WBytes_any (bw : Nat) (S : Nat → Prop) (l : List Nat) (w : World) (h : WAt w bw S l) (hlen : l.length ≤ 35184372088832) :
    Calls Try.prog 65 #[.pointer (some ⟨bw, 0, none⟩)] w (BytesPost l w) := by
  obtain ⟨_, _, h8, h3⟩ := h
  rcases h3 with ⟨T, ⟨hh, rfl⟩ | ⟨bp, bd, a, cap, hh, hp, ho, sp, sd, n⟩⟩
  · have c2 := cell_heap hh 2
    simp at c2
    have HH := Lib.hid hh
    clear hh
    go_enter Try.func65, Try.ntmps65
    go_wp2_with (first | (go_at_call 98; refine (written_nil bw w HH.out).mono ?_; rintro x w' ⟨rfl, rfl⟩) | (go_at_call 97; refine (Clone_nil _).mono ?_; rintro e w' ⟨rfl, rfl⟩))
    go_ret2
    exact ⟨w.heap.size, none, 0, rfl, OwnB.nil _ _ _, Nat.le_refl _, Nat.le_refl _, Kept.refl _ _⟩
  · have c2 := cell_heap hh 2
    simp at c2
    have HH := Lib.hid hh
    have HP := Lib.hid hp
    have HO := Lib.hid ho
    clear hh hp ho
    go_enter Try.func65, Try.ntmps65
    go_wp2_with fail
    refine (written_some bw bp a cap l w HH.out HP.out HO.out.shows.1).mono ?_
    rintro x w1 ⟨rfl, n1, rfl⟩
    go_wp2_with fail
    refine (Clone_any bd a cap l (w.drewN n1) (HO.out.src.heap rfl) hlen).mono ?_
    rintro x w3 ⟨b3, a3, cap3, rfl, ho, hb3, k3, hb4⟩
    have HO3 := Lib.hid ho
    clear ho
    go_wp2
    go_ret2
    exact ⟨b3, a3, cap3, rfl, HO3.out, hb3, hb4, k3.heap2 rfl rfl rfl rfl⟩
end Go.Proofs.Ytjdebdfbjcpjgaa.Pk
end
section
/- Walks of the Writer: Int, Text. -/
namespace Go.Proofs.Ytjdebdfbjcpjgaa.Pk
open Go Go.RowKit Mem
/-- the array that begins with some bytes -/
def fillG (pre : List Nat) : Array Value := ((pre ++ List.replicate (10 - pre.length) 0).map byteV).toArray
theorem fillG_next (pre : List Nat) (h : pre.length < 10) (v : Int) (x : Nat) (hv : v = (x : Int)) : (fillG pre).setIfInBounds pre.length (.int .u8 v) = fillG (pre ++ [x]) := by
  subst hv
  unfold fillG
  rw [List.length_append]
  rw [show 10 - pre.length = (10 - (pre.length + [x].length)) + 1 by simp; omega, List.replicate_succ]
  rw [List.map_append, List.map_cons]
  apply Array.ext'
  simp [byteV]
theorem fillG_get (pre : List Nat) (h : pre.length < 10) : (fillG pre)[pre.length]? = some (.int .u8 0) := by
  unfold fillG
  obtain ⟨j, hj⟩ : ∃ j, 10 - pre.length = j + 1 := ⟨9 - pre.length, by omega⟩
  rw [hj]
  simp [byteV]
theorem fillG_take (pre : List Nat) : (fillG pre).toList.take pre.length = pre.map byteV := by
  unfold fillG
  simp
theorem low7 (Z : Nat) (hZ : Z < 18446744073709551616) : bits .or .u8 (bits .and .u64 (Z : Int) 127 % 256) 128 = ((Z % 128 + 128 : Nat) : Int) := by
  rw [and_127 Z hZ]
  have e : ((Z % 128 : Nat) : Int) % 256 = ((Z % 128 : Nat) : Int) := by omega
  rw [e, or8_128 _ (by omega)]
/-- where the loop stands: what is written, what is left -/
def Going (n : Int) (k Z : Nat) (pre : List Nat) : Prop := pre.length = k ∧ intB n = pre ++ groupsN (9 - k) Z ∧ Z * 128 ^ k ≤ zig n
theorem Going.next {n : Int} {k Z : Nat} {pre : List Nat} (h : Going n k Z pre) (hz : 127 < Z) (hn : zig n < 18446744073709551616) : k ≤ 8 ∧ Going n (k + 1) (Z / 128) (pre ++ [Z % 128 + 128]) := by
  obtain ⟨h1, h2, h3⟩ := h
  have hk := few hn h3 hz
  refine ⟨hk, by simp [h1], ?_, ?_⟩
  · rw [h2, show 9 - k = (9 - (k + 1)) + 1 by omega, groupsN, if_neg (by omega)]
    simp
  · refine Nat.le_trans ?_ h3
    rw [Nat.pow_succ, Nat.mul_comm (128 ^ k) 128, ← Nat.mul_assoc]
    exact Nat.mul_le_mul_right _ (Nat.div_mul_le_self _ _)
theorem Going.done {n : Int} {k Z : Nat} {pre : List Nat} (h : Going n k Z pre) (hz : Z ≤ 127) : intB n = pre ++ [Z] := by
  rw [h.2.1, groupsN_small _ _ hz]
/-- the head of the array, as a slice -/
theorem head10 (b k : Nat) (hk : k ≤ 9) : ∀ W, (Instr.sliceAt 140 (.pointer (some ⟨b, 0, none⟩)) none (some (.int .i64 ((k : Int) + 1))) none).run Try.prog W = .ok (.slice (some ⟨b, 0, none⟩) (k + 1) 10) W := fun W => by
  have hal : Try.prog.arrayLen 140 = 10 := by kernel_rfl
  have hel : Try.prog.elem 140 = 5 := by kernel_rfl
  rw [run_sliceAt_array_h W 140 ⟨b, 0, none⟩ (by kernel_rfl) .i64 ((k : Int) + 1) (by omega) (by rw [hal]; omega), hal, hel]
  have hs : (sizeOf 5).run Try.prog W = .ok 1 W := by kernel_rfl
  rw [hs]
  have e1 : ((k : Int) + 1).toNat = k + 1 := by omega
  unfold slicedAt
  rw [e1]
  show Result.ok _ W = _
  rw [if_neg (by omega)]
  simp [Addr.add]
set_option maxHeartbeats 1000000 in
theorem WInt_gen (bw : Nat) (n : Int) (w : World) (h1 : -9223372036854775808 ≤ n) (h2 : n ≤ 9223372036854775807) (Q : World → Prop) (hput : PutsNew bw w (intB n) Q) :
    Calls Try.prog 68 #[.pointer (some ⟨bw, 0, none⟩), .int .i64 n] w fun x w' => x = .returned (.tuple #[]) ∧ Q w' := by
  have HP := Lib.hid hput
  have hz := zig_lt h1 h2
  have h0 : (w.alloc (.cells (fillG []) 140)).heap[w.heap.size]? = some (.cells (fillG []) 140 (0, 0)) := heap_alloc_new w _
  have H0 := Lib.hid h0
  clear hput h0
  go_enter Try.func68, Try.ntmps68
  go_wp2_with (first | (go_at_call 100; refine (fold_any _ _ h1 h2).mono ?_; rintro e w' ⟨rfl, rfl⟩))
  go_loopw [5, 6] (fun z i wr => ∃ (k Z : Nat) (pre : List Nat), Z ≤ 18446744073709551615 ∧ k ≤ 9 ∧ i = .int .i64 k ∧ z = .int .u64 Z ∧ Hid (Going n k Z pre ∧ wr.heap[w.heap.size]? = some (.cells (fillG pre) 140 (0, 0)) ∧ Kept None w wr)) (fun z _ _ => (intOf z).toNat)
  case atStart => exact ⟨0, zig n, [], by omega, by omega, rfl, rfl, ⟨rfl, rfl, by simp⟩, H0.out, (Kept.refl _ _).alloc _⟩
  case round =>
    obtain ⟨k, Z, pre, hZ, hk, rfl, rfl, hw⟩ := hrel
    have hpl := Lib.hid hw.out.1.1
    have hc := (cell_heap hw.out.2.1 pre.length).trans (fillG_get pre (by have := hpl.out; omega))
    have hf := frozen_heap hw.out.2.1 pre.length
    rw [hpl.out] at hc hf
    by_cases hlt : 127 < Z
    · have hb := Lib.hid (low7 Z (by omega))
      have hgn := Lib.hid (hw.out.1.next hlt hz)
      have hk8 : k ≤ 8 := hgn.out.1
      go_wp2
      go_roundw
      case rel => exact ⟨k + 1, Z / 128, pre ++ [Z % 128 + 128], by omega, by omega, by go_num, by go_num, hgn.out.2, by rw [heap_set hw.out.2.1 k, ← hpl.out, fillG_next pre (by have := hpl.out; omega) _ _ hb.out], hw.out.2.2.setAt (.inr (Nat.le_refl _)) _ _⟩
      case measure => simp [intOf]; omega
    · have hd := Lib.hid (hw.out.1.done (by omega))
      have hZ2 : Z ≤ 127 := by omega
      have hsl := head10 w.heap.size k hk
      go_wp2_with fail
      have hpl2 : (pre ++ [Z]).length = k + 1 := by rw [List.length_append, hpl.out]; rfl
      refine (HP.out _ w.heap.size _ 10 (k + 1) (hw.out.2.2.setAt (.inr (Nat.le_refl _)) _ _) (Nat.le_refl _) ?_ ?_).mono ?_
      · rw [hd.out]
        refine shows_made (C := fillG (pre ++ [Z])) (t := 140) (f := (0, 0)) ?_ (fillG_take _) (by rw [hpl2]; omega) (by decide)
        rw [heap_set hw.out.2.1 k, ← hpl.out, fillG_next pre (by have := hpl.out; omega) _ Z rfl]
      · rw [hd.out, hpl2]
      rintro x w' ⟨rfl, h3⟩
      have H3 := Lib.hid h3
      clear h3
      go_wp2
      go_end0
      exact ⟨rfl, H3.out⟩
theorem WInt_any (bw : Nat) (S : Nat → Prop) (l : List Nat) (n : Int) (w : World) (h : WAt w bw S l) (h1 : -9223372036854775808 ≤ n) (h2 : n ≤ 9223372036854775807) (hlen : l.length ≤ 35184372088832) :
    Calls Try.prog 68 #[.pointer (some ⟨bw, 0, none⟩), .int .i64 n] w (Put bw S (l ++ intB n) w) :=
  WInt_gen bw n w h1 h2 _ (puts_new bw S l w h _ (intB_b8 n) (by have := (intB_len n).2; omega))

/-- a Writer that was told of a text that is too long -/
def WLong (w : World) (bw : Nat) : Prop := ∃ T : TypeId, w.heap[bw]? = some (.cells #[.pointer none, .int .i64 0, .bool true] T (0, 0))
set_option maxHeartbeats 1000000 in
theorem WText_any (bw : Nat) (S : Nat → Prop) (l : List Nat) (w : World) (h : WAt w bw S l) (b2 : Nat) (a2 : Option Addr) (cap2 : Nat) (m : List Nat) (hs : Src w b2 a2 cap2 m) (hs3 : m ≠ [] → ¬ S b2) (hm : B8 m) (hm2 : m.length ≤ 16384) (hlen : l.length ≤ 35184372088832) :
    Calls Try.prog 87 #[.pointer (some ⟨bw, 0, none⟩), .slice a2 m.length cap2] w (Put bw S (l ++ textB m) w) := by
  have HA := Lib.hid h
  have HS := Lib.hid hs
  clear h hs
  go_enter Try.func87, Try.ntmps87
  go_wp2_with fail
  refine (WInt_any bw S l m.length w HA.out (by omega) (by omega) hlen).mono ?_
  rintro x w1 ⟨rfl, h1, h2⟩
  have H1 := Lib.hid h1
  clear h1
  go_wp2_with fail
  refine (put_any bw _ _ w1 H1.out b2 a2 cap2 m (HS.out.kept h2 hs3) (fun hm e => e.elim (hs3 hm) (fun h => by have := HS.out.lt hm; omega)) hm (by rw [List.length_append]; have := (intB_len m.length).2; omega)).mono ?_
  rintro x w2 ⟨rfl, h3, h4⟩
  go_wp2
  go_end0
  refine ⟨rfl, ?_, h2.trans' h4 (fun x hx => hx.elim .inl (fun h => .inr h.1))⟩
  rw [List.append_assoc] at h3
  have z1 := h2.size
  have z2 := h4.size
  refine h3.mono (fun k hk => ?_) (fun k hk => ?_)
  · rcases hk with (hk | hk) | hk
    · exact .inl hk
    · exact .inr ⟨hk.1, by omega⟩
    · exact .inr ⟨by omega, hk.2⟩
  · rcases hk with hk | hk
    · have := HA.out.2.1 k hk; omega
    · exact hk.2
end Go.Proofs.Ytjdebdfbjcpjgaa.Pk
end
section
/- Walks of the Writer: Float. -/
namespace Go.Proofs.Ytjdebdfbjcpjgaa.Pk
open Go Go.RowKit Mem
/-- the array behind k rounds -/
def fillC (x k : Nat) : Array Value := (((high8 x).take k ++ List.replicate (8 - k) 0).map byteV).toArray
theorem fillC_next (x k : Nat) (hk : k < 8) (v : Int) (hv : v = (((high8 x).getD k 0 : Nat) : Int)) : (fillC x k).setIfInBounds k (.int .u8 v) = fillC x (k + 1) := by
  subst hv
  rcases k with _ | _ | _ | _ | _ | _ | _ | _ | k <;> first | rfl | omega
theorem fillC_get (x k : Nat) (hk : k < 8) : (fillC x k)[k]? = some (.int .u8 0) := by
  rcases k with _ | _ | _ | _ | _ | _ | _ | _ | k <;> first | rfl | omega
theorem high_byte (X k : Nat) (hk : k < 8) : (X : Int) / 2 ^ (8 * (7 - k)) % 256 = (((high8 X).getD k 0 : Nat) : Int) := by
  rcases k with _ | _ | _ | _ | _ | _ | _ | _ | k <;> simp [high8] <;> omega
attribute [local go_sem] run_bits run_frombits
set_option maxHeartbeats 1000000 in
theorem WFloat_gen (bw : Nat) (x : Nat) (w : World) (Q : World → Prop) (hput : PutsNew bw w (fltB x) Q) :
    Calls Try.prog 114 #[.pointer (some ⟨bw, 0, none⟩), .float .f64 x] w fun x w' => x = .returned (.tuple #[]) ∧ Q w' := by
  have HP := Lib.hid hput
  have h0 : (w.alloc (.cells (fillC 0 0) 158)).heap[w.heap.size]? = some (.cells (fillC 0 0) 158 (0, 0)) := heap_alloc_new w _
  have H0 := Lib.hid h0
  clear hput h0
  go_enter Try.func114, Try.ntmps114
  go_wp2_with (first | (go_at_call 124; refine (Canon_any _ _).mono ?_; rintro e w' ⟨rfl, rfl⟩))
  go_loopw [10] (fun i wr => ∃ k : Nat, k ≤ 8 ∧ i = .int .i64 k ∧ Hid (wr.heap[w.heap.size]? = some (.cells (fillC (Nm.canon x) k) 158 (0, 0)) ∧ Kept None w wr)) (fun i _ => 8 - (intOf i).toNat)
  case atStart => exact ⟨0, by omega, rfl, H0.out, (Kept.refl _ _).alloc _⟩
  case round =>
    obtain ⟨k, hk, rfl, hw⟩ := hrel
    by_cases hlt : k < 8
    · have hc := (cell_heap hw.out.1 k).trans (fillC_get _ k hlt)
      have hf := frozen_heap hw.out.1 k
      have hb := Lib.hid (high_byte (Nm.canon x) k hlt)
      go_wp2
      go_roundw
      case rel => exact ⟨k + 1, by omega, by go_num, by rw [heap_set hw.out.1 k, fillC_next _ _ hlt _ hb.out], hw.out.2.setAt (.inr (Nat.le_refl _)) _ _⟩
      case measure => simp [intOf]; omega
    · obtain rfl : k = 8 := by omega
      go_wp2_with fail
      refine (HP.out wr w.heap.size _ 8 8 hw.out.2 (Nat.le_refl _) (shows_made hw.out.1 rfl (Nat.le_refl 8) (by decide)) rfl).mono ?_
      rintro x w' ⟨rfl, h1⟩
      have H1 := Lib.hid h1
      clear h1
      go_wp2
      go_end0
      exact ⟨rfl, H1.out⟩
theorem WFloat_any (bw : Nat) (S : Nat → Prop) (l : List Nat) (x : Nat) (w : World) (h : WAt w bw S l) (hlen : l.length ≤ 35184372088832) :
    Calls Try.prog 114 #[.pointer (some ⟨bw, 0, none⟩), .float .f64 x] w (Put bw S (l ++ fltB x) w) :=
  WFloat_gen bw x w _ (puts_new bw S l w h _ (high8_b8 _) (by show _ + 8 ≤ _; omega))
end Go.Proofs.Ytjdebdfbjcpjgaa.Pk
end
