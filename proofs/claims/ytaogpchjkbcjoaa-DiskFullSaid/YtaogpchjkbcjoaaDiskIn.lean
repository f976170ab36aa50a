/- Package disk's inner functions, as walks of the code that landed. -/
import Derived.Test.YtaogpchjkbcjoaaDiskAt
namespace Go.Proofs.Ytaogpchjkbcjoaa.Dk
open Go Go.RowKit Mem Kp
/-- what file tells: a slice that shows the bytes; nothing is written -/
def FilePost (l : List Nat) (w : World) (x : Ending) (w' : World) : Prop := ∃ b a c, x = .returned (.slice a l.length c) ∧ Src w' b a c l ∧ l.length ≤ c ∧ Hid (∃ n, w' = w.drewN n)
set_option maxHeartbeats 2000000 in
theorem file_any (w : World) (d : Nat) (S : Nat → Prop) (p : Option Addr) (st : St) (h : At w d S p st) :
    Calls Try.prog 33 #[.pointer (some ⟨d, 0, none⟩)] w (FilePost st.file w) := by
  obtain ⟨⟨_, c1, c2, _⟩, _⟩ := h.cells
  rcases h.held with ⟨hp, hl⟩ | ⟨s, b, a, c, hp, h2, h3, _⟩
  · rw [hp] at c1
    have HL := Lib.hid hl
    clear h hl hp
    go_enter Try.func33, Try.ntmps33
    go_wp2
    go_ret
    exact ⟨0, none, 0, by rw [HL.out]; rfl, by rw [HL.out]; exact (OwnB.nil 5 _ _).src, by rw [HL.out]; exact Nat.le_refl _, 0, rfl⟩
  · rw [hp] at c1
    have p0 := cell_heap h2 0
    simp at p0
    have hcap : st.file.length ≤ c := h3.shows.1
    have hcz : (st.file.length : Int) ≤ (c : Int) := by omega
    have HO := Lib.hid h3
    have HC := Lib.hid hcap
    clear h h2 h3 hp hcap
    go_enter Try.func33, Try.ntmps33
    go_wp2
    go_quiet (fail)
    go_wp2
    go_ret
    exact ⟨b, a, c, rfl, (HO.out.heap (w' := w.drewN nq) rfl).src, HC.out, nq, rfl⟩
set_option maxHeartbeats 2000000 in
theorem own_any (w : World) (d : Nat) (S : Nat → Prop) (p : Option Addr) (st : St) (h : At w d S p st) (b : Nat) (a : Option Addr) (c : Nat) (l : List Nat) (hs : Src w b a c l) (hl : l.length ≤ 35184372088832) :
    Calls Try.prog 39 #[.pointer (some ⟨d, 0, none⟩), .slice a l.length c] w fun x w' => x = .returned (.tuple #[]) ∧ LeftA Some d S w (st.with_ l st.safe) w' := by
  have HA := Lib.hid h
  have HS := Lib.hid hs
  clear h hs
  go_enter Try.func39, Try.ntmps39
  go_wp2_with fail
  refine (Clone_any b a c l w HS.out hl).mono ?_
  rintro x w1 ⟨b1, a1, c1, rfl, ho, hb, hk, _⟩
  have hA1 := HA.out.same hk
  obtain ⟨_, hf⟩ := hA1.cells
  have f1 := hf 1
  have f2 := hf 2
  have hlt : d < w1.heap.size := hA1.hi d hA1.self
  have hne : d ≠ w1.heap.size := by omega
  have HO := Lib.hid ho
  have HB := Lib.hid hb
  have HK := Lib.hid hk
  clear hA1 hf ho hb hk
  go_wp2
  go_end0
  exact ⟨rfl, HA.out.laid HK.out HO.out HB.out rfl rfl⟩
set_option maxHeartbeats 2000000 in
theorem lay_any (w : World) (d : Nat) (S : Nat → Prop) (p : Option Addr) (st : St) (h : At w d S p st) (b : Nat) (a : Option Addr) (c : Nat) (l : List Nat) (n : Nat) (hs : Src w b a c l) (hl : l.length ≤ 35184372088832) (hn : l.length = n) :
    Calls Try.prog 35 #[.pointer (some ⟨d, 0, none⟩), .slice a n c] w fun x w' => x = .returned (.tuple #[]) ∧ LeftA Some d S w (st.with_ l l.length) w' := by
  subst hn
  have HA := Lib.hid h
  have HS := Lib.hid hs
  clear h hs
  go_enter Try.func35, Try.ntmps35
  go_wp2_with fail
  refine (own_any w d S p st HA.out b a c l HS.out hl).mono ?_
  rintro x w1 ⟨rfl, S1, p1, hq, h1, k1, n1⟩
  obtain ⟨⟨_, _, c2, _⟩, hf⟩ := h1.cells
  have c2' : w1.cell? ⟨d, 2, none⟩ = some (.int .i64 l.length) := c2
  have f3 := hf 3
  have hp := h1.safes l.length
  have HL : Hid (LeftA Some d S w (st.with_ l l.length) (w1.setCell ⟨d, 3, none⟩ (.int .i64 l.length))) := LeftA.next k1 n1 (LeftA.of hq hp.1 hp.2)
  clear h1 k1 n1 c2 hf hp
  go_wp2
  go_end0
  exact ⟨rfl, HL.out⟩
/-- what the walk reads behind the append -/
theorem add_facts {w w1 : World} {d s b : Nat} {a : Option Addr} {v1 v2 v3 : Value} (c1 : w.cell? ⟨d, 1, none⟩ = some v1) (c2 : w.cell? ⟨d, 2, none⟩ = some v3) (p0 : w.cell? ⟨s, 0, none⟩ = some v2) (f2 : w.frozen? ⟨d, 2, none⟩ = false) (q0 : w.frozen? ⟨s, 0, none⟩ = false) (n2 : b ≠ d) (n3 : b ≠ s) (h : Kept (Of a b) w w1) :
    w1.cell? ⟨d, 1, none⟩ = some v1 ∧ w1.cell? ⟨d, 2, none⟩ = some v3 ∧ w1.cell? ⟨s, 0, none⟩ = some v2 ∧ w1.frozen? ⟨d, 2, none⟩ = false ∧ w1.frozen? ⟨s, 0, none⟩ = false := by
  have lw := World.block_lt_of_cell? w _ c1
  have lp := World.block_lt_of_cell? w _ p0
  have nw : ¬ Of a b d := fun e => n2 e.2.symm
  have np : ¬ Of a b s := fun e => n3 e.2.symm
  exact ⟨(h.cell (p := ⟨d, 1, none⟩) lw nw).trans c1, (h.cell (p := ⟨d, 2, none⟩) lw nw).trans c2, (h.cell (p := ⟨s, 0, none⟩) lp np).trans p0, (h.frozen (p := ⟨d, 2, none⟩) lw nw).trans f2, (h.frozen (p := ⟨s, 0, none⟩) lp np).trans q0⟩
theorem At.heap' {w w' : World} {d : Nat} {S : Nat → Prop} {p : Option Addr} {st : St} (h : At w d S p st) {n : Nat} (e : w' = w.drewN n) : At w' d S p st := h.same (by rw [e]; exact (Kept.refl _ _).drewN n)
set_option maxHeartbeats 8000000 in
theorem add_any (w : World) (d : Nat) (S : Nat → Prop) (p : Option Addr) (st : St) (h : At w d S p st) (bm : Nat) (am : Option Addr) (cm : Nat) (m : List Nat) (hs : Src w bm am cm m) (hl : st.file.length + m.length ≤ 35184372088832) (hn : m ≠ [] → ¬ S bm) :
    Calls Try.prog 36 #[.pointer (some ⟨d, 0, none⟩), .slice am m.length cm] w fun x w' => x = .returned (.tuple #[]) ∧ LeftA Some d S w (st.with_ (st.file ++ m) st.safe) w' := by
  obtain ⟨i0, hi, hz0, hz1, hz2⟩ := info_parts infoU8
  have HA := Lib.hid h
  have HS := Lib.hid hs
  obtain ⟨⟨_, c1, c2, _⟩, _⟩ := h.cells
  have hno : ((st.file.length : Int) != st.file.length) = false := by simp
  clear hs
  by_cases hp : p = none
  case' pos =>
    rw [hp] at c1
    have HF : Hid (st.file = []) := by
      rcases h.held with ⟨_, hl⟩ | ⟨s, b, a, c, hp2, _⟩
      · exact hl
      · rw [hp] at hp2; cases hp2
    clear h hp
    go_enter Try.func36, Try.ntmps36
    go_wp2
    go_quiet (fail)
    obtain ⟨W0, hW0⟩ : ∃ W, W = w.drewN nq := ⟨_, rfl⟩
    rw [← hW0]
    have HA0 := Lib.hid (HA.out.heap' hW0)
    have HK0 : Hid (Kept None w W0) := by rw [hW0]; exact (Kept.refl _ _).drewN _
    clear hW0
    go_wp2_with fail
    refine (file_any W0 d S p st HA0.out).mono ?_
    rintro x w1 ⟨b1, a1, cc1, rfl, s1, _, hw1⟩
    have HA1 : Hid (At w1 d S p st) := by obtain ⟨n, e⟩ := hw1.out; exact HA0.out.heap' e
    have HK1 : Hid (Kept None w w1) := by obtain ⟨n, e⟩ := hw1.out; rw [e]; exact HK0.out.drewN _
    have HS1 := Lib.hid s1
    clear s1 hw1
    go_wp2_with fail
    refine (own_any w1 d S p st HA1.out b1 a1 cc1 st.file HS1.out (by omega)).mono ?_
    rintro x W ⟨rfl, S1, p1, hq, hA, hK, hN⟩
    have HN : Hid (∀ k, S1 k → S k ∨ w.heap.size ≤ k) := fun k hk => (hN k hk).imp (fun h => h) (fun h => by have := HK1.out.size; omega)
    have HK := Lib.hid ((Kept.ofNone (S := S) HK1.out).trans hK)
    have HMS : Hid (Src W bm am cm m) := HS.out.kept HK.out hn
    have hA' : At W d S1 p1 st := hA
    clear hK hN hA HK1 HA1 HS1 HA0 HK0 HF
  case' neg =>
    have hq : Some p := hp
    obtain ⟨s, b, a, c, hp2, h2, h3, h4, h5, h6, h7, h8⟩ := h.held.resolve_left (fun e => hp e.1)
    have c1' : w.cell? ⟨d, 1, none⟩ = some (.pointer (some ⟨s, 0, none⟩)) := by rw [c1, hp2]
    have p0 := cell_heap h2 0
    simp at p0
    clear h hp c1 h2 h3 h4 h5 h6 h7 h8 hp2
    go_enter Try.func36, Try.ntmps36
    go_wp2
    go_quiet (fail)
    obtain ⟨W, hW⟩ : ∃ W, W = w.drewN nq := ⟨_, rfl⟩
    rw [← hW]
    have HMS : Hid (Src W bm am cm m) := HS.out.kept (S := None) (by rw [hW]; exact (Kept.refl _ _).drewN _) (fun _ h => h)
    obtain ⟨S1, p1, hq, hA', HK, HN⟩ : ∃ S1 p1, Some p1 ∧ At W d S1 p1 st ∧ Hid (Kept S w W) ∧ Hid (∀ k, S1 k → S k ∨ w.heap.size ≤ k) := ⟨S, p, hq, HA.out.heap' hW, by rw [hW]; exact (Kept.refl _ _).drewN _, fun k h => .inl h⟩
    clear c1' p0 hW
  all_goals
    obtain ⟨s2, b2, a2, cc2, hp2, h2, h3, h4, h5, h6, h7, h8⟩ := hA'.held.resolve_left (fun e => hq e.1)
    obtain ⟨⟨_, d1, d2, _⟩, df⟩ := hA'.cells
    have df2 := df 2
    rw [hp2] at d1 hA'
    have p2 := cell_heap h2 0
    have q0 := frozen_heap h2 0
    simp at p2
    have HA2 := Lib.hid hA'
    have HH := Lib.hid h2
    have HO := Lib.hid h3
    have HI := Lib.hid (And.intro h4 (And.intro h5 h6))
    clear hA' h2 h3 h4 h6 hp2 df c2 HA HS hno hq
    go_wp2
    go_region_law ((refine step_append_bytes rfl (.tmp 36) (.tmp 37) 30 rfl 5 i0 Try.underlying30 hi hz0 hz1 hz2 b2 a2 cc2 st.file st.file.length (by simp [Act.eval]) (HO.out.heap rfl) rfl bm am cm m m.length (by simp [Act.eval]) (HMS.out.heap rfl) rfl (by omega) ?_; intro b' a' cap' w' g2 g3 g4 g5; obtain ⟨e0, e4, e1, e2, e3⟩ := add_facts d1 d2 p2 df2 q0 h7 h8 (g3.heap2 rfl rfl rfl rfl); have H2 := Lib.hid g2; have H3 := Lib.hid (g3.heap2 (v := W) rfl rfl rfl rfl); have H4 := Lib.hid g4; clear g2 g3 g4 g5))
    all_goals
      go_wp2
      go_end0
      exact ⟨rfl, LeftA.next HK.out HN.out (At.more HA2.out HH.out HI.out.1 HI.out.2.1 HI.out.2.2 h7 h8 H2.out H3.out H4.out (by simp only [List.length_append, Int.natCast_add]) rfl rfl rfl)⟩
end Go.Proofs.Ytaogpchjkbcjoaa.Dk
