import Derived.Test.YtbheofibdogabaaGreatMergeSb3
import Derived.Test.YtbheofibdogabaaGreatMergeSb11
import Derived.Test.YtbheofibdogabaaGreatDoAll6
import Derived.Test.YtbheofibdogabaaGreatMergeSb22
import Derived.Test.YtbheofibdogabaaGreatMergeSb29
import Derived.Test.YtbheofibdogabaaGreatSessChk
import Derived.Test.YtbheofibdogabaaGreatMergeSb19
import Derived.Test.YtbheofibdogabaaGreatSessDec
import Derived.Deep.RegionWith
section
/- Commands in memory. -/
namespace Go.Proofs.YtbheofibdogabaaGreat.Kv
open Go Go.RowKit Vl Nm Mem
def Cm.zero : Cm := ⟨0, ⟨#[]⟩, V.zero, V.zero⟩
instance : Inhabited Cm := ⟨Cm.zero⟩
def Cm.ok (c : Cm) : Prop := c.old.num < 18446744073709551616 ∧ c.val.num < 18446744073709551616
def Cm.cells (c : Cm) : List Value := [.int .i64 c.kind, .string c.key, .int .i64 c.old.kind, .float .f64 c.old.num, .string c.old.text, .int .i64 c.val.kind, .float .f64 c.val.num, .string c.val.text]
def Cm.cell (c : Cm) (j : Nat) : Option Value := c.cells[j]?
def Cm.at_ (w : World) (b o : Nat) (c : Cm) : Prop :=
  w.cell? ⟨b, o, none⟩ = some (.int .i64 c.kind) ∧ w.cell? ⟨b, o + 1, none⟩ = some (.string c.key) ∧ w.cell? ⟨b, o + 2, none⟩ = some (.int .i64 c.old.kind) ∧ w.cell? ⟨b, o + 3, none⟩ = some (.float .f64 c.old.num) ∧ w.cell? ⟨b, o + 4, none⟩ = some (.string c.old.text) ∧
  w.cell? ⟨b, o + 5, none⟩ = some (.int .i64 c.val.kind) ∧ w.cell? ⟨b, o + 6, none⟩ = some (.float .f64 c.val.num) ∧ w.cell? ⟨b, o + 7, none⟩ = some (.string c.val.text)
structure CmdsAt (w : World) (a : Option Addr) (C : List Cm) : Prop where
  ok : ∀ c ∈ C, c.ok
  at_ : 0 < C.length → ∃ b off, a = some ⟨b, off, none⟩ ∧ ∀ i, i < C.length → (C.getD i Cm.zero).at_ w b (off + i * 8)
theorem Cm.at_.below {w w' : World} {c : Cm} {b o : Nat} (h : c.at_ w b o) (hk : Below w.heap.size w w') : c.at_ w' b o := by
  have g : ∀ j v, w.cell? ⟨b, j, none⟩ = some v → w'.cell? ⟨b, j, none⟩ = some v := fun j v hc => (World.cell?_of_block (w := w) (hk.block b (World.block_lt_of_cell? w _ hc))).trans hc
  exact ⟨g _ _ h.1, g _ _ h.2.1, g _ _ h.2.2.1, g _ _ h.2.2.2.1, g _ _ h.2.2.2.2.1, g _ _ h.2.2.2.2.2.1, g _ _ h.2.2.2.2.2.2.1, g _ _ h.2.2.2.2.2.2.2⟩
theorem CmdsAt.below {w w' : World} {a : Option Addr} {C : List Cm} (h : CmdsAt w a C) (hk : Below w.heap.size w w') : CmdsAt w' a C := by
  refine ⟨h.ok, fun h0 => ?_⟩
  obtain ⟨b, off, ha, hc⟩ := h.at_ h0
  exact ⟨b, off, ha, fun i hi => (hc i hi).below hk⟩
theorem CmdsAt.get {w : World} {a : Option Addr} {C : List Cm} (h : CmdsAt w a C) {i : Nat} (hi : i < C.length) : (C.getD i Cm.zero).ok := h.ok _ (by simp [hi])
end Go.Proofs.YtbheofibdogabaaGreat.Kv
end
section
/- Commands in memory. -/
namespace Go.Proofs.YtbheofibdogabaaGreat.Kv
open Go Go.RowKit Vl Nm Mem
/-! ### commands -/
end Go.Proofs.YtbheofibdogabaaGreat.Kv
end
section
/- Right pairs, to be read. -/
namespace Go.Proofs.YtbheofibdogabaaGreat.Kv
open Go Go.RowKit Vl Nm Mem
attribute [local go_sem] run_bits run_frombits run_store_float

set_option maxRecDepth 100000 in
theorem length_right {L : List Pr} (h : rightP L = true) : L.length ≤ 32 := ((rightP_iff L).1 h).1
/-- right pairs, to be read -/
structure Good (w : World) (a : Option Addr) (cap : Nat) (L : List Pr) : Prop where
  at_ : PairsAt w a cap L
  right : rightP L = true
  fits : Fits L
set_option maxRecDepth 100000 in
theorem Good.on {w w' : World} {a : Option Addr} {cap : Nat} {L : List Pr} (h : Good w a cap L) (hb : Beh w w') : Good w' a cap L := ⟨h.at_.below hb, h.right, h.fits⟩
set_option maxRecDepth 100000 in
theorem Good.short {w : World} {a : Option Addr} {cap : Nat} {L : List Pr} (h : Good w a cap L) : L.length ≤ 32 := length_right h.right
set_option maxRecDepth 100000 in
theorem Good.empty (w : World) : Good w none 0 [] := ⟨PairsAt.empty _, by decide, Fits.nil⟩
set_option maxRecDepth 100000 in
theorem Good.doing {w w' : World} {a a' : Option Addr} {cap cap' b' : Nat} {L : List Pr} {c : Cm} (h : Good w a cap L) (hc : c.ok) (hm : Made w w' b' a' cap' (doing L c).L) : Good w' a' cap' (doing L c).L :=
  ⟨hm.pairs, doing_right h.right c, h.fits.doing hc.2⟩
set_option maxRecDepth 100000 in
theorem not_b (b : Bool) (w : World) : (Op.unary .not (.bool b)).run Tryz.prog w = .ok (.bool (!b)) w := rfl
def cmA : Cm := ⟨5, ⟨#[97]⟩, V.zero, ⟨1, 4611686018427387904, ⟨#[]⟩⟩⟩
set_option maxRecDepth 100000 in
theorem doing_A : doing [] cmA = ⟨[⟨⟨#[97]⟩, ⟨1, 4611686018427387904, ⟨#[]⟩⟩⟩], 0, ⟨1, 4611686018427387904, ⟨#[]⟩⟩⟩ := by
  kernel_rfl
end Go.Proofs.YtbheofibdogabaaGreat.Kv
end
section
/- What the law's wakes calls: the landed Clone, search, Insert, with, copied, Do at a first call, and at the same call again. -/
namespace Go.Proofs.YtbheofibdogabaaGreat.Ss
open Go Go.RowKit Vl Kv Mem Nm
attribute [local go_sem] run_bits run_frombits run_store_float

/-- sessions that a call has made -/
structure MadeS (w w' : World) (b : Nat) (a : Option Addr) (cap : Nat) (S : List Se) : Prop where
  own : OwnS 54 w' b a cap S
  new : w.heap.size ≤ b
  beh : Beh w w'
set_option maxHeartbeats 800000 in
set_option maxRecDepth 100000 in
theorem cloneS_any (a : Option Addr) (cap : Nat) (L : List Se) (w : World) (h : SessAt w a cap L) (hl : L.length ≤ 100000) :
    Calls Tryz.prog 83 #[.slice a L.length cap] w fun e w' => ∃ b' a' cap', e = .returned (.slice a' L.length cap') ∧ MadeS w w' b' a' cap' L := by
  have HI := Lib.hid h
  have heq := fun w => run_eql_nil (P := Tryz.prog) w 23 54 a L.length cap Tryz.underlying23
  clear h
  cases a with
  | none =>
    obtain ⟨h1, h2⟩ := HI.out.bare
    subst h1 h2
    simp only [Option.isNone_none, List.length_nil] at heq
    go_enter Tryz.func83, Tryz.ntmps83
    go_wp2_with fail
    go_ret
    exact ⟨w.heap.size, none, 0, rfl, OwnC.nil _ _ _ _, Nat.le_refl _, Beh.start _⟩
  | some ad =>
    simp only [Option.isNone_some] at heq
    go_enter Tryz.func83, Tryz.ntmps83
    go_wp2_with (at_builtin; refine wpList_append_cells rfl _ _ _ rfl 54 6 _ _ 56 Tryz.underlying23 rfl rfl rfl rfl rfl w.heap.size (some ⟨w.heap.size, 0, none⟩) 0 0 [] rfl (own_newC (by simp) (Nat.le_refl _) (by decide) (by simp) (by simp)) (some ad) cap L.length (flatS L) rfl (HI.out.below ((Beh.start w).alloc _)).src flatS_one (by omega) (by omega) ?_; intro b' a' cap' w' h2 h3 h4 h5)
    go_ret
    exact ⟨b', a', cap', rfl, by simpa using h2, (by rcases h4 with ⟨h4, _⟩ | h4 <;> first | omega | (rw [size_alloc] at h4; omega)), own_beh ((Kept.refl _ _).alloc _) h3 (fun k hk => Nat.le_of_eq hk.2.symm)⟩
theorem cloneS_nil (w : World) : Calls Tryz.prog 83 #[.slice none 0 0] w fun e w' => e = .returned (.slice none 0 0) ∧ w = w' := by
  have heq := fun w => run_eql_nil (P := Tryz.prog) w 23 54 none 0 0 Tryz.underlying23
  simp only [Option.isNone_none] at heq
  go_enter Tryz.func83, Tryz.ntmps83
  go_wp2_with fail
  go_ret
  exact ⟨rfl, rfl⟩
theorem search_nil (c : Int) (w : World) :
    Calls Tryz.prog 89 #[.slice none 0 0, .int .i64 c, .func (.func 90) #[] #[]] w fun e w' => e = .returned (.tuple #[.int .i64 0, .bool false]) ∧ w = w' := by
  go_enter Tryz.func89, Tryz.ntmps89
  go_wp2
  go_loopw [9, 10, 11] (fun i j _ wr => i = .int .i64 0 ∧ j = .int .i64 0 ∧ Hid (w = wr)) (fun _ _ _ _ => 0)
  case atStart => exact ⟨rfl, rfl, rfl⟩
  case round =>
    obtain ⟨rfl, rfl, hw⟩ := hrel
    go_wp2
    go_ret2
    exact ⟨rfl, hw.out⟩
set_option maxHeartbeats 800000 in
set_option maxRecDepth 100000 in
theorem insert_nil (s : Se) (b : Nat) (w : World) (h : SessAt w (some ⟨b, 0, none⟩) 1 [s]) :
    Calls Tryz.prog 92 #[.slice none 0 0, .int .i64 0, .slice (some ⟨b, 0, none⟩) 1 1] w fun e w' => ∃ b' a' cap', e = .returned (.slice a' 1 cap') ∧ MadeS w w' b' a' cap' [s] := by
  have HI := Lib.hid h
  clear h
  go_enter Tryz.func92, Tryz.ntmps92
  go_wp2_with (at_builtin; refine wpList_append_cells rfl _ _ _ rfl 54 6 _ _ 56 Tryz.underlying23 rfl rfl rfl rfl rfl w.heap.size none 0 0 [] rfl (OwnC.nil _ _ _ _) (some ⟨b, 0, none⟩) 1 1 (flatS [s]) rfl HI.out.src flatS_one (by omega) (by omega) ?_; intro b' a' cap' w' h2 h3 h4 h5)
  go_ret
  exact ⟨b', a', cap', rfl, by show OwnC _ 6 _ _ _ _ 1 (flatS [s]); simpa using h2, by rcases h4 with ⟨h4, _⟩ | h4 <;> omega, Own_beh h3 (fun k hk => absurd rfl hk.1)⟩
set_option maxHeartbeats 800000 in
set_option maxRecDepth 100000 in
theorem with_nil (s : Se) (w : World) :
    Calls Tryz.prog 63 #[.slice none 0 0, s.agg] w fun e w' => ∃ b' a' cap', e = .returned (.slice a' 1 cap') ∧ MadeS w w' b' a' cap' [s] := by
  have HA := Lib.hid (alloc_here (w := w) s.obj rfl)
  have HB := Lib.hid ((Beh.start w).alloc s.obj)
  have HIN : Hid (∀ b w, w.heap[b]? = some s.obj → Calls Tryz.prog 92 #[.slice none 0 0, .int .i64 0, .slice (some ⟨b, 0, none⟩) 1 1] w fun e w' => ∃ b' a' cap', e = .returned (.slice a' 1 cap') ∧ MadeS w w' b' a' cap' [s]) := fun b w hb => insert_nil s b w (one_sess hb)
  obtain ⟨c, q, d, ⟨vk, vn, vs⟩⟩ := s
  unfold Se.obj at HA HB HIN
  dsimp only at HA HB HIN
  have hmf : ∀ (fn : Fn) (first cap : Array Value) (w : World), (Instr.makeFunc fn first cap).run Tryz.prog w = .ok (.func fn first cap) w := fun _ _ _ _ => rfl
  go_enter Tryz.func63, Tryz.ntmps63
  go_wp2_with fail
  refine Calls.mono (cloneS_nil _) ?_
  rintro e w1 ⟨rfl, rfl⟩
  have HB1 := HB
  go_wp2_with (first | (go_at_call 89; refine (search_nil _ _).mono ?_; rintro e w' ⟨rfl, rfl⟩))
  refine Calls.mono (HIN.out _ _ (alloc_here _ (by simp))) ?_
  rintro e w2 ⟨b2, a2, cap2, rfl, hm⟩
  have HO := Lib.hid hm.own
  have HB2 := Lib.hid ((HB1.out.alloc _).trans hm.beh)
  have hs := HB1.out.size
  have hn := hm.new
  rw [size_alloc] at hn
  clear hm
  go_wp2_with fail
  go_ret
  exact ⟨b2, a2, cap2, rfl, HO.out, by omega, HB2.out⟩
/-! ### Do, at a first call and at the same call again -/
def vA : V := ⟨1, 4611686018427387904, ⟨#[]⟩⟩
def c1A : Cl := ⟨1, 1, cmA⟩
def m1A : Ma := ⟨[⟨⟨#[97]⟩, vA⟩], [⟨1, 1, 0, vA⟩]⟩
theorem right_c1A : c1A.right = 0 := by kernel_rfl
theorem right_m1A : rightM m1A = true := by kernel_rfl
theorem right_m0A : rightM Ma.zero = true := by kernel_rfl
structure Dbox (w wr : World) (s : Ms) (m : Ma) (c : Cl) : Prop where
  b0 : wr.heap[w.heap.size]? = some (s.obj m)
  b1 : wr.heap[w.heap.size + 1]? = some c.obj
  b2 : wr.heap[w.heap.size + 1 + 1]? = some (Ms.zero.obj Ma.zero)
  b3 : wr.heap[w.heap.size + 1 + 1 + 1]? = some (repObj 0 V.zero)
  beh : Beh w wr
theorem Dbox.start (w : World) (s : Ms) (m : Ma) (c : Cl) : Dbox w ((((w.alloc (s.obj m)).alloc c.obj).alloc (Ms.zero.obj Ma.zero)).alloc (repObj 0 V.zero)) s m c :=
  ⟨old_alloc _ (old_alloc _ (old_alloc _ (alloc_here _ rfl))), old_alloc _ (old_alloc _ (alloc_here _ (by simp))), old_alloc _ (alloc_here _ (by simp)), alloc_here _ (by simp), ((((Beh.start w).alloc _).alloc _).alloc _).alloc _⟩
theorem Dbox.on {w wr w' : World} {s : Ms} {m : Ma} {c : Cl} (h : Dbox w wr s m c) (hb : Beh wr w') : Dbox w w' s m c := ⟨hb.box h.b0, hb.box h.b1, hb.box h.b2, hb.box h.b3, h.beh.trans hb⟩
theorem MadeM.twice {w w' W : World} {s : Ms} {m : Ma} {bp bq : Nat} (h : MadeM w w' s m bp bq) {a b : Nat} (hk : Kept (fun k => k = a ∨ k = b) w' W) (h1 : s.a ≠ none → bp ≠ a ∧ bp ≠ b) (h2 : s.a2 ≠ none → bq ≠ a ∧ bq ≠ b) : MadeM w W s m bp bq :=
  ⟨OwnC.kept h.op hk (fun ha e => by have := h1 ha; omega), OwnC.kept h.oq hk (fun ha e => by have := h2 ha; omega), h.lo1, h.lo2, h.ne⟩
end Go.Proofs.YtbheofibdogabaaGreat.Ss
end
section
/- The keeper's TwinMachine. -/
namespace Go.Proofs.YtbheofibdogabaaGreat.Ss
open Go Go.RowKit Vl Kv Mem Nm
attribute [local go_sem] run_bits run_frombits run_store_float
set_option maxHeartbeats 3200000 in
set_option maxRecDepth 100000 in
theorem twinM_any (s : Ms) (m : Ma) (w : World) (h : MaAt w s m) (h1 : m.pairs.length ≤ 100000) (h2 : m.sess.length ≤ 100000) :
    Calls Tryz.prog 64 #[s.agg m] w fun e w' => ∃ (t : Ms) (bp bq : Nat), e = .returned (t.agg m) ∧ MadeM w w' t m bp bq ∧ Beh w w' := by
  have HP := Lib.hid h.pairs
  have HS := Lib.hid h.sess
  clear h
  obtain ⟨L, S⟩ := m
  obtain ⟨a, cap, a2, cap2⟩ := s
  dsimp only at HP HS h1 h2
  obtain ⟨w0, hw0⟩ : ∃ w0, w0 = (((w.alloc (.cells #[.slice a L.length cap, .slice a2 S.length cap2] 25)).alloc (.cells #[.slice none 0 0, .slice none 0 0] 25)).alloc (.cells #[.slice none 0 0, .slice none 0 0] 25)) := ⟨_, rfl⟩
  have B0 : Hid (w0.heap[w.heap.size]? = some (.cells #[.slice a L.length cap, .slice a2 S.length cap2] 25)) := by show w0.heap[w.heap.size]? = _; rw [hw0]; exact old_alloc _ (old_alloc _ (alloc_here _ rfl))
  have B1 : Hid (w0.heap[w.heap.size + 1]? = some (.cells #[.slice none 0 0, .slice none 0 0] 25)) := by show w0.heap[w.heap.size + 1]? = _; rw [hw0]; exact old_alloc _ (alloc_here _ (by simp))
  have B2 : Hid (w0.heap[w.heap.size + 1 + 1]? = some (.cells #[.slice none 0 0, .slice none 0 0] 25)) := by show w0.heap[w.heap.size + 1 + 1]? = _; rw [hw0]; exact alloc_here _ (by simp)
  have BB : Hid (Beh w w0) := by show Beh w w0; rw [hw0]; exact (((Beh.start w).alloc _).alloc _).alloc _
  have hlt0 := Lib.hid (heap_lt B2.out)
  go_enter Tryz.func64, Tryz.ntmps64
  go_wp2_with (first
    | (at_builtin; refine wpList_append_cells rfl _ _ _ rfl 61 4 _ _ 48 Tryz.underlying22 rfl rfl rfl rfl rfl w0.heap.size none 0 0 [] rfl (OwnC.nil _ _ _ _) a cap L.length (flat L) rfl (by rw [← hw0]; exact (HP.out.below BB.out).src) flat_one (by omega) (by omega) ?_; rw [← hw0]; intro b' a' cap' w1 h2' h3 h4 h5; (have O1 := Lib.hid h2'); (have K1 : Hid (Kept Mem.None w0 w1) := h3.mono (fun x hx => absurd rfl hx.1)); (have N1 : Hid (w0.heap.size ≤ b') := (by show w0.heap.size ≤ b'; rcases h4 with ⟨h4, _⟩ | h4 <;> omega)); clear h2' h3 h4 h5; (obtain ⟨x0, x1⟩ := cells2 (K1.out.heap B0.out (fun e => e))); (obtain ⟨z0, z1⟩ := cells2 (K1.out.heap B2.out (fun e => e))); (have f0 := frozen_of (K1.out.heap B2.out (fun e => e)) 0))
    | (at_builtin; refine wpList_append_cells rfl _ _ _ rfl 54 6 _ _ 56 Tryz.underlying23 rfl rfl rfl rfl rfl w0.heap.size none 0 0 [] rfl (OwnC.nil _ _ _ _) a2 cap2 S.length (flatS S) rfl (HS.out.below ((BB.out.trans (beh_kept K1.out)).set (by omega) _ _)).src flatS_one (by omega) (by omega) ?_; intro b2' a2' cap2' w2 h2' h3 h4 h5; (have O2 := Lib.hid h2'); (have K2 : Hid (Kept Mem.None _ w2) := h3.mono (fun x hx => absurd rfl hx.1)); (have N2 : Hid (a2' ≠ none → w1.heap.size ≤ b2') := (fun ha => (by rcases h4 with ⟨_, h4⟩ | h4; exact absurd rfl (h4.resolve_left ha); simpa using h4))); clear h2' h3 h4 h5; (obtain ⟨z0, z1⟩ := cells2 (K2.out.heap (heap_setc (i := 0) (v := .slice a' L.length cap') (K1.out.heap B2.out (fun e => e))) (fun e => e))); (have f1 := frozen_of (K2.out.heap (heap_setc (i := 0) (v := .slice a' L.length cap') (K1.out.heap B2.out (fun e => e))) (fun e => e)) 1); (have R1 := Lib.hid (K2.out.heap (heap_seto (k := w.heap.size + 1 + 1) (K1.out.heap B1.out (fun e => e)) 0 (by omega) (.slice a' L.length cap')) (fun e => e))); (obtain ⟨y0, y1⟩ := cells2 R1.out); (have g0 := frozen_of R1.out 0); (have g1 := frozen_of R1.out 1)))
  have hl := hlt0.out
  have hk1 := K1.out.size
  have hn1 := N1.out
  have hset : Kept (Only (w.heap.size + 1 + 1)) w1 (w1.setCell ⟨w.heap.size + 1 + 1, 0, none⟩ (.slice a' L.length cap')) := (Kept.refl (Only (w.heap.size + 1 + 1)) w1).setAt (.inl rfl) _ _
  have HM2 := Lib.hid (show MadeM w w2 ⟨a', cap', a2', cap2'⟩ ⟨L, S⟩ b' b2' from ⟨by
      have := OwnC.kept (OwnC.kept O1.out hset (fun ha e => by have e : b' = w.heap.size + 1 + 1 := e; omega)) K2.out (fun _ h => h)
      simpa using this, by simpa using O2.out, fun _ => by omega, fun ha => by have := N2.out ha; omega, fun ha hb => by
      have h3 := OwnC.lt O1.out ha
      have h4 := N2.out hb
      show b' ≠ b2'
      omega⟩)
  have HBF := Lib.hid (((BB.out.trans (beh_kept K1.out)).set (show w.heap.size ≤ w.heap.size + 1 + 1 by omega) 0 (.slice a' L.length cap')).trans (beh_kept K2.out))
  (try simp only [Exit.inBlock, Exit.then])
  refine bodyPost_ret (v := .agg #[.slice a' L.length cap', .slice a2' S.length cap2']) ?_ rfl ⟨⟨a', cap', a2', cap2'⟩, b', b2', rfl, MadeM.twice (a := w.heap.size + 1) (b := w.heap.size + 1 + 1) HM2.out ?_ (fun _ => by show b' ≠ _ ∧ b' ≠ _; omega) (fun ha => by have := N2.out ha; show b2' ≠ _ ∧ b2' ≠ _; omega), ?_⟩
  · rw [results_cell_one rfl]
    simp only [Nat.zero_add] at *
    go_simp
  · repeat' (first | with_reducible exact Kept.refl _ _ | with_reducible refine Kept.setAt ?_ (.inl (by simp)) _ _ | with_reducible refine Kept.drew ?_)
  · show Beh w _
    repeat' (first | with_reducible exact HBF.out | with_reducible refine Beh.set ?_ (by omega) _ _ | with_reducible refine Beh.drew ?_)
end Go.Proofs.YtbheofibdogabaaGreat.Ss
end
section
/- The law's wakes: Do at a first call. -/
namespace Go.Proofs.YtbheofibdogabaaGreat.Ss
open Go Go.RowKit Vl Kv Mem Nm
attribute [local go_sem] run_bits run_frombits run_store_float

def DoneM (w : World) (m : Ma) (v : V) (e : Ending) (w' : World) : Prop :=
  ∃ (s : Ms) (bp bq : Nat), e = .returned (.tuple #[s.agg m, rep 0 v]) ∧ MadeM w w' s m bp bq ∧ Beh w w'
set_option maxHeartbeats 6400000 in
set_option maxRecDepth 100000 in
theorem Do_first (w : World) : Calls Tryz.prog 39 #[.agg #[.slice none 0 0, .slice none 0 0], .agg #[.int .i64 1, .int .i64 1, .int .i64 5, .string ⟨#[97]⟩, .int .i64 0, .float .f64 0, .string ⟨#[]⟩, .int .i64 1, .float .f64 4611686018427387904, .string ⟨#[]⟩]] w (DoneM w m1A vA) := by
  have HD := Lib.hid (Dbox.start w Ms.zero Ma.zero c1A)
  have HX0 : Hid (∀ {wr : World}, Dbox w wr Ms.zero Ma.zero c1A → wr.heap[w.heap.size]? = some (.cells #[.slice none 0 0, .slice none 0 0] 25)) := fun h => h.b0
  have HX1 : Hid (∀ {wr : World}, Dbox w wr Ms.zero Ma.zero c1A → wr.heap[w.heap.size + 1]? = some (.cells #[.int .i64 1, .int .i64 1, .int .i64 5, .string ⟨#[97]⟩, .int .i64 0, .float .f64 0, .string ⟨#[]⟩, .int .i64 1, .float .f64 4611686018427387904, .string ⟨#[]⟩] 84)) := fun h => h.b1
  have HX2 : Hid (∀ {wr : World}, Dbox w wr Ms.zero Ma.zero c1A → wr.heap[w.heap.size + 1 + 1]? = some (.cells #[.slice none 0 0, .slice none 0 0] 25)) := fun h => h.b2
  have HX3 : Hid (∀ {wr : World}, Dbox w wr Ms.zero Ma.zero c1A → wr.heap[w.heap.size + 1 + 1 + 1]? = some (.cells #[.int .i64 0, .int .i64 0, .float .f64 0, .string ⟨#[]⟩] 52)) := fun h => h.b3
  have HRI : ∀ w, Hid (Calls Tryz.prog 59 #[.agg #[.int .i64 1, .int .i64 1, .int .i64 5, .string ⟨#[97]⟩, .int .i64 0, .float .f64 0, .string ⟨#[]⟩, .int .i64 1, .float .f64 4611686018427387904, .string ⟨#[]⟩]] w fun e w' => e = .returned (.int .i64 0) ∧ Beh w w') := fun w => by
    have := SRight_any c1A w
    rw [right_c1A] at this
    exact this
  have HCK : ∀ w, Hid (Calls Tryz.prog 19 #[.agg #[.slice none 0 0, .slice none 0 0]] w fun e w' => e = .returned (.int .i64 0) ∧ Beh w w') := fun w => by
    have := SCheck_any Ms.zero Ma.zero w (MaAt.zero w)
    rw [right_m0A] at this
    exact this
  have HLA : ∀ w, Hid (Calls Tryz.prog 60 #[.agg #[.slice none 0 0, .slice none 0 0], .int .i64 1] w fun e w' => e = .returned (.tuple #[.int .i64 0, rep 0 V.zero]) ∧ Beh w w') := fun w => SLast_any Ms.zero Ma.zero 1 w (MaAt.zero w)
  have HDO : ∀ w, Hid (Calls Tryz.prog 62 #[.slice none 0 0, .agg #[.int .i64 5, .string ⟨#[97]⟩, .int .i64 0, .float .f64 0, .string ⟨#[]⟩, .int .i64 1, .float .f64 4611686018427387904, .string ⟨#[]⟩]] w (DoTold w ⟨[⟨⟨#[97]⟩, ⟨1, 4611686018427387904, ⟨#[]⟩⟩⟩], 0, ⟨1, 4611686018427387904, ⟨#[]⟩⟩⟩)) := fun w => by
    have := Do_told none 0 [] cmA w (PairsAt.empty w) (by simp) Fits.nil (by decide)
    rw [doing_A] at this
    exact this
  have HWI : ∀ w, Hid (Calls Tryz.prog 63 #[.slice none 0 0, .agg #[.int .i64 1, .int .i64 1, .int .i64 0, .int .i64 1, .float .f64 4611686018427387904, .string ⟨#[]⟩]] w fun e w' => ∃ b' a' cap', e = .returned (.slice a' 1 cap') ∧ MadeS w w' b' a' cap' [⟨1, 1, 0, vA⟩]) := fun w => with_nil ⟨1, 1, 0, vA⟩ w
  go_enter Tryz.func39, Tryz.ntmps39
  go_wp2_with fail
  refine Calls.mono ((HRI _).out) ?_
  rintro e w1 ⟨rfl, hb⟩
  have HD := Lib.hid (HD.out.on hb)
  clear hb
  obtain ⟨x0, x1⟩ := cells2 (HX0.out HD.out)
  obtain ⟨y0, y1, y2, y3, y4, y5, y6, y7, y8, y9⟩ := cells10 (HX1.out HD.out)
  go_wp2_with fail
  refine Calls.mono ((HCK _).out) ?_
  rintro e w2 ⟨rfl, hb⟩
  have HD := Lib.hid (HD.out.on hb)
  clear hb
  clear x0 x1 y0 y1 y2 y3 y4 y5 y6 y7 y8 y9
  obtain ⟨x0, x1⟩ := cells2 (HX0.out HD.out)
  obtain ⟨y0, y1, y2, y3, y4, y5, y6, y7, y8, y9⟩ := cells10 (HX1.out HD.out)
  go_wp2_with fail
  refine Calls.mono ((HLA _).out) ?_
  rintro e w3 ⟨rfl, hb⟩
  have HD := Lib.hid (HD.out.on hb)
  clear hb
  clear x0 x1 y0 y1 y2 y3 y4 y5 y6 y7 y8 y9
  obtain ⟨x0, x1⟩ := cells2 (HX0.out HD.out)
  obtain ⟨y0, y1, y2, y3, y4, y5, y6, y7, y8, y9⟩ := cells10 (HX1.out HD.out)
  have x0a := fun o => cellOn ((Beh.start _).alloc o) x0
  have y1a := fun o => cellOn ((Beh.start _).alloc o) y1
  have y2a := fun o => cellOn ((Beh.start _).alloc o) y2
  have y3a := fun o => cellOn ((Beh.start _).alloc o) y3
  have y4a := fun o => cellOn ((Beh.start _).alloc o) y4
  have y5a := fun o => cellOn ((Beh.start _).alloc o) y5
  have y6a := fun o => cellOn ((Beh.start _).alloc o) y6
  have y7a := fun o => cellOn ((Beh.start _).alloc o) y7
  have y8a := fun o => cellOn ((Beh.start _).alloc o) y8
  have y9a := fun o => cellOn ((Beh.start _).alloc o) y9
  go_wp2_with fail
  refine Calls.mono ((HDO _).out) ?_
  rintro e w4 ⟨b2, a2, cap2, rfl, hm⟩
  have HS3 := Lib.hid (heap_lt (HX3.out HD.out))
  have HD := Lib.hid ((HD.out.on ((Beh.start w3).alloc _)).on hm.beh)
  have HP := Lib.hid hm.own
  have hn := hm.new
  rw [size_alloc] at hn
  have hs3 := heap_lt (HX3.out HD.out)
  clear hm x0 x1 y0 y1 y2 y3 y4 y5 y6 y7 y8 y9 x0a y1a y2a y3a y4a y5a y6a y7a y8a y9a
  obtain ⟨y0, y1, y2, y3, y4, y5, y6, y7, y8, y9⟩ := cells10 (HX1.out HD.out)
  have y0a := fun o => cellOn ((Beh.start _).alloc o) y0
  have y1a := fun o => cellOn ((Beh.start _).alloc o) y1
  go_wp2_with fail
  obtain ⟨w5, hw5⟩ : ∃ w5, w5 = ((w4.alloc (.cells #[.int .i64 0, .int .i64 1, .float .f64 4611686018427387904, .string ⟨#[]⟩] 52)).alloc (.cells #[.int .i64 1, .int .i64 1, .int .i64 0, .int .i64 1, .float .f64 4611686018427387904, .string ⟨#[]⟩] 54)) := ⟨_, rfl⟩
  rw [← hw5]
  have hb5 : Beh w4 w5 := by rw [hw5]; exact ((Beh.start w4).alloc _).alloc _
  have HR5 : Hid (w5.heap[w4.heap.size]? = some (.cells #[.int .i64 0, .int .i64 1, .float .f64 4611686018427387904, .string ⟨#[]⟩] 52)) := by show w5.heap[w4.heap.size]? = _; rw [hw5]; exact old_alloc _ (alloc_here _ rfl)
  have HS5 : Hid (w5.heap[w4.heap.size + 1]? = some (.cells #[.int .i64 1, .int .i64 1, .int .i64 0, .int .i64 1, .float .f64 4611686018427387904, .string ⟨#[]⟩] 54)) := by show w5.heap[w4.heap.size + 1]? = _; rw [hw5]; exact alloc_here _ (by simp)
  have HD5 := Lib.hid (HD.out.on hb5)
  have HB5 := Lib.hid hb5
  have hs4 : w4.heap.size < w5.heap.size := heap_lt HR5.out
  clear hw5 hb5 y0 y1 y2 y3 y4 y5 y6 y7 y8 y9 y0a y1a
  obtain ⟨x0, x1⟩ := cells2 (HX0.out HD5.out)
  obtain ⟨s0, s1, s2, s3, s4, s5⟩ := cells6 HS5.out
  obtain ⟨r0, r1, r2, r3⟩ := cells4 HR5.out
  obtain ⟨u0, u1⟩ := cells2 (HX2.out HD5.out)
  obtain ⟨v0, v1, v2, v3⟩ := cells4 (HX3.out HD5.out)
  have e0 := frozen_of (HX3.out HD5.out) 0
  have e1 := frozen_of (HX3.out HD5.out) 1
  have e2 := frozen_of (HX3.out HD5.out) 2
  have e3 := frozen_of (HX3.out HD5.out) 3
  go_region_with ((go_at_call 63; refine Calls.mono ((HWI _).out) ?_; rintro e w6 ⟨b3, a3, c3, rfl, hm⟩; (have HM := Lib.hid hm); clear hm; (have HB6 := Lib.hid (show Beh w5 w6 from (Beh.start w5).drew.trans HM.out.beh)); (have HD6 := Lib.hid (HD5.out.on HB6.out)); (obtain ⟨p0, p1⟩ := cells2 (HX2.out HD6.out)); (obtain ⟨q0, q1, q2, q3⟩ := cells4 (HX3.out HD6.out)); (obtain ⟨k0, k1, k2, k3⟩ := cells4 (HB6.out.box HR5.out)); (have f0 := frozen_of (HX2.out HD6.out) 0); (have f1 := frozen_of (HX2.out HD6.out) 1); (have g0 := frozen_of (HX3.out HD6.out) 0); (have g1 := frozen_of (HX3.out HD6.out) 1); (have g2 := frozen_of (HX3.out HD6.out) 2); (have g3 := frozen_of (HX3.out HD6.out) 3)))
  all_goals
    have hs33 := HS3.out
    have hn3 : w5.heap.size ≤ b3 := HM.out.new
    have HMM := Lib.hid (show MadeM w w6 ⟨a2, cap2, a3, c3⟩ m1A b2 b3 from ⟨OwnC.kept HP.out (kept_beh (HB5.out.trans HB6.out)) (fun _ h => h), HM.out.own, fun _ => by omega, fun _ => by omega, fun ha _ => by have := OwnC.lt HP.out ha; omega⟩)
    go_wp2_with fail
    (try simp only [Exit.inBlock, Exit.then])
    refine bodyPost_ret (v := .tuple #[.agg #[.slice a2 1 cap2, .slice a3 1 c3], .agg #[.int .i64 0, .int .i64 1, .float .f64 4611686018427387904, .string ⟨#[]⟩]]) ?_ rfl ⟨⟨a2, cap2, a3, c3⟩, b2, b3, rfl, MadeM.twice (a := w.heap.size + 1 + 1) (b := w.heap.size + 1 + 1 + 1) HMM.out ?_ (fun _ => by show b2 ≠ _ ∧ b2 ≠ _; omega) (fun _ => by show b3 ≠ _ ∧ b3 ≠ _; omega), ?_⟩
    · rw [results_cells rfl]
      go_simp
    · repeat' (first | with_reducible exact Kept.refl _ _ | with_reducible refine Kept.setAt ?_ (.inl (by simp)) _ _ | with_reducible refine Kept.drew ?_)
    · show Beh w _
      repeat' (first | with_reducible exact HD6.out.beh | with_reducible refine Beh.set ?_ (by omega) _ _ | with_reducible refine Beh.drew ?_)
end Go.Proofs.YtbheofibdogabaaGreat.Ss
end
