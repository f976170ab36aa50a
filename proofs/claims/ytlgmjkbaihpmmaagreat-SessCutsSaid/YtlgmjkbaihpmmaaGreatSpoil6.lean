/- The keeper's Reply, TwinPairs; slices.Clone. -/
import Derived.Test.YtlgmjkbaihpmmaaGreatBeh
namespace Go.Proofs.YtlgmjkbaihpmmaaGreat.Kv
open Go Go.RowKit Vl Nm Mem
attribute [local go_sem] run_bits run_frombits run_store_float

def sameR (c d : Int) (u v : V) : Bool := (c == d) && u.same v
set_option maxHeartbeats 800000 in
theorem keepReply_any (c d : Int) (u v : V) (w : World) :
    Calls Tryz.prog 38 #[rep c u, rep d v] w fun e w' => e = .returned (.bool (sameR c d u v)) ∧ Below w.heap.size w w' := by
  have HC := Lib.hid (show sameR c d u v = ((c == d) && u.same v) from rfl)
  have HA := Lib.hid (old_alloc (repObj d v) (alloc_here (w := w) (repObj c u) rfl))
  have HA2 := Lib.hid (alloc_here (w := w.alloc (repObj c u)) (repObj d v) rfl)
  have HB := Lib.hid (below_alloc2 w (repObj c u) (repObj d v))
  obtain ⟨uk, un, us⟩ := u
  obtain ⟨vk, vn, vs⟩ := v
  unfold repObj at HA HA2 HB
  cases h : (c == d)
  · go_enter Tryz.func38, Tryz.ntmps38
    go_wp2_with fail
    go_ret
    exact ⟨ret_bool (by rw [HC.out, h]; rfl), HB.out⟩
  · go_enter Tryz.func38, Tryz.ntmps38
    go_wp2_with (first | (go_at_call 58; refine (keepValue_any ⟨_, _, _⟩ ⟨_, _, _⟩ _).mono ?_; rintro e w' ⟨rfl, hb⟩; (have HB := Lib.hid (blw HB.out hb)); clear hb))
    go_ret
    exact ⟨ret_bool (by rw [HC.out, h]; simp), HB.out⟩
/-- an own slice is laid anew -/
theorem Own_beh {w w' : World} {S : Nat → Prop} (h : Kept S w w') (hs : ∀ k, S k → w.heap.size ≤ k) : Beh w w' := h.below (Nat.le_refl _) hs
theorem own_beh {w w1 w' : World} {S : Nat → Prop} (h0 : Kept None w w1) (h : Kept S w1 w') (hs : ∀ k, S k → w.heap.size ≤ k) : Beh w w' :=
  (h0.below (Nat.le_refl _) (fun _ h => h.elim)).trans (h.below h0.size hs)
/-- pairs that a call has made: they are its own, and what there was is as it was -/
structure Made (w w' : World) (b : Nat) (a : Option Addr) (cap : Nat) (L : List Pr) : Prop where
  own : OwnP 61 w' b a cap L
  new : w.heap.size ≤ b
  beh : Beh w w'
theorem Made.pairs {w w' : World} {b : Nat} {a : Option Addr} {cap : Nat} {L : List Pr} (h : Made w w' b a cap L) : PairsAt w' a cap L := OwnP.pairs h.own
set_option maxHeartbeats 800000 in
set_option maxRecDepth 100000 in
theorem twin_any (a : Option Addr) (cap : Nat) (L : List Pr) (w : World) (h : PairsAt w a cap L) (hl : L.length ≤ 100000) :
    Calls Tryz.prog 94 #[.slice a L.length cap] w fun e w' => ∃ b' a' cap', e = .returned (.slice a' L.length cap') ∧ Made w w' b' a' cap' L := by
  have HI := Lib.hid h
  clear h
  go_enter Tryz.func94, Tryz.ntmps94
  go_wp2_with (at_builtin; refine wpList_append_cells rfl _ _ _ rfl 61 4 _ _ 48 Tryz.underlying22 rfl rfl rfl rfl rfl w.heap.size none 0 0 [] rfl (OwnC.nil _ _ _ _) a cap L.length (flat L) rfl HI.out.src flat_one (by omega) (by omega) ?_; intro b' a' cap' w' h2 h3 h4 h5)
  go_ret
  exact ⟨b', a', cap', rfl, by simpa using h2, by rcases h4 with ⟨h4, _⟩ | h4 <;> omega, Own_beh h3 (fun k hk => absurd rfl hk.1)⟩
set_option maxHeartbeats 800000 in
set_option maxRecDepth 100000 in
theorem clone_any (a : Option Addr) (cap : Nat) (L : List Pr) (w : World) (h : PairsAt w a cap L) (hl : L.length ≤ 100000) :
    Calls Tryz.prog 82 #[.slice a L.length cap] w fun e w' => ∃ b' a' cap', e = .returned (.slice a' L.length cap') ∧ Made w w' b' a' cap' L := by
  have HI := Lib.hid h
  have heq := fun w => run_eql_nil (P := Tryz.prog) w 22 61 a L.length cap Tryz.underlying22
  clear h
  cases a with
  | none =>
    obtain ⟨h1, h2⟩ := HI.out.bare
    subst h1 h2
    simp only [Option.isNone_none, List.length_nil] at heq
    go_enter Tryz.func82, Tryz.ntmps82
    go_wp2_with fail
    go_ret
    exact ⟨w.heap.size, none, 0, rfl, OwnC.nil _ _ _ _, Nat.le_refl _, Beh.start _⟩
  | some ad =>
    simp only [Option.isNone_some] at heq
    go_enter Tryz.func82, Tryz.ntmps82
    go_wp2_with (at_builtin; refine wpList_append_cells rfl _ _ _ rfl 61 4 _ _ 48 Tryz.underlying22 rfl rfl rfl rfl rfl w.heap.size (some ⟨w.heap.size, 0, none⟩) 0 0 [] rfl (own_newC (by simp) (Nat.le_refl _) (by decide) (by simp) (by simp)) (some ad) cap L.length (flat L) rfl (HI.out.alloc _).src flat_one (by omega) (by omega) ?_; intro b' a' cap' w' h2 h3 h4 h5)
    go_ret
    exact ⟨b', a', cap', rfl, by simpa using h2, (by rcases h4 with ⟨h4, _⟩ | h4 <;> first | omega | (rw [size_alloc] at h4; omega)), own_beh ((Kept.refl _ _).alloc _) h3 (fun k hk => Nat.le_of_eq hk.2.symm)⟩
theorem heap_setc {w : World} {b i : Nat} {cur : Array Value} {t : TypeId} {v : Value} (h : w.heap[b]? = some (.cells cur t (0, 0))) :
    (w.setCell ⟨b, i, none⟩ v).heap[b]? = some (.cells (cur.setIfInBounds i v) t (0, 0)) := by
  simp [World.setCell, Array.getElem?_modify, h]
end Go.Proofs.YtlgmjkbaihpmmaaGreat.Kv
