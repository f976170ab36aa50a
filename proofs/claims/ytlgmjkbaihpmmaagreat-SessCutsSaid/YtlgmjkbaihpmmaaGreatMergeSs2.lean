import Derived.Test.YtlgmjkbaihpmmaaGreatDoB6
import Derived.Test.YtlgmjkbaihpmmaaGreatDoC6
import Derived.Test.YtlgmjkbaihpmmaaGreatMergeRd1
import Derived.Test.YtlgmjkbaihpmmaaGreatMergeRd2
import Derived.Test.YtlgmjkbaihpmmaaGreatMergeSs1
import Derived.Test.YtlgmjkbaihpmmaaGreatCmds6
import Derived.Test.YtlgmjkbaihpmmaaGreatSessChk
import Derived.Test.YtlgmjkbaihpmmaaGreatMergeKv
import Derived.Deep.RegionWith
section
/- The landed Do and the reference's: both answer what is done. -/
namespace Go.Proofs.YtlgmjkbaihpmmaaGreat.Kv
open Go Go.RowKit Vl Nm Mem

set_option maxRecDepth 100000 in
theorem Do_told (a : Option Addr) (cap : Nat) (L : List Pr) (c : Cm) (w : World) (h : PairsAt w a cap L) (hl : L.length ≤ 100000) (hF : Fits L) (hc : c.val.num < 18446744073709551616) :
    Calls Tryz.prog 62 #[.slice a L.length cap, c.agg] w (DoTold w (doing L c)) := by
  unfold doing
  split
  · rename_i hr
    exact do_not a cap L c w h hl hr
  · rename_i hr
    have hr : c.right = 0 := Decidable.not_not.1 hr
    split
    · rename_i hp
      exact do_bad a cap L c w h hl hr hp
    · rename_i hp
      have hp : rightP L = true := by cases e : rightP L; exact absurd e hp; rfl
      unfold put
      split
      · rename_i ha
        exact do_act a cap L c w h hl hr hp (hF.get _) hc ha
      · rename_i ha
        have ha : (act (get L c.key) c).code = 0 := Decidable.not_not.1 ha
        split
        · rename_i hf
          exact do_full a cap L c w h hr hp (hF.get _) hc ha hf
        · rename_i hf
          exact do_ok a cap L c w h hr hp (hF.get _) hc ha (by omega)
set_option maxRecDepth 100000 in
theorem refDo_told (a : Option Addr) (cap : Nat) (L : List Pr) (c : Cm) (w : World) (h : PairsAt w a cap L) (hl : L.length ≤ 100000) (hF : Fits L) (hc : c.val.num < 18446744073709551616) :
    Calls Tryz.prog 67 #[.slice a L.length cap, c.agg] w (DoTold w (doing L c)) := by
  by_cases hr : c.right = 0
  · by_cases hp : rightP L = true
    · have hd : doing L c = put L c.key (act (get L c.key) c) := by unfold doing; rw [if_neg (by omega), if_neg (by rw [hp]; decide)]
      rw [hd]
      obtain ⟨k1, k6, _⟩ := right_zero hr
      have hv := hF.get c.key
      rcases (show c.kind = 1 ∨ c.kind = 2 ∨ c.kind = 3 ∨ c.kind = 4 ∨ c.kind = 5 ∨ c.kind = 6 by omega) with hk | hk | hk | hk | hk | hk
      · have e : act (get L c.key) c = ⟨get L c.key, 0, get L c.key⟩ := by unfold act; rw [if_neg (by omega), if_neg (by omega), if_neg (by omega), if_neg (by omega), if_neg (by omega)]
        obtain ⟨_, _, k0, k8, _⟩ := right_zero hr
        have hs := (rightP_iff L).1 hp
        have e2 : put L c.key ⟨get L c.key, 0, get L c.key⟩ = ⟨L, 0, get L c.key⟩ := by
          unfold put
          rw [if_neg (show ¬ ((0 : Int) ≠ 0) by decide), if_neg (by show ¬ 32 < (set L c.key (get L c.key)).length; rw [set_get_self hs.2 k0 k8]; omega)]
          show Done.mk (set L c.key (get L c.key)) 0 (get L c.key) = _
          rw [set_get_self hs.2 k0 k8]
        rw [e, e2]
        exact refDo_get a cap L c w h hr hp hk
      · have e : act (get L c.key) c = ⟨c.val, 0, get L c.key⟩ := by unfold act; rw [if_pos hk]
        rw [e]
        unfold put
        rw [if_neg (show ¬ ((0 : Int) ≠ 0) by decide)]
        split
        · rename_i hf
          exact refDo_put_full a cap L c w h hr hp hk hf
        · rename_i hf
          exact refDo_put a cap L c w h hr hp hk (Nat.le_of_not_lt hf)
      · have e : act (get L c.key) c = ⟨V.zero, 0, get L c.key⟩ := by unfold act; rw [if_neg (by omega), if_pos hk]
        rw [e]
        unfold put
        rw [if_neg (show ¬ ((0 : Int) ≠ 0) by decide)]
        split
        · rename_i hf
          exact refDo_del_full a cap L c w h hr hp hk hf
        · rename_i hf
          exact refDo_del a cap L c w h hr hp hk (Nat.le_of_not_lt hf)
      · by_cases hs : (get L c.key).same c.old = true
        · have e : act (get L c.key) c = ⟨c.val, 0, get L c.key⟩ := by unfold act; rw [if_neg (by omega), if_neg (by omega), if_pos hk, if_pos hs]
          rw [e]
          unfold put
          rw [if_neg (show ¬ ((0 : Int) ≠ 0) by decide)]
          split
          · rename_i hf
            exact refDo_cas_full a cap L c w h hr hp hk hs hf
          · rename_i hf
            exact refDo_cas a cap L c w h hr hp hk hs (Nat.le_of_not_lt hf)
        · have e : act (get L c.key) c = ⟨V.zero, 9, get L c.key⟩ := by unfold act; rw [if_neg (by omega), if_neg (by omega), if_pos hk, if_neg hs]
          rw [e]
          exact refDo_other a cap L c w h hr hp hk (by simpa using hs)
      · have e : act (get L c.key) c = ⟨(joined sumC (get L c.key) c.val).1, (joined sumC (get L c.key) c.val).2, (joined sumC (get L c.key) c.val).1⟩ := by unfold act; rw [if_neg (by omega), if_neg (by omega), if_neg (by omega), if_pos hk]
        rw [e]
        by_cases hj : (joined sumC (get L c.key) c.val).2 = 0
        · unfold put
          rw [if_neg (by simpa using hj)]
          split
          · rename_i hf
            exact refDo_join5_full a cap L c w h hr hp hk hv hc hj hf
          · rename_i hf
            exact refDo_join5 a cap L c w h hr hp hk hv hc hj (Nat.le_of_not_lt hf)
        · unfold put
          rw [if_pos hj, joined_err2 hj]
          exact refDo_err5 a cap L c w h hr hp hk hv hc hj
      · have e : act (get L c.key) c = ⟨(joined maxF (get L c.key) c.val).1, (joined maxF (get L c.key) c.val).2, (joined maxF (get L c.key) c.val).1⟩ := by unfold act; rw [if_neg (by omega), if_neg (by omega), if_neg (by omega), if_neg (by omega), if_pos hk]
        rw [e]
        by_cases hj : (joined maxF (get L c.key) c.val).2 = 0
        · unfold put
          rw [if_neg (by simpa using hj)]
          split
          · rename_i hf
            exact refDo_join6_full a cap L c w h hr hp hk hv hc hj hf
          · rename_i hf
            exact refDo_join6 a cap L c w h hr hp hk hv hc hj (Nat.le_of_not_lt hf)
        · unfold put
          rw [if_pos hj, joined_err2 hj]
          exact refDo_err6 a cap L c w h hr hp hk hv hc hj
    · have hp : rightP L = false := by cases e : rightP L; rfl; exact absurd e hp
      have hd : doing L c = ⟨L, 6, V.zero⟩ := by unfold doing; rw [if_neg (by omega), if_pos hp]
      rw [hd]
      exact refDo_bad a cap L c w h hl hr hp
  · have hd : doing L c = ⟨L, c.right, V.zero⟩ := by unfold doing; rw [if_pos hr]
    rw [hd]
    exact refDo_not a cap L c w h hl hr
end Go.Proofs.YtlgmjkbaihpmmaaGreat.Kv
end
section
/- Right pairs, to be read. -/
namespace Go.Proofs.YtlgmjkbaihpmmaaGreat.Kv
open Go Go.RowKit Vl Nm Mem
attribute [local go_sem] run_bits run_frombits run_store_float

set_option maxRecDepth 100000 in
theorem length_right {L : List Pr} (h : rightP L = true) : L.length ≤ 32 := ((rightP_iff L).1 h).1
/-- right pairs, to be read -/
structure Good (w : World) (a : Option Addr) (cap : Nat) (L : List Pr) : Prop where
  at_ : PairsAt w a cap L
  right : rightP L = true
  fits : Fits L
set_option maxRecDepth 100000 in
theorem Good.on {w w' : World} {a : Option Addr} {cap : Nat} {L : List Pr} (h : Good w a cap L) (hb : Beh w w') : Good w' a cap L := ⟨h.at_.below hb, h.right, h.fits⟩
set_option maxRecDepth 100000 in
theorem Good.short {w : World} {a : Option Addr} {cap : Nat} {L : List Pr} (h : Good w a cap L) : L.length ≤ 32 := length_right h.right
set_option maxRecDepth 100000 in
theorem Good.empty (w : World) : Good w none 0 [] := ⟨PairsAt.empty _, by decide, Fits.nil⟩
set_option maxRecDepth 100000 in
theorem Good.doing {w w' : World} {a a' : Option Addr} {cap cap' b' : Nat} {L : List Pr} {c : Cm} (h : Good w a cap L) (hc : c.ok) (hm : Made w w' b' a' cap' (doing L c).L) : Good w' a' cap' (doing L c).L :=
  ⟨hm.pairs, doing_right h.right c, h.fits.doing hc.2⟩
set_option maxRecDepth 100000 in
theorem not_b (b : Bool) (w : World) : (Op.unary .not (.bool b)).run Tryz.prog w = .ok (.bool (!b)) w := rfl
def cmA : Cm := ⟨5, ⟨#[97]⟩, V.zero, ⟨1, 4611686018427387904, ⟨#[]⟩⟩⟩
set_option maxRecDepth 100000 in
theorem doing_A : doing [] cmA = ⟨[⟨⟨#[97]⟩, ⟨1, 4611686018427387904, ⟨#[]⟩⟩⟩], 0, ⟨1, 4611686018427387904, ⟨#[]⟩⟩⟩ := by
  kernel_rfl
end Go.Proofs.YtlgmjkbaihpmmaaGreat.Kv
end
section
/- What the law's wakes calls: the landed Clone, search, Insert, with, copied, Do at a first call, and at the same call again. -/
namespace Go.Proofs.YtlgmjkbaihpmmaaGreat.Ss
open Go Go.RowKit Vl Kv Mem Nm
attribute [local go_sem] run_bits run_frombits run_store_float

/-- sessions that a call has made -/
structure MadeS (w w' : World) (b : Nat) (a : Option Addr) (cap : Nat) (S : List Se) : Prop where
  own : OwnS 54 w' b a cap S
  new : w.heap.size ≤ b
  beh : Beh w w'
set_option maxHeartbeats 800000 in
set_option maxRecDepth 100000 in
theorem cloneS_any (a : Option Addr) (cap : Nat) (L : List Se) (w : World) (h : SessAt w a cap L) (hl : L.length ≤ 100000) :
    Calls Tryz.prog 83 #[.slice a L.length cap] w fun e w' => ∃ b' a' cap', e = .returned (.slice a' L.length cap') ∧ MadeS w w' b' a' cap' L := by
  have HI := Lib.hid h
  have heq := fun w => run_eql_nil (P := Tryz.prog) w 23 54 a L.length cap Tryz.underlying23
  clear h
  cases a with
  | none =>
    obtain ⟨h1, h2⟩ := HI.out.bare
    subst h1 h2
    simp only [Option.isNone_none, List.length_nil] at heq
    go_enter Tryz.func83, Tryz.ntmps83
    go_wp2_with fail
    go_ret
    exact ⟨w.heap.size, none, 0, rfl, OwnC.nil _ _ _ _, Nat.le_refl _, Beh.start _⟩
  | some ad =>
    simp only [Option.isNone_some] at heq
    go_enter Tryz.func83, Tryz.ntmps83
    go_wp2_with (at_builtin; refine wpList_append_cells rfl _ _ _ rfl 54 6 _ _ 56 Tryz.underlying23 rfl rfl rfl rfl rfl w.heap.size (some ⟨w.heap.size, 0, none⟩) 0 0 [] rfl (own_newC (by simp) (Nat.le_refl _) (by decide) (by simp) (by simp)) (some ad) cap L.length (flatS L) rfl (HI.out.below ((Beh.start w).alloc _)).src flatS_one (by omega) (by omega) ?_; intro b' a' cap' w' h2 h3 h4 h5)
    go_ret
    exact ⟨b', a', cap', rfl, by simpa using h2, (by rcases h4 with ⟨h4, _⟩ | h4 <;> first | omega | (rw [size_alloc] at h4; omega)), own_beh ((Kept.refl _ _).alloc _) h3 (fun k hk => Nat.le_of_eq hk.2.symm)⟩
theorem cloneS_nil (w : World) : Calls Tryz.prog 83 #[.slice none 0 0] w fun e w' => e = .returned (.slice none 0 0) ∧ w = w' := by
  have heq := fun w => run_eql_nil (P := Tryz.prog) w 23 54 none 0 0 Tryz.underlying23
  simp only [Option.isNone_none] at heq
  go_enter Tryz.func83, Tryz.ntmps83
  go_wp2_with fail
  go_ret
  exact ⟨rfl, rfl⟩
theorem search_nil (c : Int) (w : World) :
    Calls Tryz.prog 89 #[.slice none 0 0, .int .i64 c, .func (.func 90) #[] #[]] w fun e w' => e = .returned (.tuple #[.int .i64 0, .bool false]) ∧ w = w' := by
  go_enter Tryz.func89, Tryz.ntmps89
  go_wp2
  go_loopw [9, 10, 11] (fun i j _ wr => i = .int .i64 0 ∧ j = .int .i64 0 ∧ Hid (w = wr)) (fun _ _ _ _ => 0)
  case atStart => exact ⟨rfl, rfl, rfl⟩
  case round =>
    obtain ⟨rfl, rfl, hw⟩ := hrel
    go_wp2
    go_ret2
    exact ⟨rfl, hw.out⟩
set_option maxHeartbeats 800000 in
set_option maxRecDepth 100000 in
theorem insert_nil (s : Se) (b : Nat) (w : World) (h : SessAt w (some ⟨b, 0, none⟩) 1 [s]) :
    Calls Tryz.prog 92 #[.slice none 0 0, .int .i64 0, .slice (some ⟨b, 0, none⟩) 1 1] w fun e w' => ∃ b' a' cap', e = .returned (.slice a' 1 cap') ∧ MadeS w w' b' a' cap' [s] := by
  have HI := Lib.hid h
  clear h
  go_enter Tryz.func92, Tryz.ntmps92
  go_wp2_with (at_builtin; refine wpList_append_cells rfl _ _ _ rfl 54 6 _ _ 56 Tryz.underlying23 rfl rfl rfl rfl rfl w.heap.size none 0 0 [] rfl (OwnC.nil _ _ _ _) (some ⟨b, 0, none⟩) 1 1 (flatS [s]) rfl HI.out.src flatS_one (by omega) (by omega) ?_; intro b' a' cap' w' h2 h3 h4 h5)
  go_ret
  exact ⟨b', a', cap', rfl, by show OwnC _ 6 _ _ _ _ 1 (flatS [s]); simpa using h2, by rcases h4 with ⟨h4, _⟩ | h4 <;> omega, Own_beh h3 (fun k hk => absurd rfl hk.1)⟩
set_option maxHeartbeats 800000 in
set_option maxRecDepth 100000 in
theorem with_nil (s : Se) (w : World) :
    Calls Tryz.prog 63 #[.slice none 0 0, s.agg] w fun e w' => ∃ b' a' cap', e = .returned (.slice a' 1 cap') ∧ MadeS w w' b' a' cap' [s] := by
  have HA := Lib.hid (alloc_here (w := w) s.obj rfl)
  have HB := Lib.hid ((Beh.start w).alloc s.obj)
  have HIN : Hid (∀ b w, w.heap[b]? = some s.obj → Calls Tryz.prog 92 #[.slice none 0 0, .int .i64 0, .slice (some ⟨b, 0, none⟩) 1 1] w fun e w' => ∃ b' a' cap', e = .returned (.slice a' 1 cap') ∧ MadeS w w' b' a' cap' [s]) := fun b w hb => insert_nil s b w (one_sess hb)
  obtain ⟨c, q, d, ⟨vk, vn, vs⟩⟩ := s
  unfold Se.obj at HA HB HIN
  dsimp only at HA HB HIN
  have hmf : ∀ (fn : Fn) (first cap : Array Value) (w : World), (Instr.makeFunc fn first cap).run Tryz.prog w = .ok (.func fn first cap) w := fun _ _ _ _ => rfl
  go_enter Tryz.func63, Tryz.ntmps63
  go_wp2_with fail
  refine Calls.mono (cloneS_nil _) ?_
  rintro e w1 ⟨rfl, rfl⟩
  have HB1 := HB
  go_wp2_with (first | (go_at_call 89; refine (search_nil _ _).mono ?_; rintro e w' ⟨rfl, rfl⟩))
  refine Calls.mono (HIN.out _ _ (alloc_here _ (by simp))) ?_
  rintro e w2 ⟨b2, a2, cap2, rfl, hm⟩
  have HO := Lib.hid hm.own
  have HB2 := Lib.hid ((HB1.out.alloc _).trans hm.beh)
  have hs := HB1.out.size
  have hn := hm.new
  rw [size_alloc] at hn
  clear hm
  go_wp2_with fail
  go_ret
  exact ⟨b2, a2, cap2, rfl, HO.out, by omega, HB2.out⟩
/-! ### Do, at a first call and at the same call again -/
def vA : V := ⟨1, 4611686018427387904, ⟨#[]⟩⟩
def c1A : Cl := ⟨1, 1, cmA⟩
def m1A : Ma := ⟨[⟨⟨#[97]⟩, vA⟩], [⟨1, 1, 0, vA⟩]⟩
theorem right_c1A : c1A.right = 0 := by kernel_rfl
theorem right_m1A : rightM m1A = true := by kernel_rfl
theorem right_m0A : rightM Ma.zero = true := by kernel_rfl
structure Dbox (w wr : World) (s : Ms) (m : Ma) (c : Cl) : Prop where
  b0 : wr.heap[w.heap.size]? = some (s.obj m)
  b1 : wr.heap[w.heap.size + 1]? = some c.obj
  b2 : wr.heap[w.heap.size + 1 + 1]? = some (Ms.zero.obj Ma.zero)
  b3 : wr.heap[w.heap.size + 1 + 1 + 1]? = some (repObj 0 V.zero)
  beh : Beh w wr
theorem Dbox.start (w : World) (s : Ms) (m : Ma) (c : Cl) : Dbox w ((((w.alloc (s.obj m)).alloc c.obj).alloc (Ms.zero.obj Ma.zero)).alloc (repObj 0 V.zero)) s m c :=
  ⟨old_alloc _ (old_alloc _ (old_alloc _ (alloc_here _ rfl))), old_alloc _ (old_alloc _ (alloc_here _ (by simp))), old_alloc _ (alloc_here _ (by simp)), alloc_here _ (by simp), ((((Beh.start w).alloc _).alloc _).alloc _).alloc _⟩
theorem Dbox.on {w wr w' : World} {s : Ms} {m : Ma} {c : Cl} (h : Dbox w wr s m c) (hb : Beh wr w') : Dbox w w' s m c := ⟨hb.box h.b0, hb.box h.b1, hb.box h.b2, hb.box h.b3, h.beh.trans hb⟩
theorem MadeM.twice {w w' W : World} {s : Ms} {m : Ma} {bp bq : Nat} (h : MadeM w w' s m bp bq) {a b : Nat} (hk : Kept (fun k => k = a ∨ k = b) w' W) (h1 : s.a ≠ none → bp ≠ a ∧ bp ≠ b) (h2 : s.a2 ≠ none → bq ≠ a ∧ bq ≠ b) : MadeM w W s m bp bq :=
  ⟨OwnC.kept h.op hk (fun ha e => by have := h1 ha; omega), OwnC.kept h.oq hk (fun ha e => by have := h2 ha; omega), h.lo1, h.lo2, h.ne⟩
end Go.Proofs.YtlgmjkbaihpmmaaGreat.Ss
end
section
/- What the reference's Once keeps: the new sessions, step by step; its boxes. No program's function. -/
namespace Go.Proofs.YtlgmjkbaihpmmaaGreat.Ss
open Go Go.RowKit Vl Kv Mem Nm

/-- the new sessions behind k of the old ones -/
structure Laid (S : List Se) (x : Se) (k : Nat) (done : Bool) (O : List Se) : Prop where
  srt : SrtS O
  fit : ∀ s ∈ O, s.val.num < 18446744073709551616
  up : ∀ s ∈ O, ∀ j, k ≤ j → j < S.length → s.client < (S.getD j Se.zero).client
  no : done = false → ∀ s ∈ O, s.client < x.client
  yes : done = true → ∀ j, k ≤ j → j < S.length → x.client < (S.getD j Se.zero).client
  len : O.length ≤ k + 1
  lenf : done = false → O.length ≤ k
theorem SrtS.more {O : List Se} (h : SrtS O) {x : Se} (hx : x.right = true) (hl : ∀ s ∈ O, s.client < x.client) : SrtS (O ++ [x]) := by
  refine ⟨fun s hs => ?_, List.pairwise_append.2 ⟨h.2, List.pairwise_singleton _ _, fun a ha b hb => ?_⟩⟩
  · rcases List.mem_append.1 hs with hs | hs
    · exact h.1 s hs
    · rw [List.mem_singleton] at hs; subst hs; exact hx
  · rw [List.mem_singleton] at hb; subst hb; exact hl a ha
theorem fit_more {O : List Se} (h : ∀ s ∈ O, s.val.num < 18446744073709551616) {x : Se} (hx : x.val.num < 18446744073709551616) : ∀ s ∈ O ++ [x], s.val.num < 18446744073709551616 := by
  intro s hs
  rcases List.mem_append.1 hs with hs | hs
  · exact h s hs
  · rw [List.mem_singleton] at hs; subst hs; exact hx
theorem Laid.start (S : List Se) (x : Se) : Laid S x 0 false [] := ⟨⟨fun _ h => (by cases h), List.Pairwise.nil⟩, fun _ h => (by cases h), fun _ h => (by cases h), fun _ _ h => (by cases h), fun h => (by cases h), by simp, fun _ => by simp⟩
theorem srtS_lt {S : List Se} (hS : SrtS S) {i j : Nat} (h : i < j) (hj : j < S.length) : (S.getD i Se.zero).client < (S.getD j Se.zero).client := by
  have := List.pairwise_iff_getElem.1 hS.2 i j (by omega) hj h
  simpa [hj, show i < S.length by omega] using this
/-- the new one is laid, ahead of an old one -/
theorem Laid.put {S : List Se} {x : Se} {k : Nat} {O : List Se} (h : Laid S x k false O) (hx : x.right = true) (hf : x.val.num < 18446744073709551616) : SrtS (O ++ [x]) ∧ (∀ s ∈ O ++ [x], s.val.num < 18446744073709551616) :=
  ⟨h.srt.more hx (h.no rfl), fit_more h.fit hf⟩
theorem Laid.putSame {S : List Se} {x : Se} {k : Nat} {O : List Se} (h : Laid S x k false O) (hS : SrtS S) (hx : x.right = true) (hf : x.val.num < 18446744073709551616) (_hk : k < S.length) (he : (S.getD k Se.zero).client = x.client) : Laid S x (k + 1) true (O ++ [x]) := by
  obtain ⟨h1, h2⟩ := h.put hx hf
  have h3 := h.lenf rfl
  refine ⟨h1, h2, fun s hs j hj hj2 => ?_, fun h => (by cases h), fun _ j hj hj2 => ?_, by rw [List.length_append]; simp; omega, fun h => (by cases h)⟩
  · rcases List.mem_append.1 hs with hs | hs
    · exact h.up s hs j (by omega) hj2
    · rw [List.mem_singleton] at hs; subst hs
      have := srtS_lt hS (i := k) (j := j) (by omega) hj2
      omega
  · have := srtS_lt hS (i := k) (j := j) (by omega) hj2
    omega
theorem Laid.putOld {S : List Se} {x : Se} {k : Nat} {O : List Se} (h : Laid S x k false O) (hS : SrtS S) (hSf : ∀ s ∈ S, s.val.num < 18446744073709551616) (hx : x.right = true) (hf : x.val.num < 18446744073709551616) (hk : k < S.length) (he : x.client < (S.getD k Se.zero).client) :
    Laid S x (k + 1) true (O ++ [x] ++ [S.getD k Se.zero]) := by
  obtain ⟨h1, h2⟩ := h.put hx hf
  have h3 := h.lenf rfl
  have hm := getD_memS hk
  refine ⟨h1.more (hS.1 _ hm) (fun s hs => ?_), fit_more h2 (hSf _ hm), fun s hs j hj hj2 => ?_, fun h => (by cases h), fun _ j hj hj2 => ?_, by simp only [List.length_append, List.length_singleton]; omega, fun h => (by cases h)⟩
  · rcases List.mem_append.1 hs with hs | hs
    · exact h.up s hs k (Nat.le_refl _) hk
    · rw [List.mem_singleton] at hs; subst hs; exact he
  · have hkj := srtS_lt hS (i := k) (j := j) (by omega) hj2
    rcases List.mem_append.1 hs with hs | hs
    · rcases List.mem_append.1 hs with hs | hs
      · exact h.up s hs j (by omega) hj2
      · rw [List.mem_singleton] at hs; subst hs; omega
    · rw [List.mem_singleton] at hs; subst hs; exact hkj
  · have := srtS_lt hS (i := k) (j := j) (by omega) hj2
    omega
/-- an old one is laid -/
theorem Laid.old {S : List Se} {x : Se} {k : Nat} {O : List Se} {d : Bool} (h : Laid S x k d O) (hS : SrtS S) (hSf : ∀ s ∈ S, s.val.num < 18446744073709551616) (hk : k < S.length) (he : d = false → (S.getD k Se.zero).client < x.client) :
    Laid S x (k + 1) d (O ++ [S.getD k Se.zero]) := by
  have hm := getD_memS hk
  refine ⟨h.srt.more (hS.1 _ hm) (fun s hs => h.up s hs k (Nat.le_refl _) hk), fit_more h.fit (hSf _ hm), fun s hs j hj hj2 => ?_, fun hd s hs => ?_, fun hd j hj hj2 => h.yes hd j (by omega) hj2, by rw [List.length_append]; simp; exact h.len, fun hd => by rw [List.length_append]; simp; exact h.lenf hd⟩
  · have hkj := srtS_lt hS (i := k) (j := j) (by omega) hj2
    rcases List.mem_append.1 hs with hs | hs
    · exact h.up s hs j (by omega) hj2
    · rw [List.mem_singleton] at hs; subst hs; exact hkj
  · rcases List.mem_append.1 hs with hs | hs
    · exact h.no hd s hs
    · rw [List.mem_singleton] at hs; subst hs; exact he hd
theorem Dbox.kept {w wr w' : World} {s : Ms} {m : Ma} {c : Cl} {T : Nat → Prop} (h : Dbox w wr s m c) (hk : Kept T wr w') (ht : ∀ k, T k → w.heap.size + 1 + 1 + 1 < k) : Dbox w w' s m c :=
  ⟨hk.heap h.b0 (fun e => by have := ht _ e; omega), hk.heap h.b1 (fun e => by have := ht _ e; omega), hk.heap h.b2 (fun e => by have := ht _ e; omega), hk.heap h.b3 (fun e => by have := ht _ e; omega),
    beh_kept ((kept_beh h.beh).trans' hk (fun x hx => .inr (by have := ht x hx; omega)))⟩
end Go.Proofs.YtlgmjkbaihpmmaaGreat.Ss
end
section
/- What a command tells is a right reply; the boxes of the reference's Once. No program's function. -/
namespace Go.Proofs.YtlgmjkbaihpmmaaGreat.Ss
open Go Go.RowKit Vl Kv Mem Nm

theorem check_codes (v : V) : v.check = 15 ∨ v.check = 2 ∨ v.check = 8 ∨ v.check = 0 := by
  unfold V.check
  split
  · exact .inl rfl
  · split
    · exact .inr (.inl rfl)
    · split
      · exact .inr (.inr (.inl rfl))
      · split
        · exact .inr (.inr (.inl rfl))
        · exact .inr (.inr (.inr rfl))
theorem joined_codes (f : Nat → Nat → Nat) (a b : V) : 0 ≤ (joined f a b).2 ∧ (joined f a b).2 ≤ 16 := by
  have ha := check_codes a
  have hb := check_codes b
  unfold joined
  split
  · show 0 ≤ a.check ∧ a.check ≤ 16; omega
  · split
    · show 0 ≤ b.check ∧ b.check ≤ 16; omega
    · split
      · exact ⟨by show (0 : Int) ≤ 0; decide, by show (0 : Int) ≤ 16; decide⟩
      · split
        · exact ⟨by show (0 : Int) ≤ 8; decide, by show (8 : Int) ≤ 16; decide⟩
        · exact ⟨by show (0 : Int) ≤ 0; decide, by show (0 : Int) ≤ 16; decide⟩
theorem act_codes (v : V) (c : Cm) : 0 ≤ (act v c).code ∧ (act v c).code ≤ 16 := by
  unfold act
  split
  · exact ⟨by show (0 : Int) ≤ 0; decide, by show (0 : Int) ≤ 16; decide⟩
  · split
    · exact ⟨by show (0 : Int) ≤ 0; decide, by show (0 : Int) ≤ 16; decide⟩
    · split
      · split
        · exact ⟨by show (0 : Int) ≤ 0; decide, by show (0 : Int) ≤ 16; decide⟩
        · exact ⟨by show (0 : Int) ≤ 9; decide, by show (9 : Int) ≤ 16; decide⟩
      · split
        · exact joined_codes _ _ _
        · split
          · exact joined_codes _ _ _
          · exact ⟨by show (0 : Int) ≤ 0; decide, by show (0 : Int) ≤ 16; decide⟩
theorem act_told {v : V} {c : Cm} (hv : v.check = 0) : (act v c).told.check = 0 := by
  unfold act
  split
  · exact hv
  · split
    · exact hv
    · split
      · split
        · exact hv
        · exact hv
      · split
        · exact joined_check fun _ _ => canon_sumC _ _
        · split
          · exact joined_check fun h k => canon_maxF h k
          · exact hv
theorem act_told_fit {v : V} {c : Cm} (hv : v.num < 18446744073709551616) (hc : c.val.num < 18446744073709551616) : (act v c).told.num < 18446744073709551616 := by
  unfold act
  split
  · exact hv
  · split
    · exact hv
    · split
      · split
        · exact hv
        · exact hv
      · split
        · exact joined_fit hc (sumC_lt _ _)
        · split
          · exact joined_fit hc (maxF_lt hv hc)
          · exact hv
theorem doing_told {L : List Pr} (h : rightP L = true) (hf : Fits L) {c : Cm} (hr : c.right = 0) (hc : c.val.num < 18446744073709551616) :
    (0 ≤ (doing L c).code ∧ (doing L c).code ≤ 16) ∧ (doing L c).told.check = 0 ∧ (doing L c).told.num < 18446744073709551616 := by
  have hs := ((rightP_iff L).1 h).2
  have e : doing L c = put L c.key (act (get L c.key) c) := by unfold doing; rw [if_neg (by omega), if_neg (by rw [h]; decide)]
  have h1 := act_codes (get L c.key) c
  have h2 := act_told (c := c) (hs.get_check c.key)
  have h3 := act_told_fit (c := c) (hf.get c.key) hc
  rw [e]
  unfold put
  split
  · exact ⟨h1, h2, h3⟩
  · split
    · exact ⟨⟨by show (0 : Int) ≤ 5; decide, by show (5 : Int) ≤ 16; decide⟩, zero_check, zero_fit⟩
    · exact ⟨⟨by show (0 : Int) ≤ 0; decide, by show (0 : Int) ≤ 16; decide⟩, h2, h3⟩
/-- a machine that is being laid -/
structure OnS (w wr : World) (s : Ms) (m : Ma) (c : Cl) (no nr : Nat) (code : Int) (v : V) (t : Ms) (P : List Pr) (O : List Se) (bp bq : Nat) : Prop where
  dx : Dbox w wr s m c
  obox : wr.heap[no]? = some (.cells #[.slice t.a P.length t.cap, .slice t.a2 O.length t.cap2] 25)
  rbox : wr.heap[nr]? = some (repObj code v)
  op : OwnP 61 wr bp t.a t.cap P
  oq : OwnS 54 wr bq t.a2 t.cap2 O
  hnr : w.heap.size + 1 + 1 + 1 < nr
  hno : nr < no
  lo1 : t.a ≠ none → no < bp
  lo2 : t.a2 ≠ none → no < bq
  ne : t.a ≠ none → t.a2 ≠ none → bp ≠ bq
theorem OnS.start {w w4 w5 : World} {s : Ms} {m : Ma} {c : Cl} {lc dc : Int} {lv dv : V} {b2 cap3 : Nat} {a3 : Option Addr} {D : List Pr} (hd : Dbox w w4 s m c) (hn : w.heap.size + 1 + 1 + 1 < w4.heap.size)
    (hm : Made ((w4.alloc (repObj lc lv)).alloc (Ms.zero.obj Ma.zero)) w5 b2 a3 cap3 D) :
    OnS w (((((w5.setCell ⟨w4.heap.size + 1, 0, none⟩ (.slice a3 D.length cap3)).setCell ⟨w4.heap.size, 0, none⟩ (.int .i64 dc)).setCell ⟨w4.heap.size, 1, none⟩ (.int .i64 dv.kind)).setCell ⟨w4.heap.size, 2, none⟩ (.float .f64 dv.num)).setCell ⟨w4.heap.size, 3, none⟩ (.string dv.text)) s m c (w4.heap.size + 1) w4.heap.size dc dv ⟨a3, cap3, none, 0⟩ D [] b2 0 := by
  have hnew := hm.new
  simp only [size_alloc] at hnew
  have hk : Kept (fun k => k = w4.heap.size ∨ k = w4.heap.size + 1) w5 (((((w5.setCell ⟨w4.heap.size + 1, 0, none⟩ (.slice a3 D.length cap3)).setCell ⟨w4.heap.size, 0, none⟩ (.int .i64 dc)).setCell ⟨w4.heap.size, 1, none⟩ (.int .i64 dv.kind)).setCell ⟨w4.heap.size, 2, none⟩ (.float .f64 dv.num)).setCell ⟨w4.heap.size, 3, none⟩ (.string dv.text)) :=
    (((((Kept.refl _ _).setAt (.inl (.inr rfl)) _ _).setAt (.inl (.inl rfl)) _ _).setAt (.inl (.inl rfl)) _ _).setAt (.inl (.inl rfl)) _ _).setAt (.inl (.inl rfl)) _ _
  have hb : Beh w4 w5 := (((Beh.start w4).alloc _).alloc _).trans hm.beh
  have hZ : w5.heap[w4.heap.size + 1]? = some (Ms.zero.obj Ma.zero) := hm.beh.box (alloc_here _ (by simp))
  have hR : w5.heap[w4.heap.size]? = some (repObj lc lv) := hm.beh.box (old_alloc _ (alloc_here _ rfl))
  have hne : w4.heap.size ≠ w4.heap.size + 1 := by omega
  refine ⟨(hd.on hb).kept hk (fun k hk => by omega), ?_, ?_, OwnC.kept hm.own hk (fun _ e => by omega), OwnC.nil _ _ _ _, hn, by omega, fun _ => by show w4.heap.size + 1 < b2; omega, fun h => absurd rfl h, fun _ h => absurd rfl h⟩
  · have h1 := heap_setc (i := 0) (v := .slice a3 D.length cap3) hZ
    have h2 := heap_seto (heap_seto (heap_seto (heap_seto h1 0 hne (.int .i64 dc)) 1 hne (.int .i64 dv.kind)) 2 hne (.float .f64 dv.num)) 3 hne (.string dv.text)
    exact h2
  · exact heap_setc (i := 3) (v := .string dv.text) (heap_setc (i := 2) (v := .float .f64 dv.num) (heap_setc (i := 1) (v := .int .i64 dv.kind) (heap_setc (i := 0) (v := .int .i64 dc) (heap_seto hR 0 hne.symm (.slice a3 D.length cap3)))))
theorem OnS.on {w wr w' : World} {s : Ms} {m : Ma} {c : Cl} {no nr : Nat} {code : Int} {v : V} {t : Ms} {P : List Pr} {O : List Se} {bp bq : Nat} (h : OnS w wr s m c no nr code v t P O bp bq) (hb : Beh wr w') : OnS w w' s m c no nr code v t P O bp bq :=
  ⟨h.dx.on hb, hb.box h.obox, hb.box h.rbox, OwnC.kept h.op (kept_beh hb) (fun _ h => h), OwnC.kept h.oq (kept_beh hb) (fun _ h => h), h.hnr, h.hno, h.lo1, h.lo2, h.ne⟩
theorem OnS.sess {w wr w' : World} {s : Ms} {m : Ma} {c : Cl} {no nr b' cap' : Nat} {code : Int} {v : V} {t : Ms} {P : List Pr} {O : List Se} {bp bq : Nat} {a' : Option Addr} {p : Se} (h : OnS w wr s m c no nr code v t P O bp bq)
    (h2 : OwnC 54 6 w' b' a' cap' (O.length + 1) (flatS O ++ flatS [p])) (h3 : Kept (Of t.a2 bq) wr w') (h4 : (b' = bq ∧ (a' = none ∨ t.a2 ≠ none)) ∨ wr.heap.size ≤ b') :
    OnS w (w'.setCell ⟨no, 1, none⟩ (.slice a' (O.length + 1) cap')) s m c no nr code v ⟨t.a, t.cap, a', cap'⟩ P (O ++ [p]) bp b' := by
  have hnr := h.hnr
  have hno := h.hno
  have hof : ∀ k, Of t.a2 bq k → no < k := fun k hk => by have h1 := h.lo2 hk.1; have h2 := hk.2; omega
  have hol := lt_of_heap h.obox
  have hm : w'.heap[no]? = _ := h3.heap h.obox (fun e => by have := hof _ e; omega)
  have hset : Kept (Only no) w' (w'.setCell ⟨no, 1, none⟩ (.slice a' (O.length + 1) cap')) := (Kept.refl (Only no) w').setAt (.inl rfl) _ _
  have hblo : a' ≠ none → no < b' := fun ha => by
    rcases h4 with ⟨rfl, h4⟩ | h4
    · exact h.lo2 (h4.resolve_left ha)
    · omega
  refine ⟨(h.dx.kept h3 (fun k hk => by have := hof _ hk; omega)).kept hset (fun k hk => by have hk : k = no := hk; omega), ?_, hset.heap (h3.heap h.rbox (fun e => by have := hof _ e; omega)) (fun e => by have e : nr = no := e; omega), ?_, ?_, hnr, hno, h.lo1, hblo, ?_⟩
  · have := heap_setc (b := no) (i := 1) (v := .slice a' (O.length + 1) cap') hm
    rw [this]
    simp
  · exact OwnC.kept (OwnC.kept h.op h3 (fun ha e => by have e2 := e.2; exact (h.ne ha e.1) e2)) hset (fun ha e => by have := h.lo1 ha; have e : bp = no := e; omega)
  · have := OwnC.kept h2 hset (fun ha e => by have := hblo ha; have e : b' = no := e; omega)
    show OwnC _ 6 _ b' a' cap' (O ++ [p]).length (flatS (O ++ [p]))
    rw [List.length_append, flatS_append]
    exact this
  · intro ha ha2 e
    rcases h4 with ⟨rfl, h4⟩ | h4
    · exact h.ne ha (h4.resolve_left ha2) e
    · have := OwnC.lt h.op ha
      omega
end Go.Proofs.YtlgmjkbaihpmmaaGreat.Ss
end
section
/- The keeper's TwinMachine. -/
namespace Go.Proofs.YtlgmjkbaihpmmaaGreat.Ss
open Go Go.RowKit Vl Kv Mem Nm
attribute [local go_sem] run_bits run_frombits run_store_float
set_option maxHeartbeats 3200000 in
set_option maxRecDepth 100000 in
theorem twinM_any (s : Ms) (m : Ma) (w : World) (h : MaAt w s m) (h1 : m.pairs.length ≤ 100000) (h2 : m.sess.length ≤ 100000) :
    Calls Tryz.prog 64 #[s.agg m] w fun e w' => ∃ (t : Ms) (bp bq : Nat), e = .returned (t.agg m) ∧ MadeM w w' t m bp bq ∧ Beh w w' := by
  have HP := Lib.hid h.pairs
  have HS := Lib.hid h.sess
  clear h
  obtain ⟨L, S⟩ := m
  obtain ⟨a, cap, a2, cap2⟩ := s
  dsimp only at HP HS h1 h2
  obtain ⟨w0, hw0⟩ : ∃ w0, w0 = (((w.alloc (.cells #[.slice a L.length cap, .slice a2 S.length cap2] 25)).alloc (.cells #[.slice none 0 0, .slice none 0 0] 25)).alloc (.cells #[.slice none 0 0, .slice none 0 0] 25)) := ⟨_, rfl⟩
  have B0 : Hid (w0.heap[w.heap.size]? = some (.cells #[.slice a L.length cap, .slice a2 S.length cap2] 25)) := by show w0.heap[w.heap.size]? = _; rw [hw0]; exact old_alloc _ (old_alloc _ (alloc_here _ rfl))
  have B1 : Hid (w0.heap[w.heap.size + 1]? = some (.cells #[.slice none 0 0, .slice none 0 0] 25)) := by show w0.heap[w.heap.size + 1]? = _; rw [hw0]; exact old_alloc _ (alloc_here _ (by simp))
  have B2 : Hid (w0.heap[w.heap.size + 1 + 1]? = some (.cells #[.slice none 0 0, .slice none 0 0] 25)) := by show w0.heap[w.heap.size + 1 + 1]? = _; rw [hw0]; exact alloc_here _ (by simp)
  have BB : Hid (Beh w w0) := by show Beh w w0; rw [hw0]; exact (((Beh.start w).alloc _).alloc _).alloc _
  have hlt0 := Lib.hid (heap_lt B2.out)
  go_enter Tryz.func64, Tryz.ntmps64
  go_wp2_with (first
    | (at_builtin; refine wpList_append_cells rfl _ _ _ rfl 61 4 _ _ 48 Tryz.underlying22 rfl rfl rfl rfl rfl w0.heap.size none 0 0 [] rfl (OwnC.nil _ _ _ _) a cap L.length (flat L) rfl (by rw [← hw0]; exact (HP.out.below BB.out).src) flat_one (by omega) (by omega) ?_; rw [← hw0]; intro b' a' cap' w1 h2' h3 h4 h5; (have O1 := Lib.hid h2'); (have K1 : Hid (Kept Mem.None w0 w1) := h3.mono (fun x hx => absurd rfl hx.1)); (have N1 : Hid (w0.heap.size ≤ b') := (by show w0.heap.size ≤ b'; rcases h4 with ⟨h4, _⟩ | h4 <;> omega)); clear h2' h3 h4 h5; (obtain ⟨x0, x1⟩ := cells2 (K1.out.heap B0.out (fun e => e))); (obtain ⟨z0, z1⟩ := cells2 (K1.out.heap B2.out (fun e => e))); (have f0 := frozen_of (K1.out.heap B2.out (fun e => e)) 0))
    | (at_builtin; refine wpList_append_cells rfl _ _ _ rfl 54 6 _ _ 56 Tryz.underlying23 rfl rfl rfl rfl rfl w0.heap.size none 0 0 [] rfl (OwnC.nil _ _ _ _) a2 cap2 S.length (flatS S) rfl (HS.out.below ((BB.out.trans (beh_kept K1.out)).set (by omega) _ _)).src flatS_one (by omega) (by omega) ?_; intro b2' a2' cap2' w2 h2' h3 h4 h5; (have O2 := Lib.hid h2'); (have K2 : Hid (Kept Mem.None _ w2) := h3.mono (fun x hx => absurd rfl hx.1)); (have N2 : Hid (a2' ≠ none → w1.heap.size ≤ b2') := (fun ha => (by rcases h4 with ⟨_, h4⟩ | h4; exact absurd rfl (h4.resolve_left ha); simpa using h4))); clear h2' h3 h4 h5; (obtain ⟨z0, z1⟩ := cells2 (K2.out.heap (heap_setc (i := 0) (v := .slice a' L.length cap') (K1.out.heap B2.out (fun e => e))) (fun e => e))); (have f1 := frozen_of (K2.out.heap (heap_setc (i := 0) (v := .slice a' L.length cap') (K1.out.heap B2.out (fun e => e))) (fun e => e)) 1); (have R1 := Lib.hid (K2.out.heap (heap_seto (k := w.heap.size + 1 + 1) (K1.out.heap B1.out (fun e => e)) 0 (by omega) (.slice a' L.length cap')) (fun e => e))); (obtain ⟨y0, y1⟩ := cells2 R1.out); (have g0 := frozen_of R1.out 0); (have g1 := frozen_of R1.out 1)))
  have hl := hlt0.out
  have hk1 := K1.out.size
  have hn1 := N1.out
  have hset : Kept (Only (w.heap.size + 1 + 1)) w1 (w1.setCell ⟨w.heap.size + 1 + 1, 0, none⟩ (.slice a' L.length cap')) := (Kept.refl (Only (w.heap.size + 1 + 1)) w1).setAt (.inl rfl) _ _
  have HM2 := Lib.hid (show MadeM w w2 ⟨a', cap', a2', cap2'⟩ ⟨L, S⟩ b' b2' from ⟨by
      have := OwnC.kept (OwnC.kept O1.out hset (fun ha e => by have e : b' = w.heap.size + 1 + 1 := e; omega)) K2.out (fun _ h => h)
      simpa using this, by simpa using O2.out, fun _ => by omega, fun ha => by have := N2.out ha; omega, fun ha hb => by
      have h3 := OwnC.lt O1.out ha
      have h4 := N2.out hb
      show b' ≠ b2'
      omega⟩)
  have HBF := Lib.hid (((BB.out.trans (beh_kept K1.out)).set (show w.heap.size ≤ w.heap.size + 1 + 1 by omega) 0 (.slice a' L.length cap')).trans (beh_kept K2.out))
  (try simp only [Exit.inBlock, Exit.then])
  refine bodyPost_ret (v := .agg #[.slice a' L.length cap', .slice a2' S.length cap2']) ?_ rfl ⟨⟨a', cap', a2', cap2'⟩, b', b2', rfl, MadeM.twice (a := w.heap.size + 1) (b := w.heap.size + 1 + 1) HM2.out ?_ (fun _ => by show b' ≠ _ ∧ b' ≠ _; omega) (fun ha => by have := N2.out ha; show b2' ≠ _ ∧ b2' ≠ _; omega), ?_⟩
  · rw [results_cell_one rfl]
    simp only [Nat.zero_add] at *
    go_simp
  · repeat' (first | with_reducible exact Kept.refl _ _ | with_reducible refine Kept.setAt ?_ (.inl (by simp)) _ _ | with_reducible refine Kept.drew ?_)
  · show Beh w _
    repeat' (first | with_reducible exact HBF.out | with_reducible refine Beh.set ?_ (by omega) _ _ | with_reducible refine Beh.drew ?_)
end Go.Proofs.YtlgmjkbaihpmmaaGreat.Ss
end
section
/- The law's wakes: Do at a first call. -/
namespace Go.Proofs.YtlgmjkbaihpmmaaGreat.Ss
open Go Go.RowKit Vl Kv Mem Nm
attribute [local go_sem] run_bits run_frombits run_store_float

def DoneM (w : World) (m : Ma) (v : V) (e : Ending) (w' : World) : Prop :=
  ∃ (s : Ms) (bp bq : Nat), e = .returned (.tuple #[s.agg m, rep 0 v]) ∧ MadeM w w' s m bp bq ∧ Beh w w'
set_option maxHeartbeats 6400000 in
set_option maxRecDepth 100000 in
theorem Do_first (w : World) : Calls Tryz.prog 39 #[.agg #[.slice none 0 0, .slice none 0 0], .agg #[.int .i64 1, .int .i64 1, .int .i64 5, .string ⟨#[97]⟩, .int .i64 0, .float .f64 0, .string ⟨#[]⟩, .int .i64 1, .float .f64 4611686018427387904, .string ⟨#[]⟩]] w (DoneM w m1A vA) := by
  have HD := Lib.hid (Dbox.start w Ms.zero Ma.zero c1A)
  have HX0 : Hid (∀ {wr : World}, Dbox w wr Ms.zero Ma.zero c1A → wr.heap[w.heap.size]? = some (.cells #[.slice none 0 0, .slice none 0 0] 25)) := fun h => h.b0
  have HX1 : Hid (∀ {wr : World}, Dbox w wr Ms.zero Ma.zero c1A → wr.heap[w.heap.size + 1]? = some (.cells #[.int .i64 1, .int .i64 1, .int .i64 5, .string ⟨#[97]⟩, .int .i64 0, .float .f64 0, .string ⟨#[]⟩, .int .i64 1, .float .f64 4611686018427387904, .string ⟨#[]⟩] 84)) := fun h => h.b1
  have HX2 : Hid (∀ {wr : World}, Dbox w wr Ms.zero Ma.zero c1A → wr.heap[w.heap.size + 1 + 1]? = some (.cells #[.slice none 0 0, .slice none 0 0] 25)) := fun h => h.b2
  have HX3 : Hid (∀ {wr : World}, Dbox w wr Ms.zero Ma.zero c1A → wr.heap[w.heap.size + 1 + 1 + 1]? = some (.cells #[.int .i64 0, .int .i64 0, .float .f64 0, .string ⟨#[]⟩] 52)) := fun h => h.b3
  have HRI : ∀ w, Hid (Calls Tryz.prog 59 #[.agg #[.int .i64 1, .int .i64 1, .int .i64 5, .string ⟨#[97]⟩, .int .i64 0, .float .f64 0, .string ⟨#[]⟩, .int .i64 1, .float .f64 4611686018427387904, .string ⟨#[]⟩]] w fun e w' => e = .returned (.int .i64 0) ∧ Beh w w') := fun w => by
    have := SRight_any c1A w
    rw [right_c1A] at this
    exact this
  have HCK : ∀ w, Hid (Calls Tryz.prog 19 #[.agg #[.slice none 0 0, .slice none 0 0]] w fun e w' => e = .returned (.int .i64 0) ∧ Beh w w') := fun w => by
    have := SCheck_any Ms.zero Ma.zero w (MaAt.zero w)
    rw [right_m0A] at this
    exact this
  have HLA : ∀ w, Hid (Calls Tryz.prog 60 #[.agg #[.slice none 0 0, .slice none 0 0], .int .i64 1] w fun e w' => e = .returned (.tuple #[.int .i64 0, rep 0 V.zero]) ∧ Beh w w') := fun w => SLast_any Ms.zero Ma.zero 1 w (MaAt.zero w)
  have HDO : ∀ w, Hid (Calls Tryz.prog 62 #[.slice none 0 0, .agg #[.int .i64 5, .string ⟨#[97]⟩, .int .i64 0, .float .f64 0, .string ⟨#[]⟩, .int .i64 1, .float .f64 4611686018427387904, .string ⟨#[]⟩]] w (DoTold w ⟨[⟨⟨#[97]⟩, ⟨1, 4611686018427387904, ⟨#[]⟩⟩⟩], 0, ⟨1, 4611686018427387904, ⟨#[]⟩⟩⟩)) := fun w => by
    have := Do_told none 0 [] cmA w (PairsAt.empty w) (by simp) Fits.nil (by decide)
    rw [doing_A] at this
    exact this
  have HWI : ∀ w, Hid (Calls Tryz.prog 63 #[.slice none 0 0, .agg #[.int .i64 1, .int .i64 1, .int .i64 0, .int .i64 1, .float .f64 4611686018427387904, .string ⟨#[]⟩]] w fun e w' => ∃ b' a' cap', e = .returned (.slice a' 1 cap') ∧ MadeS w w' b' a' cap' [⟨1, 1, 0, vA⟩]) := fun w => with_nil ⟨1, 1, 0, vA⟩ w
  go_enter Tryz.func39, Tryz.ntmps39
  go_wp2_with fail
  refine Calls.mono ((HRI _).out) ?_
  rintro e w1 ⟨rfl, hb⟩
  have HD := Lib.hid (HD.out.on hb)
  clear hb
  obtain ⟨x0, x1⟩ := cells2 (HX0.out HD.out)
  obtain ⟨y0, y1, y2, y3, y4, y5, y6, y7, y8, y9⟩ := cells10 (HX1.out HD.out)
  go_wp2_with fail
  refine Calls.mono ((HCK _).out) ?_
  rintro e w2 ⟨rfl, hb⟩
  have HD := Lib.hid (HD.out.on hb)
  clear hb
  clear x0 x1 y0 y1 y2 y3 y4 y5 y6 y7 y8 y9
  obtain ⟨x0, x1⟩ := cells2 (HX0.out HD.out)
  obtain ⟨y0, y1, y2, y3, y4, y5, y6, y7, y8, y9⟩ := cells10 (HX1.out HD.out)
  go_wp2_with fail
  refine Calls.mono ((HLA _).out) ?_
  rintro e w3 ⟨rfl, hb⟩
  have HD := Lib.hid (HD.out.on hb)
  clear hb
  clear x0 x1 y0 y1 y2 y3 y4 y5 y6 y7 y8 y9
  obtain ⟨x0, x1⟩ := cells2 (HX0.out HD.out)
  obtain ⟨y0, y1, y2, y3, y4, y5, y6, y7, y8, y9⟩ := cells10 (HX1.out HD.out)
  have x0a := fun o => cellOn ((Beh.start _).alloc o) x0
  have y1a := fun o => cellOn ((Beh.start _).alloc o) y1
  have y2a := fun o => cellOn ((Beh.start _).alloc o) y2
  have y3a := fun o => cellOn ((Beh.start _).alloc o) y3
  have y4a := fun o => cellOn ((Beh.start _).alloc o) y4
  have y5a := fun o => cellOn ((Beh.start _).alloc o) y5
  have y6a := fun o => cellOn ((Beh.start _).alloc o) y6
  have y7a := fun o => cellOn ((Beh.start _).alloc o) y7
  have y8a := fun o => cellOn ((Beh.start _).alloc o) y8
  have y9a := fun o => cellOn ((Beh.start _).alloc o) y9
  go_wp2_with fail
  refine Calls.mono ((HDO _).out) ?_
  rintro e w4 ⟨b2, a2, cap2, rfl, hm⟩
  have HS3 := Lib.hid (heap_lt (HX3.out HD.out))
  have HD := Lib.hid ((HD.out.on ((Beh.start w3).alloc _)).on hm.beh)
  have HP := Lib.hid hm.own
  have hn := hm.new
  rw [size_alloc] at hn
  have hs3 := heap_lt (HX3.out HD.out)
  clear hm x0 x1 y0 y1 y2 y3 y4 y5 y6 y7 y8 y9 x0a y1a y2a y3a y4a y5a y6a y7a y8a y9a
  obtain ⟨y0, y1, y2, y3, y4, y5, y6, y7, y8, y9⟩ := cells10 (HX1.out HD.out)
  have y0a := fun o => cellOn ((Beh.start _).alloc o) y0
  have y1a := fun o => cellOn ((Beh.start _).alloc o) y1
  go_wp2_with fail
  obtain ⟨w5, hw5⟩ : ∃ w5, w5 = ((w4.alloc (.cells #[.int .i64 0, .int .i64 1, .float .f64 4611686018427387904, .string ⟨#[]⟩] 52)).alloc (.cells #[.int .i64 1, .int .i64 1, .int .i64 0, .int .i64 1, .float .f64 4611686018427387904, .string ⟨#[]⟩] 54)) := ⟨_, rfl⟩
  rw [← hw5]
  have hb5 : Beh w4 w5 := by rw [hw5]; exact ((Beh.start w4).alloc _).alloc _
  have HR5 : Hid (w5.heap[w4.heap.size]? = some (.cells #[.int .i64 0, .int .i64 1, .float .f64 4611686018427387904, .string ⟨#[]⟩] 52)) := by show w5.heap[w4.heap.size]? = _; rw [hw5]; exact old_alloc _ (alloc_here _ rfl)
  have HS5 : Hid (w5.heap[w4.heap.size + 1]? = some (.cells #[.int .i64 1, .int .i64 1, .int .i64 0, .int .i64 1, .float .f64 4611686018427387904, .string ⟨#[]⟩] 54)) := by show w5.heap[w4.heap.size + 1]? = _; rw [hw5]; exact alloc_here _ (by simp)
  have HD5 := Lib.hid (HD.out.on hb5)
  have HB5 := Lib.hid hb5
  have hs4 : w4.heap.size < w5.heap.size := heap_lt HR5.out
  clear hw5 hb5 y0 y1 y2 y3 y4 y5 y6 y7 y8 y9 y0a y1a
  obtain ⟨x0, x1⟩ := cells2 (HX0.out HD5.out)
  obtain ⟨s0, s1, s2, s3, s4, s5⟩ := cells6 HS5.out
  obtain ⟨r0, r1, r2, r3⟩ := cells4 HR5.out
  obtain ⟨u0, u1⟩ := cells2 (HX2.out HD5.out)
  obtain ⟨v0, v1, v2, v3⟩ := cells4 (HX3.out HD5.out)
  have e0 := frozen_of (HX3.out HD5.out) 0
  have e1 := frozen_of (HX3.out HD5.out) 1
  have e2 := frozen_of (HX3.out HD5.out) 2
  have e3 := frozen_of (HX3.out HD5.out) 3
  go_region_with ((go_at_call 63; refine Calls.mono ((HWI _).out) ?_; rintro e w6 ⟨b3, a3, c3, rfl, hm⟩; (have HM := Lib.hid hm); clear hm; (have HB6 := Lib.hid (show Beh w5 w6 from (Beh.start w5).drew.trans HM.out.beh)); (have HD6 := Lib.hid (HD5.out.on HB6.out)); (obtain ⟨p0, p1⟩ := cells2 (HX2.out HD6.out)); (obtain ⟨q0, q1, q2, q3⟩ := cells4 (HX3.out HD6.out)); (obtain ⟨k0, k1, k2, k3⟩ := cells4 (HB6.out.box HR5.out)); (have f0 := frozen_of (HX2.out HD6.out) 0); (have f1 := frozen_of (HX2.out HD6.out) 1); (have g0 := frozen_of (HX3.out HD6.out) 0); (have g1 := frozen_of (HX3.out HD6.out) 1); (have g2 := frozen_of (HX3.out HD6.out) 2); (have g3 := frozen_of (HX3.out HD6.out) 3)))
  all_goals
    have hs33 := HS3.out
    have hn3 : w5.heap.size ≤ b3 := HM.out.new
    have HMM := Lib.hid (show MadeM w w6 ⟨a2, cap2, a3, c3⟩ m1A b2 b3 from ⟨OwnC.kept HP.out (kept_beh (HB5.out.trans HB6.out)) (fun _ h => h), HM.out.own, fun _ => by omega, fun _ => by omega, fun ha _ => by have := OwnC.lt HP.out ha; omega⟩)
    go_wp2_with fail
    (try simp only [Exit.inBlock, Exit.then])
    refine bodyPost_ret (v := .tuple #[.agg #[.slice a2 1 cap2, .slice a3 1 c3], .agg #[.int .i64 0, .int .i64 1, .float .f64 4611686018427387904, .string ⟨#[]⟩]]) ?_ rfl ⟨⟨a2, cap2, a3, c3⟩, b2, b3, rfl, MadeM.twice (a := w.heap.size + 1 + 1) (b := w.heap.size + 1 + 1 + 1) HMM.out ?_ (fun _ => by show b2 ≠ _ ∧ b2 ≠ _; omega) (fun _ => by show b3 ≠ _ ∧ b3 ≠ _; omega), ?_⟩
    · rw [results_cells rfl]
      go_simp
    · repeat' (first | with_reducible exact Kept.refl _ _ | with_reducible refine Kept.setAt ?_ (.inl (by simp)) _ _ | with_reducible refine Kept.drew ?_)
    · show Beh w _
      repeat' (first | with_reducible exact HD6.out.beh | with_reducible refine Beh.set ?_ (by omega) _ _ | with_reducible refine Beh.drew ?_)
end Go.Proofs.YtlgmjkbaihpmmaaGreat.Ss
end
section
/- The landed copied. -/
namespace Go.Proofs.YtlgmjkbaihpmmaaGreat.Ss
open Go Go.RowKit Vl Kv Mem Nm
attribute [local go_sem] run_bits run_frombits run_store_float
set_option maxHeartbeats 3200000 in
set_option maxRecDepth 100000 in
theorem copied_any (s : Ms) (m : Ma) (w : World) (h : MaAt w s m) (h1 : m.pairs.length ≤ 100000) (h2 : m.sess.length ≤ 100000) :
    Calls Tryz.prog 61 #[s.agg m] w fun e w' => ∃ (t : Ms) (bp bq : Nat), e = .returned (t.agg m) ∧ MadeM w w' t m bp bq ∧ Beh w w' := by
  have HM0 := Lib.hid (old_alloc (Ms.zero.obj Ma.zero) (alloc_here (w := w) (s.obj m) rfl))
  have HZ0 : Hid (((w.alloc (s.obj m)).alloc (Ms.zero.obj Ma.zero)).heap[w.heap.size + 1]? = some (.cells #[.slice none 0 0, .slice none 0 0] 25)) := alloc_here (Ms.zero.obj Ma.zero) (by simp)
  have HB0 := Lib.hid (((Beh.start w).alloc (s.obj m)).alloc (Ms.zero.obj Ma.zero))
  have HCP : Hid (∀ W, Beh w W → Calls Tryz.prog 82 #[.slice s.a m.pairs.length s.cap] W fun e w' => ∃ b' a' cap', e = .returned (.slice a' m.pairs.length cap') ∧ Made W w' b' a' cap' m.pairs) := fun W hb => clone_any _ _ _ W (h.pairs.below hb) h1
  have HCS : Hid (∀ W, Beh w W → Calls Tryz.prog 83 #[.slice s.a2 m.sess.length s.cap2] W fun e w' => ∃ b' a' cap', e = .returned (.slice a' m.sess.length cap') ∧ MadeS W w' b' a' cap' m.sess) := fun W hb => cloneS_any _ _ _ W (h.sess.below hb) h2
  clear h
  obtain ⟨L, S⟩ := m
  obtain ⟨a, cap, a2, cap2⟩ := s
  unfold Ms.obj at HM0 HZ0 HB0
  dsimp only at HM0 HZ0 HB0 HCP HCS
  have hms : Ms.zero.a = none ∧ Ms.zero.a2 = none := ⟨rfl, rfl⟩
  go_enter Tryz.func61, Tryz.ntmps61
  go_wp2_with fail
  obtain ⟨w1, hw1⟩ : ∃ w1, w1 = ((w.alloc (.cells #[.slice a L.length cap, .slice a2 S.length cap2] 25)).alloc (.cells #[.slice none 0 0, .slice none 0 0] 25)) := ⟨_, rfl⟩
  rw [← hw1]
  have HM1 : Hid (w1.heap[w.heap.size]? = some (.cells #[.slice a L.length cap, .slice a2 S.length cap2] 25)) := by show w1.heap[w.heap.size]? = _; rw [hw1]; exact HM0.out
  have HZ1 : Hid (w1.heap[w.heap.size + 1]? = some (.cells #[.slice none 0 0, .slice none 0 0] 25)) := by show w1.heap[w.heap.size + 1]? = _; rw [hw1]; exact HZ0.out
  have HB1 : Hid (Beh w w1) := by show Beh w w1; rw [hw1]; exact HB0.out
  clear hw1 HM0 HZ0 HB0 hms
  obtain ⟨m0, m1⟩ := cells2 HM1.out
  obtain ⟨z0, z1⟩ := cells2 HZ1.out
  have hs1 := Lib.hid (heap_lt HZ1.out)
  have HBC := Lib.hid HB1.out.drew
  have HOS : Hid (∀ W, Beh w1 W → True) := fun _ _ => trivial
  have HWW := Lib.hid (Beh.start w1).drew
  go_region_with ((first
    | (go_at_call 82; refine Calls.mono (HCP.out _ (HB1.out.trans HWW.out)) ?_; rintro e wP ⟨bP, aP, cP, rfl, hm⟩; (have HMP := Lib.hid hm); clear hm; (have HWW := Lib.hid (HWW.out.trans HMP.out.beh)); (obtain ⟨m0, m1⟩ := cells2 (HWW.out.box HM1.out)); (obtain ⟨z0, z1⟩ := cells2 (HWW.out.box HZ1.out)); (have f0 := frozen_of (HWW.out.box HZ1.out) 0); (have f1 := frozen_of (HWW.out.box HZ1.out) 1))
    | (go_at_call 83; refine Calls.mono (HCS.out _ (HB1.out.trans HWW.out)) ?_; rintro e wS ⟨bS, aS, cS, rfl, hm⟩; (have HMS := Lib.hid hm); clear hm; (have HWW := Lib.hid (HWW.out.trans HMS.out.beh)); (obtain ⟨m0, m1⟩ := cells2 (HWW.out.box HM1.out)); (obtain ⟨z0, z1⟩ := cells2 (HWW.out.box HZ1.out)); (have f0 := frozen_of (HWW.out.box HZ1.out) 0); (have f1 := frozen_of (HWW.out.box HZ1.out) 1))))
  all_goals
    have hn1 := HMP.out.new
    have hn2 := HMS.out.new
    have hq1 := HMP.out.beh.size
    have hq2 := HMS.out.beh.size
    have hs := hs1.out
    have hd : w1.drew.heap.size = w1.heap.size := rfl
    have HBE := Lib.hid (HB1.out.trans HWW.out)
    go_wp2_with fail
    (try simp only [Exit.inBlock, Exit.then])
    refine bodyPost_ret (v := .agg #[.slice aP L.length cP, .slice aS S.length cS]) ?_ rfl ⟨⟨aP, cP, aS, cS⟩, bP, bS, rfl, ?_, ?_⟩
    · rw [results_cell_one rfl]
      go_simp
    · first
        | exact MadeM.twice (a := w.heap.size + 1) (b := w.heap.size + 1) (w' := wS) ⟨OwnC.kept HMP.out.own (kept_beh HMS.out.beh) (fun _ h => h), HMS.out.own, fun _ => by omega, fun _ => by omega, fun ha _ => by have h1 := OwnC.lt HMP.out.own ha; show bP ≠ bS; omega⟩ (by repeat' (first | with_reducible exact Kept.refl _ _ | with_reducible refine Kept.setAt ?_ (.inl (by simp)) _ _ | with_reducible refine Kept.drew ?_)) (fun _ => by omega) (fun _ => by omega)
        | exact MadeM.twice (a := w.heap.size + 1) (b := w.heap.size + 1) (w' := wP) ⟨HMP.out.own, OwnC.kept HMS.out.own (kept_beh HMP.out.beh) (fun _ h => h), fun _ => by omega, fun _ => by omega, fun _ ha => by have h1 := OwnC.lt HMS.out.own ha; show bP ≠ bS; omega⟩ (by repeat' (first | with_reducible exact Kept.refl _ _ | with_reducible refine Kept.setAt ?_ (.inl (by simp)) _ _ | with_reducible refine Kept.drew ?_)) (fun _ => by omega) (fun _ => by omega)
    · show Beh w _
      repeat' (first | with_reducible exact HBE.out | with_reducible refine Beh.set ?_ (by omega) _ _ | with_reducible refine Beh.drew ?_)
end Go.Proofs.YtlgmjkbaihpmmaaGreat.Ss
end
section
/- The law's wakes: Do at the same call again; wakes. -/
namespace Go.Proofs.YtlgmjkbaihpmmaaGreat.Ss
open Go Go.RowKit Vl Kv Mem Nm
attribute [local go_sem] run_bits run_frombits run_store_float

theorem last_m1A : lastOf m1A.sess 1 = ⟨1, 1, 0, vA⟩ := by kernel_rfl
set_option maxHeartbeats 6400000 in
set_option maxRecDepth 100000 in
theorem Do_again (a : Option Addr) (cap : Nat) (a2 : Option Addr) (cap2 : Nat) (w : World) (h : MaAt w ⟨a, cap, a2, cap2⟩ m1A) : Calls Tryz.prog 39 #[.agg #[.slice a 1 cap, .slice a2 1 cap2], .agg #[.int .i64 1, .int .i64 1, .int .i64 5, .string ⟨#[97]⟩, .int .i64 0, .float .f64 0, .string ⟨#[]⟩, .int .i64 1, .float .f64 4611686018427387904, .string ⟨#[]⟩]] w (DoneM w m1A vA) := by
  have HD := Lib.hid (Dbox.start w ⟨a, cap, a2, cap2⟩ m1A c1A)
  have HX0 : Hid (∀ {wr : World}, Dbox w wr ⟨a, cap, a2, cap2⟩ m1A c1A → wr.heap[w.heap.size]? = some (.cells #[.slice a 1 cap, .slice a2 1 cap2] 25)) := fun h => h.b0
  have HX1 : Hid (∀ {wr : World}, Dbox w wr ⟨a, cap, a2, cap2⟩ m1A c1A → wr.heap[w.heap.size + 1]? = some (.cells #[.int .i64 1, .int .i64 1, .int .i64 5, .string ⟨#[97]⟩, .int .i64 0, .float .f64 0, .string ⟨#[]⟩, .int .i64 1, .float .f64 4611686018427387904, .string ⟨#[]⟩] 84)) := fun h => h.b1
  have HX2 : Hid (∀ {wr : World}, Dbox w wr ⟨a, cap, a2, cap2⟩ m1A c1A → wr.heap[w.heap.size + 1 + 1]? = some (.cells #[.slice none 0 0, .slice none 0 0] 25)) := fun h => h.b2
  have HX3 : Hid (∀ {wr : World}, Dbox w wr ⟨a, cap, a2, cap2⟩ m1A c1A → wr.heap[w.heap.size + 1 + 1 + 1]? = some (.cells #[.int .i64 0, .int .i64 0, .float .f64 0, .string ⟨#[]⟩] 52)) := fun h => h.b3
  have HRI : ∀ w, Hid (Calls Tryz.prog 59 #[.agg #[.int .i64 1, .int .i64 1, .int .i64 5, .string ⟨#[97]⟩, .int .i64 0, .float .f64 0, .string ⟨#[]⟩, .int .i64 1, .float .f64 4611686018427387904, .string ⟨#[]⟩]] w fun e w' => e = .returned (.int .i64 0) ∧ Beh w w') := fun w => by
    have := SRight_any c1A w
    rw [right_c1A] at this
    exact this
  have HCK : Hid (∀ W, Beh w W → Calls Tryz.prog 19 #[.agg #[.slice a 1 cap, .slice a2 1 cap2]] W fun e w' => e = .returned (.int .i64 0) ∧ Beh W w') := fun W hb => by
    have := SCheck_any ⟨a, cap, a2, cap2⟩ m1A W (h.on hb)
    rw [right_m1A] at this
    exact this
  have HLA : Hid (∀ W, Beh w W → Calls Tryz.prog 60 #[.agg #[.slice a 1 cap, .slice a2 1 cap2], .int .i64 1] W fun e w' => e = .returned (.tuple #[.int .i64 1, .agg #[.int .i64 0, .int .i64 1, .float .f64 4611686018427387904, .string ⟨#[]⟩]]) ∧ Beh W w') := fun W hb => by
    have := SLast_any ⟨a, cap, a2, cap2⟩ m1A 1 W (h.on hb)
    unfold LastTold at this
    rw [last_m1A] at this
    exact this
  have HCO : Hid (∀ W, Beh w W → Calls Tryz.prog 61 #[.agg #[.slice a 1 cap, .slice a2 1 cap2]] W fun e w' => ∃ (t : Ms) (bp bq : Nat), e = .returned (.agg #[.slice t.a 1 t.cap, .slice t.a2 1 t.cap2]) ∧ MadeM W w' t m1A bp bq ∧ Beh W w') := fun W hb => copied_any ⟨a, cap, a2, cap2⟩ m1A W (h.on hb) (by decide) (by decide)
  clear h
  go_enter Tryz.func39, Tryz.ntmps39
  go_wp2_with fail
  refine Calls.mono ((HRI _).out) ?_
  rintro e w1 ⟨rfl, hb⟩
  have HD := Lib.hid (HD.out.on hb)
  clear hb
  obtain ⟨x0, x1⟩ := cells2 (HX0.out HD.out)
  obtain ⟨y0, y1, y2, y3, y4, y5, y6, y7, y8, y9⟩ := cells10 (HX1.out HD.out)
  go_wp2_with fail
  refine Calls.mono (HCK.out _ HD.out.beh) ?_
  rintro e w2 ⟨rfl, hb⟩
  have HD := Lib.hid (HD.out.on hb)
  clear hb
  clear x0 x1 y0 y1 y2 y3 y4 y5 y6 y7 y8 y9
  obtain ⟨x0, x1⟩ := cells2 (HX0.out HD.out)
  obtain ⟨y0, y1, y2, y3, y4, y5, y6, y7, y8, y9⟩ := cells10 (HX1.out HD.out)
  go_wp2_with fail
  refine Calls.mono (HLA.out _ HD.out.beh) ?_
  rintro e w3 ⟨rfl, hb⟩
  have HD := Lib.hid (HD.out.on hb)
  clear hb
  clear x0 x1 y0 y1 y2 y3 y4 y5 y6 y7 y8 y9
  obtain ⟨x0, x1⟩ := cells2 (HX0.out HD.out)
  obtain ⟨y0, y1, y2, y3, y4, y5, y6, y7, y8, y9⟩ := cells10 (HX1.out HD.out)
  have x0a := fun o => cellOn ((Beh.start _).alloc o) x0
  have x1a := fun o => cellOn ((Beh.start _).alloc o) x1
  have y1a := fun o => cellOn ((Beh.start _).alloc o) y1
  have HS3 := Lib.hid (heap_lt (HX3.out HD.out))
  go_wp2_with fail
  obtain ⟨w5, hw5⟩ : ∃ w5, w5 = (w3.alloc (.cells #[.int .i64 0, .int .i64 1, .float .f64 4611686018427387904, .string ⟨#[]⟩] 52)) := ⟨_, rfl⟩
  rw [← hw5]
  have hb5 : Beh w3 w5 := by rw [hw5]; exact (Beh.start w3).alloc _
  have HR5 : Hid (w5.heap[w3.heap.size]? = some (.cells #[.int .i64 0, .int .i64 1, .float .f64 4611686018427387904, .string ⟨#[]⟩] 52)) := by show w5.heap[w3.heap.size]? = _; rw [hw5]; exact alloc_here _ rfl
  have HD5 := Lib.hid (HD.out.on hb5)
  clear hw5 hb5 x0a x1a y1a
  clear x0 x1 y0 y1 y2 y3 y4 y5 y6 y7 y8 y9
  have hs3 := HS3.out
  obtain ⟨x0, x1⟩ := cells2 (HX0.out HD5.out)
  obtain ⟨r0, r1, r2, r3⟩ := cells4 HR5.out
  obtain ⟨u0, u1⟩ := cells2 (HX2.out HD5.out)
  obtain ⟨v0, v1, v2, v3⟩ := cells4 (HX3.out HD5.out)
  have e0 := frozen_of (HX3.out HD5.out) 0
  have e1 := frozen_of (HX3.out HD5.out) 1
  have e2 := frozen_of (HX3.out HD5.out) 2
  have e3 := frozen_of (HX3.out HD5.out) 3
  go_region_with ((go_at_call 61; refine Calls.mono (HCO.out _ HD5.out.beh.drew) ?_; rintro e w6 ⟨t, b2, b3, rfl, hm, hb⟩; (have HM := Lib.hid hm); (have HB6 := Lib.hid (show Beh w5 w6 from (Beh.start w5).drew.trans hb)); clear hm hb; (have HD6 := Lib.hid (HD5.out.on HB6.out)); (obtain ⟨p0, p1⟩ := cells2 (HX2.out HD6.out)); (obtain ⟨q0, q1, q2, q3⟩ := cells4 (HX3.out HD6.out)); (obtain ⟨k0, k1, k2, k3⟩ := cells4 (HB6.out.box HR5.out)); (have f0 := frozen_of (HX2.out HD6.out) 0); (have f1 := frozen_of (HX2.out HD6.out) 1); (have g0 := frozen_of (HX3.out HD6.out) 0); (have g1 := frozen_of (HX3.out HD6.out) 1); (have g2 := frozen_of (HX3.out HD6.out) 2); (have g3 := frozen_of (HX3.out HD6.out) 3)))
  all_goals
    have hd : w5.drew.heap.size = w5.heap.size := rfl
    have hlo1 := HM.out.lo1
    have hlo2 := HM.out.lo2
    have hb5 := HD5.out.beh.size
    have hs35 := heap_lt HR5.out
    go_wp2_with fail
    (try simp only [Exit.inBlock, Exit.then])
    refine bodyPost_ret (v := .tuple #[.agg #[.slice t.a 1 t.cap, .slice t.a2 1 t.cap2], .agg #[.int .i64 0, .int .i64 1, .float .f64 4611686018427387904, .string ⟨#[]⟩]]) ?_ rfl ⟨t, b2, b3, rfl, MadeM.twice (a := w.heap.size + 1 + 1) (b := w.heap.size + 1 + 1 + 1) (HM.out.from (w0 := w) (by omega)) ?_ (fun ha => by have := hlo1 ha; omega) (fun ha => by have := hlo2 ha; omega), ?_⟩
    · rw [results_cells rfl]
      go_simp
    · repeat' (first | with_reducible exact Kept.refl _ _ | with_reducible refine Kept.setAt ?_ (.inl (by simp)) _ _ | with_reducible refine Kept.drew ?_)
    · show Beh w _
      repeat' (first | with_reducible exact HD6.out.beh | with_reducible refine Beh.set ?_ (by omega) _ _ | with_reducible refine Beh.drew ?_)
set_option maxHeartbeats 3200000 in
set_option maxRecDepth 100000 in
theorem Swakes_any (w : World) : Calls Tryz.prog 16 #[] w fun e w' => e = .returned (.bool true) ∧ Beh w w' := by
  have HF : ∀ W, Hid (Calls Tryz.prog 39 #[.agg #[.slice none 0 0, .slice none 0 0], .agg #[.int .i64 1, .int .i64 1, .int .i64 5, .string ⟨#[97]⟩, .int .i64 0, .float .f64 0, .string ⟨#[]⟩, .int .i64 1, .float .f64 4611686018427387904, .string ⟨#[]⟩]] W fun e w' => ∃ (t : Ms) (bp bq : Nat), e = .returned (.tuple #[.agg #[.slice t.a 1 t.cap, .slice t.a2 1 t.cap2], .agg #[.int .i64 0, .int .i64 1, .float .f64 4611686018427387904, .string ⟨#[]⟩]]) ∧ MadeM W w' t m1A bp bq ∧ Beh W w') := fun W => Do_first W
  have HA0 := Lib.hid (alloc_here (w := w) c1A.obj rfl)
  have HB0 := Lib.hid ((Beh.start w).alloc c1A.obj)
  have HX : Hid (∀ {W : World}, Beh (w.alloc c1A.obj) W → W.heap[w.heap.size]? = some (.cells #[.int .i64 1, .int .i64 1, .int .i64 5, .string ⟨#[97]⟩, .int .i64 0, .float .f64 0, .string ⟨#[]⟩, .int .i64 1, .float .f64 4611686018427387904, .string ⟨#[]⟩] 84)) := fun hb => hb.box HA0.out
  have fe : (FloatKind.f64.format.order 4611686018427387904 4611686018427387904 == some .eq) = true := by kernel_rfl
  go_enter Tryz.func16, Tryz.ntmps16
  go_wp2_with fail
  refine Calls.mono ((HF _).out) ?_
  rintro e w1 ⟨s, bp, bq, rfl, hm, hb⟩
  obtain ⟨a, cap, a2, cap2⟩ := s
  have HM := Lib.hid hm.at_
  have HB1 := Lib.hid hb
  clear hm hb
  have HA2 : Hid (∀ W, Beh w1 W → Calls Tryz.prog 39 #[.agg #[.slice a 1 cap, .slice a2 1 cap2], .agg #[.int .i64 1, .int .i64 1, .int .i64 5, .string ⟨#[97]⟩, .int .i64 0, .float .f64 0, .string ⟨#[]⟩, .int .i64 1, .float .f64 4611686018427387904, .string ⟨#[]⟩]] W fun e w' => ∃ (t : Ms) (bp bq : Nat), e = .returned (.tuple #[.agg #[.slice t.a 1 t.cap, .slice t.a2 1 t.cap2], .agg #[.int .i64 0, .int .i64 1, .float .f64 4611686018427387904, .string ⟨#[]⟩]]) ∧ MadeM W w' t m1A bp bq ∧ Beh W w') := fun W hb => Do_again a cap a2 cap2 W (HM.out.on hb)
  obtain ⟨y0, y1, y2, y3, y4, y5, y6, y7, y8, y9⟩ := cells10 (HX.out HB1.out)
  have y0a := fun o => cellOn ((Beh.start _).alloc o) y0
  have y1a := fun o => cellOn ((Beh.start _).alloc o) y1
  have y2a := fun o => cellOn ((Beh.start _).alloc o) y2
  have y3a := fun o => cellOn ((Beh.start _).alloc o) y3
  have y4a := fun o => cellOn ((Beh.start _).alloc o) y4
  have y5a := fun o => cellOn ((Beh.start _).alloc o) y5
  have y6a := fun o => cellOn ((Beh.start _).alloc o) y6
  have y7a := fun o => cellOn ((Beh.start _).alloc o) y7
  have y8a := fun o => cellOn ((Beh.start _).alloc o) y8
  have y9a := fun o => cellOn ((Beh.start _).alloc o) y9
  have hlt1 := heap_lt (HX.out HB1.out)
  have h1 : w1.heap.size ≠ w.heap.size := by omega
  have h2 : w1.heap.size + 1 ≠ w.heap.size := by omega
  have h3 : w.heap.size ≠ w1.heap.size := by omega
  have h4 : w.heap.size ≠ w1.heap.size + 1 := by omega
  have HW2 := Lib.hid (((Beh.start w1).alloc (.cells #[.slice a 1 cap, .slice a2 1 cap2] 25)).alloc (.cells #[.int .i64 0, .int .i64 1, .float .f64 4611686018427387904, .string ⟨#[]⟩] 52))
  have HN2 := Lib.hid (old_alloc (.cells #[.int .i64 0, .int .i64 1, .float .f64 4611686018427387904, .string ⟨#[]⟩] 52) (alloc_here (w := w1) (.cells #[.slice a 1 cap, .slice a2 1 cap2] 25) rfl))
  go_wp2_with fail
  refine Calls.mono (HA2.out _ HW2.out) ?_
  rintro e w3 ⟨t, b2, b3, rfl, hm, hb⟩
  obtain ⟨ha, hc0, _⟩ := hm.op.cell (j := 2) (by decide)
  have hlo := hm.lo1 (by rw [ha]; exact fun h => by cases h)
  have hc : w3.cell? ⟨b2, 2, none⟩ = some (.float .f64 4611686018427387904) := hc0
  clear hc0
  obtain ⟨ta, tcap, ta2, tcap2⟩ := t
  obtain rfl : ta = some ⟨b2, 0, none⟩ := ha
  have HB3 := Lib.hid ((HB0.out.trans HB1.out).trans (HW2.out.trans hb))
  obtain ⟨n0, n1⟩ := cells2 (hb.box HN2.out)
  have f0 := frozen_of (hb.box HN2.out) 0
  have f1 := frozen_of (hb.box HN2.out) 1
  have hlo2 : w1.heap.size + 2 ≤ b2 := by simpa using hlo
  have k1 : b2 ≠ w1.heap.size := by omega
  have k2 : w1.heap.size ≠ b2 := by omega
  have hlt3 := heap_lt (hb.box HN2.out)
  have k3 : w1.heap.size ≠ w3.heap.size := by omega
  have k4 : w3.heap.size ≠ w1.heap.size := by omega
  have hb2 := World.block_lt_of_cell? w3 _ hc
  have k5 : b2 ≠ w3.heap.size := by have : b2 < w3.heap.size := hb2; omega
  have k6 : w3.heap.size ≠ b2 := fun e => k5 e.symm
  have hfin : ∀ (x y : Value) (o : Obj), (((w3.setCell ⟨w1.heap.size, 0, none⟩ x).setCell ⟨w1.heap.size, 1, none⟩ y).alloc o).cell? ⟨b2, 2, none⟩ = some (.float .f64 4611686018427387904) := fun x y o => cellOn ((Beh.start _).alloc o) ((World.cell?_of_block (w := w3) (by show ((w3.setCell _ x).setCell _ y).heap[b2]? = _; rw [Below.heap_setCell _ _ _ _ k1, Below.heap_setCell _ _ _ _ k1])).trans hc)
  clear hm hb hlo hlo2 hb2 y0 y1 y2 y3 y4 y5 y6 y7 y8 y9 y0a y1a y2a y3a y4a y5a y6a y7a y8a y9a
  go_wp2_with fail
  go_ret
  exact ⟨rfl, by
    have hsz := HB1.out.size
    rw [size_alloc] at hsz
    show Beh w _
    repeat' (first | with_reducible exact HB3.out | with_reducible refine Beh.set ?_ (by omega) _ _ | with_reducible refine Beh.drew ?_ | with_reducible refine Beh.alloc ?_ _)⟩
end Go.Proofs.YtlgmjkbaihpmmaaGreat.Ss
end
