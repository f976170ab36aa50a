/- Package disk's Crash and trips, as walks of the code that landed. -/
import Derived.Test.YtaogpchjkbcjoaaDiskIn
namespace Go.Proofs.Ytaogpchjkbcjoaa.Dk
open Go Go.RowKit Mem Kp
theorem At.onHeap {w w' : World} {d : Nat} {S : Nat → Prop} {p : Option Addr} {st : St} (h : At w d S p st) (e : w'.heap = w.heap) : At w' d S p st := by
  refine ⟨by rw [e]; exact h.heap, ?_, h.self, fun k hk => by rw [e]; exact h.hi k hk⟩
  rcases h.held with h | ⟨s, b, a, c, h1, h2, h3, h4⟩
  · exact .inl h
  · exact .inr ⟨s, b, a, c, h1, by rw [e]; exact h2, h3.heap e, h4⟩
set_option maxHeartbeats 8000000 in
set_option maxRecDepth 100000 in
theorem crash_any (w : World) (d : Nat) (S : Nat → Prop) (p : Option Addr) (st : St) (h : At w d S p st) (ok : st.Ok) (k : Int) :
    Calls Try.prog 22 #[.pointer (some ⟨d, 0, none⟩), .int .i64 k] w fun x w' => x = .returned (.tuple #[]) ∧ LeftA Any d S w (st.crash k) w' := by
  obtain ⟨⟨_, _, c2, c3, c4, _⟩, _⟩ := h.cells
  have HA := Lib.hid h
  cases hoff : st.off with
  | true =>
    rw [hoff] at c4
    have HE : Hid (st.crash k = st) := by show _ = _; unfold St.crash; rw [if_pos hoff]
    clear hoff h ok
    go_enter Try.func22, Try.ntmps22
    go_wp2
    refine bodyPost_ret (results_none rfl _ _ _) rfl ?_
    exact ⟨rfl, by rw [HE.out]; exact LeftA.refl trivial HA.out⟩
  | false =>
    rw [hoff] at c4
    have HE : Hid (st.crash k = st.gone k) := by show _ = _; unfold St.crash; rw [if_neg (by rw [hoff]; decide)]
    have hl := St.left_le ok.safe k
    have hfl : st.file.length ≤ 65536 := by have := ok.fits; have := ok.room; omega
    have hn : (st.safe : Int) + min (max k 0) ((st.file.length : Int) - (st.safe : Int)) = ((st.left k : Nat) : Int) := by
      have := ok.safe
      unfold St.left
      omega
    have hll : (st.file.take (st.left k)).length = st.left k := by rw [List.length_take]; omega
    have hfit : ∀ (v : World) (b : Nat) (a : Option Addr) (c : Nat), Src v b a c st.file → Src v b a c (st.file.take (st.left k)) := by
      intro v b a c hs
      rcases hs with h5 | h5
      · exact .inl (fits_left h5 hl.2)
      · exact .inr ⟨by rw [h5.1]; simp, h5.2⟩
    have HFT := Lib.hid hfit
    have HLL := Lib.hid hll
    have HG : Hid (∀ (L : List Nat) (m : Nat), L = st.file.take (st.left k) → m = st.left k → st.gone k = ⟨st.room, L, m, true, 0, st.keep⟩) := by intro L m e1 e2; rw [e1, e2]; rfl
    obtain ⟨m, hm⟩ : ∃ m, m = st.left k := ⟨_, rfl⟩
    obtain ⟨L, hL⟩ : ∃ L, L = st.file.take m := ⟨_, rfl⟩
    have hGG := HG.out L m (by rw [hL, hm]) hm
    rw [← hm, ← hL] at HFT HLL
    rw [← hm] at hn hl
    have HGG := Lib.hid hGG
    have hsafe := ok.safe
    clear hoff h ok hfit hll HG hGG hm hL
    go_enter Try.func22, Try.ntmps22
    go_wp2
    go_quiet (fail)
    obtain ⟨W, hW⟩ : ∃ W, W = w.drewN nq := ⟨_, rfl⟩
    rw [← hW]
    generalize min (max k 0) ((st.file.length : Int) - (st.safe : Int)) = sv at hn ⊢
    have hA := HA.out.heap' hW
    have HK : Hid (Kept None w W) := by rw [hW]; exact (Kept.refl _ _).drewN nq
    obtain ⟨⟨_, _, _, d3, _⟩, _⟩ := hA.cells
    have HA1 := Lib.hid hA
    clear hW hA c2 c3 c4
    have hm0 : (0 : Int) ≤ (m : Int) := by omega
    have hwm : IntKind.i64.wrap (m : Int) = (m : Int) := by unfold IntKind.wrap; simp [IntKind.bits, IntKind.signed]; omega
    go_wp2
    go_region_with ((first
      | (go_at_call 33; refine Calls.mono (file_any _ d S p st (by exact HA1.out.onHeap rfl)) ?_; rintro x w2 ⟨b, a, c, rfl, s2, hcap, hw⟩; have hmc : (m : Int) ≤ (c : Int) := (by omega); have hmc2 : m ≤ c := (by omega); have hk2 : Kept None W w2 := (by obtain ⟨n, e⟩ := hw.out; rw [e]; exact ((Kept.refl _ _).drewN n).heap2 (v := W) rfl rfl rfl rfl); have hA2 := HA1.out.same hk2; obtain ⟨⟨_, _, _, e3, _⟩, _⟩ := hA2.cells; have HA2 := Lib.hid hA2; have HK2 := Lib.hid hk2; have HS2 := Lib.hid (HFT.out _ _ _ _ s2); clear s2 hcap hw hk2 hA2)
      | (go_at_call 35; refine Calls.mono (lay_any _ d S p st (by exact HA2.out.onHeap rfl) b a c L m (by exact HS2.out.heap rfl) (by rw [HLL.out]; omega) HLL.out) ?_; rintro x w3 ⟨rfl, S3, p3, _, h3, k3, n3⟩; have hc := h3.cells; have e4 := hc.1.2.2.2.2.1; have e5 := hc.1.2.2.2.2.2.1; have f4 := hc.2 4; have f5 := hc.2 5; have h4 := h3.armed 0; have h5 := h4.1.offs true; have HL := Lib.hid (LeftA.next (q := Any) ((Kept.ofNone (S := S) (HK.out.trans HK2.out)).trans k3) (fun x hx => (n3 x hx).imp (fun h => h) (fun h => by have := HK.out.size; have := HK2.out.size; omega)) (LeftA.of trivial h5.1 (h4.2.trans h5.2))); clear hc h4 h5 h3 k3 n3)))
    all_goals
      go_wp2
      go_end0
      refine ⟨rfl, ?_⟩
      rw [HE.out, HGG.out, ← HLL.out]
      exact HL.out
end Go.Proofs.Ytaogpchjkbcjoaa.Dk
