/- The contracts of layer 3's laws, in the form that the cards ask for. -/
import Derived.Test.YtfbibmdjahfneaaDoorCuts3
import Derived.Test.YtfbibmdjahfneaaDoorTabOf
import Derived.Test.YtfbibmdjahfneaaDoorOpenR
import Derived.Test.YtfbibmdjahfneaaDoorOpenB
namespace Go.Proofs.YtfbibmdjahfneaaDoor.Fr
open Go Go.RowKit Mem Kp Pk
theorem all_below {w w' : World} (h : Kept None w w') : Below w.heap.size w w' := h.below (Nat.le_refl _) (fun _ h => h.elim)
theorem rows_short {w : World} {a : Option Addr} {cap : Nat} {R : List Row} (h : RowsAt w a cap R) : R.length ≤ 9223372036854775807 ∧ ∀ l ∈ bytesOf R, l.length ≤ 9223372036854775807 := by
  obtain ⟨b, h1, h2⟩ := h
  refine ⟨?_, fun l hl => ?_⟩
  · rcases h1 with h1 | h1
    · have e1 := h1.1; have e2 := h1.2.1
      rw [List.length_map] at e1; omega
    · have e := congrArg List.length h1.1
      rw [List.length_map] at e
      rw [e]; decide
  · obtain ⟨r, hr, rfl⟩ := List.mem_map.1 hl
    exact (h2 r hr).len
theorem rows_b8 {R : List Row} (h : ∀ r ∈ R, B8 r.l) : ∀ l ∈ bytesOf R, B8 l := fun l hl => by
  obtain ⟨r, hr, rfl⟩ := List.mem_map.1 hl
  exact h r hr
theorem u8_bounds {n : Int} (h : (Lit.int .u8 n).wf = true) : 0 ≤ n ∧ n ≤ 255 := by
  have h2 : IntKind.u8.min ≤ n ∧ n ≤ IntKind.u8.max := by simpa [Lit.wf] using h
  exact h2
theorem i64_bounds {n : Int} (h : (Lit.int .i64 n).wf = true) : -9223372036854775808 ≤ n ∧ n ≤ 9223372036854775807 := by
  have h2 : IntKind.i64.min ≤ n ∧ n ≤ IntKind.i64.max := by simpa [Lit.wf] using h
  exact h2
theorem FrameBack_law (a : Option Addr) (len cap : Nat) (a2 : Option Addr) (len2 cap2 : Nat) (W : World) (h1 : BytesIn W a len cap) (h2 : BytesIn W a2 len2 cap2) (hL : laidMetH Tryd.prog Rows.frameBackRow.laid W) :
    Calls Tryd.prog 4 #[.slice a len cap, .slice a2 len2 cap2] W fun e w' => e = .returned (.bool true) ∧ Below W.heap.size W w' := by
  obtain ⟨b, c, rfl, hs, h8⟩ := h1
  obtain ⟨b2, c2, rfl, hs2, h82⟩ := h2
  have hL2 : laidMet Tryd.prog Rows.frameBackRow.laid W := hL
  exact (FrameBack_any b a cap c b2 a2 cap2 c2 W hs h8 hs2 h82 hs.len hs2.len (tab_of hL2)).mono fun _ _ ⟨he, hk⟩ => ⟨he, all_below hk⟩
theorem FrameUnlike_law (a : Option Addr) (len cap : Nat) (a2 : Option Addr) (len2 cap2 : Nat) (W : World) (h1 : BytesIn W a len cap) (h2 : BytesIn W a2 len2 cap2) (hL : laidMetH Tryd.prog Rows.frameUnlikeRow.laid W) :
    Calls Tryd.prog 7 #[.slice a len cap, .slice a2 len2 cap2] W fun e w' => e = .returned (.bool true) ∧ Below W.heap.size W w' := by
  obtain ⟨b, c, rfl, hs, h8⟩ := h1
  obtain ⟨b2, c2, rfl, hs2, h82⟩ := h2
  have hL2 : laidMet Tryd.prog Rows.frameUnlikeRow.laid W := hL
  exact (FrameUnlike_any b a cap c b2 a2 cap2 c2 W hs h8 hs2 h82 hs.len hs2.len (tab_of hL2)).mono fun _ _ ⟨he, hk⟩ => ⟨he, all_below hk⟩
theorem FrameExact_law (a : Option Addr) (len cap : Nat) (a2 : Option Addr) (len2 cap2 : Nat) (W : World) (h1 : BytesIn W a len cap) (h2 : BytesIn W a2 len2 cap2) (hL : laidMetH Tryd.prog Rows.frameExactRow.laid W) :
    Calls Tryd.prog 3 #[.slice a len cap, .slice a2 len2 cap2] W fun e w' => e = .returned (.bool true) ∧ Below W.heap.size W w' := by
  obtain ⟨b, c, rfl, hs, h8⟩ := h1
  obtain ⟨b2, c2, rfl, hs2, h82⟩ := h2
  have hL2 : laidMet Tryd.prog Rows.frameExactRow.laid W := hL
  exact (FrameExact_any b a cap c b2 a2 cap2 c2 W hs h8 hs2 h82 hs.len hs2.len (tab_of hL2)).mono fun _ _ ⟨he, hk⟩ => ⟨he, all_below hk⟩
theorem FrameEnds_law (y n : Int) (W : World) (hy : (Lit.int .u8 y).wf = true) (hn : (Lit.int .i64 n).wf = true) (hL : laidMetH Tryd.prog Rows.frameEndsRow.laid W) :
    Calls Tryd.prog 8 #[.int .u8 y, .int .i64 n] W fun e w' => e = .returned (.bool true) ∧ Below W.heap.size W w' := by
  have hL2 : laidMet Tryd.prog Rows.frameEndsRow.laid W := hL
  exact (FrameEnds_any y n W (u8_bounds hy).1 (u8_bounds hy).2 (i64_bounds hn).1 (i64_bounds hn).2 (tab_of hL2)).mono fun _ _ ⟨he, hk⟩ => ⟨he, all_below hk⟩
theorem FrameRows_law (a : Option Addr) (len cap : Nat) (m : Int) (a2 : Option Addr) (len2 cap2 : Nat) (W : World) (h1 : Kp.RowsIn W a len cap) (hm : (Lit.int .u8 m).wf = true) (h2 : BytesIn W a2 len2 cap2) (hL : laidMetH Tryd.prog Rows.frameRowsRow.laid W) :
    Calls Tryd.prog 9 #[.slice a len cap, .int .u8 m, .slice a2 len2 cap2] W fun e w' => e = .returned (.bool true) ∧ Below W.heap.size W w' := by
  obtain ⟨R, rfl, hr, h8⟩ := h1
  obtain ⟨b2, c2, rfl, hs2, h82⟩ := h2
  have hL2 : laidMet Tryd.prog Rows.frameRowsRow.laid W := hL
  exact (FrameRows_any a cap R m b2 a2 cap2 c2 W hr (rows_short hr).1 (rows_short hr).2 (rows_b8 h8) (u8_bounds hm).1 (u8_bounds hm).2 hs2 h82 hs2.len (tab_of hL2)).mono fun _ _ ⟨he, hk⟩ => ⟨he, all_below hk⟩
theorem u32_nat {n : Int} (h : (Lit.int .u32 n).wf = true) : ∃ k : Nat, n = (k : Int) ∧ k < 4294967296 := by
  have h2 : IntKind.u32.min ≤ n ∧ n ≤ IntKind.u32.max := by simpa [Lit.wf] using h
  have h3 : 0 ≤ n ∧ n ≤ 4294967295 := h2
  exact ⟨n.toNat, by omega, by omega⟩
theorem FrameSpoilt_law (a : Option Addr) (len cap : Nat) (AT B SH : Int) (W : World) (h1 : BytesIn W a len cap) (_wa : (Lit.int .i64 AT).wf = true) (wb : (Lit.int .u32 B).wf = true) (_ws : (Lit.int .i64 SH).wf = true) (hL : laidMetH Tryd.prog Rows.frameSpoiltRow.laid W) :
    Calls Tryd.prog 6 #[.slice a len cap, .int .i64 AT, .int .u32 B, .int .i64 SH] W fun e w' => e = .returned (.bool true) ∧ Below W.heap.size W w' := by
  obtain ⟨b, c, rfl, hs, h8⟩ := h1
  obtain ⟨k, rfl, hk⟩ := u32_nat wb
  have hL2 : laidMet Tryd.prog Rows.frameSpoiltRow.laid W := hL
  exact (FrameSpoilt_any b a cap c AT SH k W hs h8 hs.len hk (tab_of hL2)).mono fun _ _ ⟨he, hk⟩ => ⟨he, all_below hk⟩
theorem FrameCuts_law (a : Option Addr) (len cap : Nat) (AT : Int) (W : World) (h1 : Kp.RowsIn W a len cap) (_wa : (Lit.int .i64 AT).wf = true) (hL : laidMetH Tryd.prog Rows.frameCutsRow.laid W) :
    Calls Tryd.prog 5 #[.slice a len cap, .int .i64 AT] W fun e w' => e = .returned (.bool true) ∧ Below W.heap.size W w' := by
  obtain ⟨R, rfl, hr, h8⟩ := h1
  have hL2 : laidMet Tryd.prog Rows.frameCutsRow.laid W := hL
  exact (FrameCuts_any a cap R AT W hr (rows_short hr).1 (rows_short hr).2 (rows_b8 h8) (tab_of hL2)).mono fun _ _ ⟨he, hk⟩ => ⟨he, all_below hk⟩
end Go.Proofs.YtfbibmdjahfneaaDoor.Fr
