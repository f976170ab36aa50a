/- The contracts of layer 4's laws, in the form that the cards ask for. -/
import Derived.Test.YtaogpchjkbcjoaaExact4
import Derived.Test.YtaogpchjkbcjoaaOpenR
namespace Go.Proofs.Ytaogpchjkbcjoaa.Dk
open Go Go.RowKit Mem Kp Pk
theorem all_below {w w' : World} (h : Kept None w w') : Below w.heap.size w w' := h.below (Nat.le_refl _) (fun _ h => h.elim)
theorem i64_bounds {n : Int} (h : (Lit.int .i64 n).wf = true) : -9223372036854775808 ≤ n ∧ n ≤ 9223372036854775807 := by
  have h2 : IntKind.i64.min ≤ n ∧ n ≤ IntKind.i64.max := by simpa [Lit.wf] using h
  exact h2
theorem rows_short {w : World} {a : Option Addr} {cap : Nat} {R : List Row} (h : RowsAt w a cap R) : R.length ≤ 9223372036854775807 ∧ ∀ l ∈ bytesOf R, l.length ≤ 9223372036854775807 := by
  obtain ⟨b, h1, h2⟩ := h
  refine ⟨?_, fun l hl => ?_⟩
  · rcases h1 with h1 | h1
    · have e1 := h1.1; have e2 := h1.2.1
      rw [List.length_map] at e1; omega
    · have e := congrArg List.length h1.1
      rw [List.length_map] at e
      rw [e]; decide
  · obtain ⟨r, hr, rfl⟩ := List.mem_map.1 hl
    exact (h2 r hr).len
theorem rows_b8 {R : List Row} (h : ∀ r ∈ R, B8 r.l) : ∀ l ∈ bytesOf R, B8 l := fun l hl => by
  obtain ⟨r, hr, rfl⟩ := List.mem_map.1 hl
  exact h r hr
theorem DiskExact_law (room : Int) (a : Option Addr) (len cap : Nat) (W : World) (hr : (Lit.int .i64 room).wf = true) (h1 : ActsIn W a len cap) :
    Calls Try.prog 3 #[.int .i64 room, .slice a len cap] W fun e w' => e = .returned (.bool true) ∧ Below W.heap.size W w' := by
  obtain ⟨_, L, rfl, h⟩ := h1
  exact (DiskExact_any room a cap L W h (i64_bounds hr).1 (i64_bounds hr).2).mono fun _ _ ⟨he, hk⟩ => ⟨he, all_below hk⟩
theorem DiskLasts_law (a : Option Addr) (len cap : Nat) (W : World) (h1 : ActsIn W a len cap) :
    Calls Try.prog 4 #[.slice a len cap] W fun e w' => e = .returned (.bool true) ∧ Below W.heap.size W w' := by
  obtain ⟨_, L, rfl, h⟩ := h1
  exact (DiskLasts_any a cap L W h).mono fun _ _ ⟨he, hk⟩ => ⟨he, all_below hk⟩
theorem DiskTorn_law (a : Option Addr) (len cap : Nat) (a2 : Option Addr) (len2 cap2 : Nat) (keep : Int) (W : World) (h1 : BytesIn W a len cap) (h2 : BytesIn W a2 len2 cap2) (hk : (Lit.int .i64 keep).wf = true) :
    Calls Try.prog 5 #[.slice a len cap, .slice a2 len2 cap2, .int .i64 keep] W fun e w' => e = .returned (.bool true) ∧ Below W.heap.size W w' := by
  obtain ⟨b, c, rfl, hs, h8⟩ := h1
  obtain ⟨b2, c2, rfl, hs2, h82⟩ := h2
  exact (DiskTorn_any b a cap c b2 a2 cap2 c2 keep W hs h8 hs2 h82 (i64_bounds hk).1 (i64_bounds hk).2).mono fun _ _ ⟨he, hk⟩ => ⟨he, all_below hk⟩
theorem DiskTrips_law (n keep : Int) (a : Option Addr) (len cap : Nat) (sy : Bool) (W : World) (hn : (Lit.int .i64 n).wf = true) (hk : (Lit.int .i64 keep).wf = true) (h1 : BytesIn W a len cap) :
    Calls Try.prog 6 #[.int .i64 n, .int .i64 keep, .slice a len cap, .bool sy] W fun e w' => e = .returned (.bool true) ∧ Below W.heap.size W w' := by
  obtain ⟨b, c, rfl, hs, h8⟩ := h1
  exact (DiskTrips_any n keep b a cap c sy W hs h8 (i64_bounds hn).1 (i64_bounds hn).2 (i64_bounds hk).1 (i64_bounds hk).2).mono fun _ _ ⟨he, hk⟩ => ⟨he, all_below hk⟩
theorem DiskFull_law (room : Int) (a : Option Addr) (len cap : Nat) (a2 : Option Addr) (len2 cap2 : Nat) (W : World) (hr : (Lit.int .i64 room).wf = true) (h1 : BytesIn W a len cap) (h2 : BytesIn W a2 len2 cap2) :
    Calls Try.prog 7 #[.int .i64 room, .slice a len cap, .slice a2 len2 cap2] W fun e w' => e = .returned (.bool true) ∧ Below W.heap.size W w' := by
  obtain ⟨b, c, rfl, hs, h8⟩ := h1
  obtain ⟨b2, c2, rfl, hs2, h82⟩ := h2
  exact (DiskFull_any room b a cap c b2 a2 cap2 c2 W hs h8 hs2 h82 (i64_bounds hr).1 (i64_bounds hr).2).mono fun _ _ ⟨he, hk⟩ => ⟨he, all_below hk⟩
theorem DiskAgain_law (a : Option Addr) (len cap : Nat) (a2 : Option Addr) (len2 cap2 : Nat) (keep : Int) (W : World) (h1 : BytesIn W a len cap) (h2 : BytesIn W a2 len2 cap2) (hk : (Lit.int .i64 keep).wf = true) :
    Calls Try.prog 8 #[.slice a len cap, .slice a2 len2 cap2, .int .i64 keep] W fun e w' => e = .returned (.bool true) ∧ Below W.heap.size W w' := by
  obtain ⟨b, c, rfl, hs, h8⟩ := h1
  obtain ⟨b2, c2, rfl, hs2, h82⟩ := h2
  exact (DiskAgain_any b a cap c b2 a2 cap2 c2 keep W hs h8 hs2 h82 (i64_bounds hk).1 (i64_bounds hk).2).mono fun _ _ ⟨he, hk⟩ => ⟨he, all_below hk⟩
theorem DiskReads_law (a : Option Addr) (len cap : Nat) (aa : Option Addr) (la ca : Nat) (as_ : Option Addr) (ls cs : Nat) (W : World) (h1 : Kp.RowsIn W a len cap) (h2 : BoolsIn W aa la ca) (h3 : BoolsIn W as_ ls cs) :
    Calls Try.prog 9 #[.slice a len cap, .slice aa la ca, .slice as_ ls cs] W fun e w' => e = .returned (.bool true) ∧ Below W.heap.size W w' := by
  obtain ⟨R, rfl, hr, h8⟩ := h1
  obtain ⟨A, rfl, hA, hAl⟩ := h2
  obtain ⟨S, rfl, hS, hSl⟩ := h3
  exact (DiskReads_any a cap R aa ca A as_ cs S W hr (rows_short hr).1 (rows_short hr).2 (rows_b8 h8) hA hAl hS hSl).mono fun _ _ ⟨he, hk⟩ => ⟨he, all_below hk⟩
end Go.Proofs.Ytaogpchjkbcjoaa.Dk
