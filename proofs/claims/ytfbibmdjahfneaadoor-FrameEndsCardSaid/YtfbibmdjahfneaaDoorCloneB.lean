/- The walk of bytes.Clone, for stages behind pack. -/
import Derived.Test.YtfbibmdjahfneaaDoorKeepB
namespace Go.Proofs.YtfbibmdjahfneaaDoor.Kp
open Go Go.RowKit Mem
attribute [local go_sem] eq_nil
set_option maxHeartbeats 400000 in
theorem Clone_any (b : Nat) (a : Option Addr) (cap : Nat) (l : List Nat) (w : World) (h : Src w b a cap l) (hl : l.length ≤ 35184372088832) :
    Calls Tryd.prog 28 #[.slice a l.length cap] w (NewB l w) := by
  obtain ⟨i0, hi, hz0, hz1, hz2⟩ := info_parts infoU8
  have HS := Lib.hid h
  cases a with
  | none =>
    obtain ⟨rfl, rfl⟩ := h.bare
    clear h
    go_enter Tryd.func28, Tryd.ntmps28
    go_wp2
    go_ret
    exact ⟨w.heap.size, none, 0, rfl, .inl ⟨rfl, rfl, rfl⟩, Nat.le_refl _, Kept.refl _ _, Nat.le_refl _⟩
  | some ad =>
    have own0 : OwnB 5 (w.alloc (.cells #[] 5)) w.heap.size (some ⟨w.heap.size, 0, none⟩) 0 [] := own_new (Nat.le_refl _) (by decide) rfl rfl
    clear h
    go_enter Tryd.func28, Tryd.ntmps28
    go_wp2_with (at_builtin; refine wpList_append_bytes rfl _ _ 22 rfl 5 i0 Tryd.underlying22 hi hz0 hz1 hz2 _ _ _ [] 0 rfl own0 rfl b _ cap l _ rfl (HS.out.kept ((Kept.refl None _).alloc _) (fun _ h => h)) rfl (by omega) ?_)
    intro b' a' cap' w' h2 h3 h4 h5
    try simp only [List.nil_append] at h2
    have HO := Lib.hid h2
    clear h2
    go_wp2
    go_ret
    have k0 : Kept None w (w.alloc (.cells #[] 5)) := (Kept.refl _ _).alloc _
    have hsz : (w.alloc (.cells #[] 5)).heap.size = w.heap.size + 1 := by simp
    have k1 : Kept None w w' := k0.trans' h3 (fun k hk => .inr (by rw [hk.2]; exact Nat.le_refl _))
    have hb' : w.heap.size ≤ b' := by rcases h4 with ⟨rfl, _⟩ | h4 <;> omega
    refine ⟨b', a', cap', rfl, HO.out, hb', k1, ?_⟩
    by_cases ha : a' = none
    · rcases h4 with ⟨rfl, _⟩ | h4
      · exact k1.size
      · exact (h5 ha).elim
    · exact Nat.le_of_lt (HO.out.lt ha)
end Go.Proofs.YtfbibmdjahfneaaDoor.Kp
