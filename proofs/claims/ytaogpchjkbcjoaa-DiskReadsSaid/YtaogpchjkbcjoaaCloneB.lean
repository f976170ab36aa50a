/- The walk of bytes.Clone, for stages behind pack. -/
import Derived.Test.YtaogpchjkbcjoaaKeepB
namespace Go.Proofs.Ytaogpchjkbcjoaa.Kp
open Go Go.RowKit Mem
attribute [local go_sem] eq_nil
set_option maxHeartbeats 400000 in
theorem Clone_any (b : Nat) (a : Option Addr) (cap : Nat) (l : List Nat) (w : World) (h : Src w b a cap l) (hl : l.length ≤ 35184372088832) :
    Calls Try.prog 32 #[.slice a l.length cap] w (NewB l w) := by
  obtain ⟨i0, hi, hz0, hz1, hz2⟩ := info_parts infoU8
  have HS := Lib.hid h
  cases a with
  | none =>
    obtain ⟨rfl, rfl⟩ := h.bare
    clear h
    go_enter Try.func32, Try.ntmps32
    go_wp2
    go_ret
    exact ⟨w.heap.size, none, 0, rfl, .inl ⟨rfl, rfl, rfl⟩, Nat.le_refl _, Kept.refl _ _, Nat.le_refl _⟩
  | some ad =>
    have own0 : OwnB 5 (w.alloc (.cells #[] 5)) w.heap.size (some ⟨w.heap.size, 0, none⟩) 0 [] := own_new (Nat.le_refl _) (by decide) rfl rfl
    clear h
    go_enter Try.func32, Try.ntmps32
    go_wp2_with (at_builtin; refine wpList_append_bytes rfl _ _ 30 rfl 5 i0 Try.underlying30 hi hz0 hz1 hz2 _ _ _ [] 0 rfl own0 rfl b _ cap l _ rfl (HS.out.kept ((Kept.refl None _).alloc _) (fun _ h => h)) rfl (by omega) ?_)
    intro b' a' cap' w' h2 h3 h4 h5
    try simp only [List.nil_append] at h2
    have HO := Lib.hid h2
    clear h2
    go_wp2
    go_ret
    have k0 : Kept None w (w.alloc (.cells #[] 5)) := (Kept.refl _ _).alloc _
    have hsz : (w.alloc (.cells #[] 5)).heap.size = w.heap.size + 1 := by simp
    have k1 : Kept None w w' := k0.trans' h3 (fun k hk => .inr (by rw [hk.2]; exact Nat.le_refl _))
    have hb' : w.heap.size ≤ b' := by rcases h4 with ⟨rfl, _⟩ | h4 <;> omega
    refine ⟨b', a', cap', rfl, HO.out, hb', k1, ?_⟩
    by_cases ha : a' = none
    · rcases h4 with ⟨rfl, _⟩ | h4
      · exact k1.size
      · exact (h5 ha).elim
    · exact Nat.le_of_lt (HO.out.lt ha)
/-- append of bytes in a region that draws its order, guarded or not -/
theorem step_append_bytes_g {P : Program} {w : World} {ops : Array Oper} {o : Oper} {a : Act} {K : Act → World → Prop} {Q : Exit → Act → World → Prop} {E : Prop} (hw : Region.wanted o (yielded ops a.tmps) = true) (s x : Operand) (t : TypeId)
    (ho : o.op = .call { callee := .builtin .append, args := #[s, x], argTypes := #[t, t] })
    (e : TypeId) (i : TypeInfo) (ht : P.underlying t = some (.slice e)) (hi : P.info? e = some i) (hz : i.zero = some (.int .u8 0)) (hsize : i.size = 1) (hby : i.bytes = 1)
    (b : Nat) (ao : Option Addr) (cap : Nat) (l : List Nat) (n : Nat) (hs : a.eval s = .slice ao n cap) (own : OwnB e w b ao cap l) (hn : l.length = n)
    (b2 : Nat) (a2 : Option Addr) (cap2 : Nat) (m : List Nat) (n2 : Nat) (hx : a.eval x = .slice a2 n2 cap2) (hsh : Src w b2 a2 cap2 m) (hn2 : m.length = n2) (hle : n + n2 ≤ 70368744177664)
    (h : ∀ b' a' cap' w', OwnB e w' b' a' cap' (l ++ m) → Kept (Of ao b) w w' → ((b' = b ∧ (a' = none ∨ ao ≠ none)) ∨ w.heap.size ≤ b') → K (a.put o.dst (.slice a' (n + n2) cap')) w') :
    if Region.wanted o (yielded ops a.tmps) = true then Oper.wp P o a w K Q else E := by
  rw [if_pos hw]
  refine wp_append_bytes s x t ho e i ht hi hz hsize hby b ao cap l n hs own hn b2 a2 cap2 m n2 hx hsh hn2 hle fun b' a' cap' w' h2 h3 h4 _ => ?_
  rw [List.length_append, hn, hn2]
  exact h b' a' cap' w' h2 h3 h4
end Go.Proofs.Ytaogpchjkbcjoaa.Kp
