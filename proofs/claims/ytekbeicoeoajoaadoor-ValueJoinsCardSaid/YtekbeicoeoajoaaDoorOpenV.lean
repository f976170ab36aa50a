/- A value that is handed in, opened; the laws' small question of size. -/
import Derived.Test.YtekbeicoeoajoaaDoorCode5d
import Derived.WideShapes
import Derived.ChangeArms
import Derived.OpenShut
namespace Go.Proofs.YtekbeicoeoajoaaDoor.Vl
open Go Go.ChangeShapes Go.WideShapes Go.RowKit Go.Proofs.YtekbeicoeoajoaaDoor.Nm
attribute [local go_sem] run_bits run_frombits run_store_float

theorem trod_float1 {H : Type} {enc : TypeId × Value → H} {P : Program} {w : World} {base : Nat} {spare : Nat → Bool} {held : Bool} {n : Nat} {t : TypeId} {v : Value} {x : DataW H × List MemPlace}
    (ht : P.underlying t = some (.float .f64)) (h : DataW.trod enc P w base spare held n t [v] = some x) : ∃ b, v = .float .f64 b ∧ b < 18446744073709551616 := by
  cases n with
  | zero => simp [DataW.trod] at h
  | succ n =>
    cases v <;> simp only [DataW.trod, ht] at h <;> first | (cases h; done) | skip
    rename_i k' b
    split at h
    · rename_i hk
      obtain ⟨rfl, hw⟩ := hk
      exact ⟨b, rfl, by simpa [Lit.wf] using hw⟩
    · cases h
theorem trod_int1 {H : Type} {enc : TypeId × Value → H} {P : Program} {w : World} {base : Nat} {spare : Nat → Bool} {held : Bool} {n : Nat} {t : TypeId} {v : Value} {x : DataW H × List MemPlace}
    (ht : P.underlying t = some (.int .i64)) (h : DataW.trod enc P w base spare held n t [v] = some x) : ∃ q, v = .int .i64 q ∧ -9223372036854775808 ≤ q ∧ q ≤ 9223372036854775807 := by
  obtain ⟨q, hq, _, hw⟩ := DataW.trod_int ht h
  have h2 : IntKind.i64.min ≤ q ∧ q ≤ IntKind.i64.max := by simpa [Lit.wf] using hw
  exact ⟨q, by simpa using hq, h2⟩
/-- what is known of a value that came in -/
structure V.Came (v : V) : Prop where
  lo : -9223372036854775808 ≤ v.kind
  hi : v.kind ≤ 9223372036854775807
  num : v.num < 18446744073709551616
  text : v.text.size ≤ maxLen
theorem V.Came.small {v : V} (h : v.Came) (hs : v.text.size ≤ 2000) : v.In := ⟨h.lo, h.hi, h.num, hs⟩
theorem in_value {H : Type} {enc : TypeId × Value → H} {w w0 : World} {r : Reach} {b0 base : Nat} {spare : Nat → Bool} {held : Bool} {x : Value} {d : DataW H} {ps : List MemPlace}
    (hv : Value.okWide Tryd.prog w0 r b0 24 x) (h : DataW.Trod enc Tryd.prog w base spare held 24 x d ps) : ∃ v : V, x = v.val ∧ v.Came := by
  obtain ⟨cs, rfl, hsz⟩ := okWide_struct Tryd.underlying24 hv
  obtain ⟨fuel, hf⟩ := h
  obtain ⟨ys, n', _, _, hlen, hyl, hat⟩ := DataW.trod_struct Tryd.underlying24 hf
  have hC : Tryd.prog.cellsOf 24 = 3 := by kernel_rfl
  have c3 : Tryd.prog.cellsOf 3 = 1 := by kernel_rfl
  have c30 : Tryd.prog.cellsOf 22 = 1 := by kernel_rfl
  have c9 : Tryd.prog.cellsOf 9 = 1 := by kernel_rfl
  rw [hC] at hsz
  obtain ⟨l⟩ := cs
  match l, hsz, ys, hyl with
  | [v0, v1, v2], _, [y0, y1, y2], _ =>
    have t0 : DataW.trod enc Tryd.prog w base spare held n' 3 (([v0, v1, v2].drop 0).take (Tryd.prog.cellsOf 3)) = some y0 := hat 0 _ rfl
    rw [c3] at t0
    have t1 : DataW.trod enc Tryd.prog w base spare held n' 22 (([v0, v1, v2].drop 1).take (Tryd.prog.cellsOf 22)) = some y1 := hat 1 _ rfl
    rw [c30] at t1
    have t2 : DataW.trod enc Tryd.prog w base spare held n' 9 (([v0, v1, v2].drop 2).take (Tryd.prog.cellsOf 9)) = some y2 := hat 2 _ rfl
    rw [c9] at t2
    obtain ⟨q0, rfl, b0, b1⟩ := trod_int1 Tryd.underlying3 (x := y0) t0
    obtain ⟨q1, rfl, b2⟩ := trod_float1 Tryd.underlying22 (x := y1) t1
    obtain ⟨s, hs, _, b3⟩ := DataW.trod_string Tryd.underlying9 t2
    obtain rfl : v2 = .string s := by simpa using hs
    exact ⟨⟨q0, q1, s⟩, rfl, b0, b1, b2, b3⟩
theorem heavy_any (v : V) (b : Bool) (h : decide (2000 < v.text.size) = b) (w : World) :
    Calls Tryd.prog 8 #[v.val] w fun e w' => e = .returned (.bool b) ∧ ∃ o, w' = w.alloc o := by
  obtain ⟨k, x, s⟩ := v
  have h2 : decide ((2000 : Int) < (s.size : Int)) = b := by rw [← h]; apply decide_eq_decide.2; show _ ↔ 2000 < s.size; omega
  clear h
  go_enter Tryd.func8, Tryd.ntmps8
  go_wp2_with fail
  go_ret
  exact ⟨rfl, _, rfl⟩
end Go.Proofs.YtekbeicoeoajoaaDoor.Vl
