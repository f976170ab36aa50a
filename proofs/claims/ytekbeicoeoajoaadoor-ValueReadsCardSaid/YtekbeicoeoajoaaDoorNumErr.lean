/- What the row's list gives of the library's errors; a text that leads back; the keeper's Float. -/
import Derived.Test.YtekbeicoeoajoaaDoorParse
namespace Go.Proofs.YtekbeicoeoajoaaDoor.Nm
open Go Go.RowKit
attribute [local go_sem] run_bits run_frombits

set_option maxHeartbeats 400000 in
theorem Float_same (a : Nat) (w : World) : Calls Tryd.prog 29 #[.float .f64 a, .float .f64 a] w fun e w' => e = .returned (.bool true) ∧ w = w' := by
  cases h : isNaN a
  all_goals
    have h2 : (FloatKind.f64.format.order a a != some .eq) = _ := h
    go_enter Tryd.func29, Tryd.ntmps29
    go_wp2
    go_ret
    exact ⟨rfl, rfl⟩

theorem Parsed.back {x y : Nat} {ok : Bool} (hx : x < 18446744073709551616) (h : Parsed (textF x) y ok) : ok = true ∧ same x y = true := by
  rcases h with ⟨rfl, hy, hl, cy⟩ | ⟨rfl, rfl, hn⟩
  · refine ⟨rfl, ?_⟩
    unfold same
    rw [decide_eq_true_eq]
    exact hexs_inj 16 _ _ (canon_lt hx) (canon_lt hy) hl
  · exact absurd rfl (hn x hx)
theorem textF_size (x : Nat) : (⟨(textF x).toArray⟩ : ByteArray).size = 16 := by
  show (textF x).toArray.size = 16
  rw [List.size_toArray]; exact hexs_length 16 _

/-- what the row's list gives of an error's variable -/
theorem one_err {n nm : String} {text : List UInt8} {r : List (String × DataW Unit)} {W : World} {g : Nat}
    (h : laidMet Tryd.prog ((n, .iface nm (.ptr (.agg [.lit (.string text)]))) :: r) W) (hg : Tryd.prog.globalNamed n = some g) (ht : (Tryd.prog.globals[g]?).map (·.type) = some 65) : OneErr W g := by
  obtain ⟨ps, ⟨g0, t0, cs0, f0, p0, q0, hg0, ht0, hv0, hd0, _, e0⟩, _, _⟩ := h
  obtain rfl := Option.some.inj (hg.symm.trans hg0)
  obtain rfl := Option.some.inj (ht.symm.trans ht0)
  obtain ⟨l0⟩ := cs0
  have hu : Tryd.prog.underlying 65 = _ := Tryd.underlying65
  cases f0 with
  | zero => simp [DataW.trod] at hd0
  | succ f0 =>
    have hc : ∃ v, l0 = [v] ∧ (v = .nilIface ∨ ∃ te pe, v = .iface te pe) := by
      cases l0 with
      | nil => simp [DataW.trod, hu] at hd0
      | cons v r =>
        cases r with
        | nil => cases v <;> first | exact ⟨_, rfl, .inl rfl⟩ | exact ⟨_, rfl, .inr ⟨_, _, rfl⟩⟩ | (simp [DataW.trod, hu] at hd0; done)
        | cons _ _ => cases v <;> (simp [DataW.trod, hu] at hd0; done)
    obtain ⟨v, rfl, hv⟩ := hc
    exact ⟨v, by simpa using World.var?_cell hg0 hv0 0, hv⟩
end Go.Proofs.YtekbeicoeoajoaaDoor.Nm
