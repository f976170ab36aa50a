/- Right values' texts are one to one. No program. -/
import Derived.Test.YtekbeicoeoajoaaDoorUnhex5
namespace Go.Proofs.YtekbeicoeoajoaaDoor.Vl
open Go Go.RowKit Go.Proofs.YtekbeicoeoajoaaDoor.Nm

theorem hexOf_inj : ∀ s t : List UInt8, hexOf s = hexOf t → s = t
  | [], [], _ => rfl
  | [], _ :: _, h => by simp [hexOf] at h
  | _ :: _, [], h => by simp [hexOf] at h
  | a :: r, b :: u, h => by
    simp only [hexOf, List.cons.injEq] at h
    obtain ⟨h1, h2, h3⟩ := h
    have key : ∀ x y : Nat, x < 16 → y < 16 → UInt8.ofNat (hexd x) = UInt8.ofNat (hexd y) → x = y := fun x y hx hy e => by
      have e2 := congrArg UInt8.toNat e
      have lx := hexd_lt x hx
      have ly := hexd_lt y hy
      rw [UInt8.toNat_ofNat', UInt8.toNat_ofNat', Nat.mod_eq_of_lt (show hexd x < 2 ^ 8 from lx), Nat.mod_eq_of_lt (show hexd y < 2 ^ 8 from ly)] at e2
      have e3 := digB_hexd x hx
      rw [e2, digB_hexd y hy] at e3
      omega
    have la := a.toNat_lt
    have lb := b.toNat_lt
    have q := key _ _ (by omega) (by omega) h1
    have p := key _ _ (by omega) (by omega) h2
    have e : a = b := UInt8.toNat_inj.1 (by omega)
    rw [e, hexOf_inj r u h3]
theorem text_inj {a b : V} (na : a.num < 18446744073709551616) (nb : b.num < 18446744073709551616) (ha : a.check = 0) (hb : b.check = 0) (h : a.textL = b.textL) : a = b := by
  obtain ⟨ka, ta, ea, za, ca⟩ := check_zero ha
  obtain ⟨kb, tb, eb, zb, cb⟩ := check_zero hb
  unfold V.textL at h
  have empty : ∀ {x y : V}, x.text.size = 0 → y.text.size = 0 → x.text = y.text := fun h1 h2 => (empty_of h1).trans (empty_of h2).symm
  rcases ka with k | k | k <;> rcases kb with l | l | l <;> simp [k, l] at h
  · exact V.ext (by omega) (by rw [za (by omega), zb (by omega)]) (empty (ea (by omega)) (eb (by omega)))
  · refine V.ext (by omega) ?_ (empty (ea (by omega)) (eb (by omega)))
    have := hexs_inj 16 _ _ (canon_lt na) (canon_lt nb) h
    rwa [ca, cb] at this
  · refine V.ext (by omega) (by rw [za (by omega), zb (by omega)]) ?_
    have := hexOf_inj _ _ h
    exact (of_list rfl).trans ((congrArg (fun l : List UInt8 => (⟨l.toArray⟩ : ByteArray)) this).trans (of_list rfl).symm)
/-- two readings of one text are one -/
theorem Read.one {s : List UInt8} {v u : V} {a b : Bool} (h : Read s v a) (k : Read s u b) : v = u ∧ a = b := by
  rcases h with ⟨rfl, h1, h2, h3⟩ | ⟨rfl, rfl, h1⟩
  · rcases k with ⟨rfl, k1, k2, k3⟩ | ⟨rfl, rfl, k1⟩
    · exact ⟨text_inj h2.num k2.num h1 k1 (h3.symm.trans k3), rfl⟩
    · exact absurd h3 (k1 v h2 h1)
  · rcases k with ⟨rfl, k1, k2, k3⟩ | ⟨rfl, rfl, k1⟩
    · exact absurd k3 (h1 u k2 k1)
    · exact ⟨rfl, rfl⟩
end Go.Proofs.YtekbeicoeoajoaaDoor.Vl
