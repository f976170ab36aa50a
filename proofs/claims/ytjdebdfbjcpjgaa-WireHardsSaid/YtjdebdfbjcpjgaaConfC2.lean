import Derived.Test.YtjdebdfbjcpjgaaMergeWr9
import Derived.Test.YtjdebdfbjcpjgaaConfC5
/- The keeper's Conf. -/
namespace Go.Proofs.Ytjdebdfbjcpjgaa.Cn
open Go Go.RowKit Bh
attribute [local irreducible] wpQuiet
theorem C.dec (f wt l x f' wt' l' x' : Int) : decide (C.mk f wt l x = C.mk f' wt' l' x') = ((f == f') && (wt == wt') && (l == l') && (x == x')) := by
  rw [Bool.eq_iff_iff]
  simp [C.eq_iff, and_assoc]
set_option maxHeartbeats 800000 in
theorem keepConf_any (a b : C) (w : World) :
    Calls Try.prog 42 #[a.val, b.val] w fun e w' => e = .returned (.bool (decide (a = b))) ∧ Below w.heap.size w w' := by
  obtain ⟨f, wt, l, x⟩ := a
  obtain ⟨f', wt', l', x'⟩ := b
  have HD := Lib.hid (C.dec f wt l x f' wt' l' x')
  generalize decide (C.mk f wt l x = C.mk f' wt' l' x') = Q at *
  cases h1 : f == f'
  · go_enter Try.func42, Try.ntmps42
    go_wp2_with fail
    go_ret
    exact ⟨ret_bool (by rw [HD.out, h1]; simp), below_alloc2 _ _ _⟩
  · cases h2 : wt == wt'
    · go_enter Try.func42, Try.ntmps42
      go_wp2_with fail
      go_ret
      exact ⟨ret_bool (by rw [HD.out, h1, h2]; simp), below_alloc2 _ _ _⟩
    · cases h3 : l == l'
      · go_enter Try.func42, Try.ntmps42
        go_wp2_with fail
        go_ret
        exact ⟨ret_bool (by rw [HD.out, h1, h2, h3]; simp), below_alloc2 _ _ _⟩
      · go_enter Try.func42, Try.ntmps42
        go_wp2_with fail
        go_ret
        exact ⟨ret_bool (by rw [HD.out, h1, h2, h3]; simp), below_alloc2 _ _ _⟩
end Go.Proofs.Ytjdebdfbjcpjgaa.Cn
