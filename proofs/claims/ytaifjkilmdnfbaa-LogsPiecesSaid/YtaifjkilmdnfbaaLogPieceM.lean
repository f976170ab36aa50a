/- Plain mathematics of LogsPieces. -/
import Derived.Test.YtaifjkilmdnfbaaLogInstM
namespace Go.Proofs.Ytaifjkilmdnfbaa.Lg
open Go Go.RowKit Vl Kv Ss Cn Mem Li Nm
theorem from_none {h : H} {i m : Int} (x : h.last < i) : h.from_ i m = [] := from_no (has_hi x)
theorem from_base {h : H} {m : Int} : h.from_ h.base m = [] := from_no (has_lo (Int.le_refl _))
/-- some entries, and those behind them -/
theorem from_more {h : H} {i n m : Int} (x : h.base < i) (hm : 0 ≤ m) : h.from_ i n ++ h.from_ (i + ((h.from_ i n).length : Nat)) m = h.from_ i (((h.from_ i n).length : Nat) + m) := by
  have e0 : (h.from_ i n).length = min n.toNat (h.log.drop (h.pos i)).length := by rw [from_told x, List.length_take]
  have e1 : h.from_ i n = (h.log.drop (h.pos i)).take (h.from_ i n).length := by
    rw [e0, from_told x]
    by_cases hc : n.toNat ≤ (h.log.drop (h.pos i)).length
    · rw [Nat.min_eq_left hc]
    · rw [Nat.min_eq_right (by omega), List.take_of_length_le (by omega), List.take_length]
  generalize (h.from_ i n).length = k at *
  have hp : h.pos (i + (k : Int)) = h.pos i + k := by unfold H.pos; omega
  rw [e1, from_told (i := i + (k : Int)) (by omega), from_told (i := i) (most := (k : Int) + m) x, hp, ← List.drop_drop]
  have hk : ((k : Int) + m).toNat = k + m.toNat := by omega
  rw [hk, List.take_add]
theorem from_stop {h : H} {i n m : Int} (x : h.base < i) (y : ((h.from_ i n).length : Int) < n) : h.from_ (i + ((h.from_ i n).length : Nat)) m = [] := by
  rcases from_end (most := n) x with h1 | h1
  · omega
  · exact from_none (by unfold H.last; omega)
end Go.Proofs.Ytaifjkilmdnfbaa.Lg
