import Derived.Test.YtaengjgmchpabaaGreatMergeWr11
import Derived.Test.YtaengjgmchpabaaGreatMergeWr18
/- Cut out of WireW8 so that every seat fills it. -/
namespace Go.Proofs.YtaengjgmchpabaaGreat.Wr
open Go Go.RowKit Vl Kv Ss Cn Mem Lg
theorem cConf_le (c : C) : (cConf.enc c).length ≤ 40 := by
  rw [cConf_enc]
  have a1 := (Pk.intB_len c.f).2
  have a2 := (Pk.intB_len c.w).2
  have a3 := (Pk.intB_len c.l).2
  have a4 := (Pk.intB_len c.x).2
  simp only [List.length_append]
  omega
end Go.Proofs.YtaengjgmchpabaaGreat.Wr
