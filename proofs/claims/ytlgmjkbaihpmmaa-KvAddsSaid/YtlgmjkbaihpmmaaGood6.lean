/- Right pairs, to be read. -/
import Derived.Test.YtlgmjkbaihpmmaaDoAll6
import Derived.Test.YtlgmjkbaihpmmaaCmdsAt
import Derived.Test.YtlgmjkbaihpmmaaCmds6
namespace Go.Proofs.Ytlgmjkbaihpmmaa.Kv
open Go Go.RowKit Vl Nm Mem
attribute [local go_sem] run_bits run_frombits run_store_float

set_option maxRecDepth 100000 in
theorem length_right {L : List Pr} (h : rightP L = true) : L.length ≤ 32 := ((rightP_iff L).1 h).1
/-- right pairs, to be read -/
structure Good (w : World) (a : Option Addr) (cap : Nat) (L : List Pr) : Prop where
  at_ : PairsAt w a cap L
  right : rightP L = true
  fits : Fits L
set_option maxRecDepth 100000 in
theorem Good.on {w w' : World} {a : Option Addr} {cap : Nat} {L : List Pr} (h : Good w a cap L) (hb : Beh w w') : Good w' a cap L := ⟨h.at_.below hb, h.right, h.fits⟩
set_option maxRecDepth 100000 in
theorem Good.short {w : World} {a : Option Addr} {cap : Nat} {L : List Pr} (h : Good w a cap L) : L.length ≤ 32 := length_right h.right
set_option maxRecDepth 100000 in
theorem Good.empty (w : World) : Good w none 0 [] := ⟨PairsAt.empty _, by decide, Fits.nil⟩
set_option maxRecDepth 100000 in
theorem Good.doing {w w' : World} {a a' : Option Addr} {cap cap' b' : Nat} {L : List Pr} {c : Cm} (h : Good w a cap L) (hc : c.ok) (hm : Made w w' b' a' cap' (doing L c).L) : Good w' a' cap' (doing L c).L :=
  ⟨hm.pairs, doing_right h.right c, h.fits.doing hc.2⟩
set_option maxRecDepth 100000 in
theorem not_b (b : Bool) (w : World) : (Op.unary .not (.bool b)).run Try.prog w = .ok (.bool (!b)) w := rfl
def cmA : Cm := ⟨5, ⟨#[97]⟩, V.zero, ⟨1, 4611686018427387904, ⟨#[]⟩⟩⟩
set_option maxRecDepth 100000 in
theorem doing_A : doing [] cmA = ⟨[⟨⟨#[97]⟩, ⟨1, 4611686018427387904, ⟨#[]⟩⟩⟩], 0, ⟨1, 4611686018427387904, ⟨#[]⟩⟩⟩ := by
  kernel_rfl
end Go.Proofs.Ytlgmjkbaihpmmaa.Kv
