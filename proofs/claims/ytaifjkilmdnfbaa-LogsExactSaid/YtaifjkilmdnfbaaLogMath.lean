import Derived.Test.YtaifjkilmdnfbaaMergeLgP
import Derived.Test.YtaifjkilmdnfbaaConfC0
/- Plain mathematics of layer 9: entries, logs behind a snapshot, what is put, compacted, installed. No program. -/
namespace Go.Proofs.Ytaifjkilmdnfbaa.Lg
open Go Go.RowKit Vl Kv Ss Cn

/-! ### entries -/
structure E where
  term : Int
  kind : Int
  call : Cl
  conf : C
def E.zero : E := ⟨0, 0, Cl.zero, C.zero⟩
instance : Inhabited E := ⟨E.zero⟩
/-- the same, floats by their bits, all NaN being one -/
def Cm.same (a b : Cm) : Bool := (a.kind == b.kind) && decide (a.key = b.key) && a.old.same b.old && a.val.same b.val
def Cl.same (a b : Cl) : Bool := (a.client == b.client) && (a.seq == b.seq) && Cm.same a.cmd b.cmd
theorem Cm.same_refl (a : Cm) : Cm.same a a = true := by unfold Cm.same; simp [V.same, Nm.same]
theorem Cl.same_refl (a : Cl) : Cl.same a a = true := by unfold Cl.same; simp [Cm.same_refl]
def noCall (c : Cl) : Bool := Cl.same c Cl.zero
/-- a call that is right, as a call -/
def callOk (c : Cl) : Bool := (if mayBe c.client c.seq = true then c.cmd.right else 1) == 0
/-- right, but for its term -/
def E.right (x : E) : Bool :=
  if x.kind = 0 then noCall x.call && decide (x.conf = C.zero)
  else if x.kind = 1 then callOk x.call && decide (x.conf = C.zero)
  else if x.kind = 2 then noCall x.call && x.conf.right
  else false
/-- may entries stand behind a term, in a log of this Term? -/
def rowOk : List E → Int → Int → Bool
  | [], _, _ => true
  | x :: r, ahead, most => decide (max ahead 1 ≤ x.term) && decide (x.term ≤ most) && x.right && rowOk r x.term most

/-! ### logs -/
structure H where
  term : Int
  vote : Int
  base : Int
  bterm : Int
  conf : C
  snap : List Nat
  log : List E
def H.zero : H := ⟨0, 0, 0, 0, C.zero, [], []⟩
def numsOk (h : H) : Bool := decide (0 ≤ h.term) && decide (h.term ≤ 1099511627776) && (decide (-1 ≤ h.vote) && decide (h.vote ≤ 6)) && (decide (0 ≤ h.base) && decide (h.base ≤ 1099511627776)) && (decide (0 ≤ h.bterm) && decide (h.bterm ≤ h.term))
def baseOk (h : H) : Bool := (decide (h.base = 0) == decide (h.bterm = 0)) && (decide (h.base ≠ 0) || decide (h.snap.length = 0)) && (decide (h.snap.length ≤ 16384) && h.conf.right)
def H.right (h : H) : Bool := numsOk h && baseOk h && rowOk h.log h.bterm h.term
def H.check (h : H) : Int := if h.right = true then 0 else 6
def begin_ (c : C) : H := ⟨0, -1, 0, 0, c, [], []⟩
def H.last (h : H) : Int := h.base + h.log.length
def lastT (b : Int) : List E → Int
  | [] => b
  | x :: r => lastT x.term r
def H.lastT (h : H) : Int := Lg.lastT h.bterm h.log
/-- is there an entry of that index? -/
def H.has (h : H) (i : Int) : Bool := decide (h.base < i) && decide (i ≤ h.last)
def H.pos (h : H) (i : Int) : Nat := (i - h.base - 1).toNat
def H.entry (h : H) (i : Int) : E := if h.has i = true then h.log.getD (h.pos i) E.zero else E.zero
def H.termOf (h : H) (i : Int) : Int := if i = h.base then h.bterm else if h.has i = true then (h.log.getD (h.pos i) E.zero).term else -1
def H.from_ (h : H) (i most : Int) : List E := if h.has i = true ∧ 1 ≤ most then (h.log.drop (h.pos i)).take most.toNat else []
/-- the configuration in force up to an index: behind k entries -/
def forceK (h : H) (upto : Int) : Nat → C × Int
  | 0 => (h.conf, h.base)
  | k + 1 => if (h.log.getD k E.zero).kind = 2 ∧ h.base + k + 1 ≤ upto then ((h.log.getD k E.zero).conf, h.base + k + 1) else forceK h upto k
def H.force (h : H) (upto : Int) : C × Int := forceK h upto h.log.length
def H.fits (h : H) (i t : Int) : Bool := (t != -1) && (h.termOf i == t)
def H.newer (h : H) (i t : Int) : Bool := decide (h.lastT < t) || (t == h.lastT) && decide (h.last ≤ i)
/-- how many of l stand there already, by their terms -/
def there : List E → List E → Nat
  | x :: r, y :: s => if y.term = x.term then there r s + 1 else 0
  | _, _ => 0
def putL (L : List E) (n : Nat) (l : List E) : List E :=
  (if there (L.drop n) l < l.length then L.take (n + there (L.drop n) l) else L) ++ l.drop (there (L.drop n) l)
def H.off (h : H) (i : Int) : Nat := (i - h.base).toNat
def H.putOk (h : H) (i : Int) (l : List E) : Int := if h.right = false then 6 else if (h.termOf i == -1) || !rowOk l (h.termOf i) h.term then 1 else 0
def H.put (h : H) (i : Int) (l : List E) : H := if h.putOk i l = 0 then { h with log := putL h.log (h.off i) l } else H.zero
def H.instOk (h : H) (i t : Int) (c : C) (s : List Nat) : Int :=
  if h.right = false then 6 else if !(decide (h.base + 1 ≤ i) && decide (i ≤ 1099511627776)) || !(decide (max h.bterm 1 ≤ t) && decide (t ≤ h.term)) then 1 else if c.right = false then 14 else if 16384 < s.length then 2 else 0
def H.inst (h : H) (i t : Int) (c : C) (s : List Nat) : H :=
  if h.instOk i t c s = 0 then ⟨h.term, h.vote, i, t, c, s, if h.fits i t = true then h.log.drop (h.off i) else []⟩ else H.zero
def H.compOk (h : H) (i : Int) (s : List Nat) : Int := if h.right = false then 6 else if !(h.has i) || decide (1099511627776 < i) then 1 else if 16384 < s.length then 2 else 0
def H.comp (h : H) (i : Int) (s : List Nat) : H :=
  if h.compOk i s = 0 then ⟨h.term, h.vote, i, h.termOf i, (h.force i).1, s, h.log.drop (h.off i)⟩ else H.zero
end Go.Proofs.Ytaifjkilmdnfbaa.Lg
