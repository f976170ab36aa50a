/- Plain mathematics: what is added to a key, or held against what it has. No program's function. -/
import Derived.Test.YtlgmjkbaihpmmaaPutM6
namespace Go.Proofs.Ytlgmjkbaihpmmaa.Kv
open Go Go.RowKit Vl Nm

def fOf (add : Bool) : Nat → Nat → Nat := if add = true then sumC else maxF
def kOf (add : Bool) : Int := if add = true then 5 else 6
/-- what the key has behind it -/
def nextOf (add : Bool) (g v : V) : V := if g.kind = 0 then v else (joined (fOf add) g v).1
theorem act_add (add : Bool) (g : V) (key : ByteArray) (v : V) : act g ⟨kOf add, key, V.zero, v⟩ = ⟨(joined (fOf add) g v).1, (joined (fOf add) g v).2, (joined (fOf add) g v).1⟩ := by
  cases add <;> rfl
theorem right_add {add : Bool} {key : ByteArray} {v : V} (hv : v.check = 0) (h1 : v.kind = 1) (h0 : key.size ≠ 0) : (Cm.mk (kOf add) key V.zero v).right ≠ 8 := by
  have hz := zero_check
  have hvals : (Cm.mk (kOf add) key V.zero v).vals = true := by
    unfold Cm.vals
    cases add <;> simp [kOf, hv, h1, hz]
  unfold Cm.right
  rw [hvals]
  cases add <;> simp [kOf, h0] <;> split <;> omega
structure AddDone (G : List Pr) (key : ByteArray) (add : Bool) (v : V) (Q : Done) : Prop where
  told : Q.told = nextOf add (get G key) v
  got : get Q.L key = nextOf add (get G key) v
  right : rightP Q.L = true
theorem joined_next {f : Nat → Nat → Nat} {g v : V} (hg : g.check = 0) (hv : v.check = 0) : (joined f g v).1 = if g.kind = 0 then v else (joined f g v).1 := by
  split
  · rename_i h
    unfold joined
    rw [if_neg (by omega), if_neg (by omega), if_pos h]
  · rfl
theorem add_done {G : List Pr} {key : ByteArray} {add : Bool} {v : V} (h : (doing G ⟨kOf add, key, V.zero, v⟩).code = 0) : AddDone G key add v (doing G ⟨kOf add, key, V.zero, v⟩) := by
  obtain ⟨hr, hp, _, hl, e⟩ := done_of h
  obtain ⟨_, _, k0, k8, hv⟩ := right_zero hr
  have hv := (vals_true hv).2.1
  have hs := ((rightP_iff G).1 hp).2
  have hg := hs.get_check key
  have hR := doing_right hp ⟨kOf add, key, V.zero, v⟩
  have hk : (Cm.mk (kOf add) key V.zero v).key = key := rfl
  have en : nextOf add (get G key) v = (joined (fOf add) (get G key) v).1 := (joined_next hg hv).symm
  refine ⟨?_, ?_, hR⟩
  · rw [e, en]
    show (act (get G key) _).told = _
    rw [act_add]
  · rw [e, en]
    show get (set G key (act (get G key) ⟨kOf add, key, V.zero, v⟩).next) key = _
    rw [get_set_same _ _ _ (act_check hg hv), act_add]
theorem add_not {G : List Pr} {key : ByteArray} {add : Bool} {v : V} (hG : rightP G = true) (hv : v.check = 0) (h1 : v.kind = 1) (h0 : key.size ≠ 0) (h2 : (get G key).kind ≠ 2) : (doing G ⟨kOf add, key, V.zero, v⟩).code ≠ 8 := by
  have hs := ((rightP_iff G).1 hG).2
  have hg := hs.get_check key
  unfold doing
  split
  · exact right_add hv h1 h0
  · split
    · intro e; cases e
    · unfold put
      split
      · show (act (get G key) ⟨kOf add, key, V.zero, v⟩).code ≠ 8
        rw [act_add]
        show (joined (fOf add) (get G key) v).2 ≠ 8
        unfold joined
        rw [if_neg (by omega), if_neg (by omega)]
        split
        · intro e; cases e
        · rename_i hk
          have := (check_zero hg).1
          rw [if_neg (by omega)]
          intro e; cases e
      · split <;> (intro e; cases e)
end Go.Proofs.Ytlgmjkbaihpmmaa.Kv
