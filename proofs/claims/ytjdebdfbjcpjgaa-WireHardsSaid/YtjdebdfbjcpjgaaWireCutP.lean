/- What is told of a strict beginning, and of something more. Plain, and the two readers. -/
import Derived.Test.YtjdebdfbjcpjgaaWireTell
namespace Go.Proofs.Ytjdebdfbjcpjgaa.Wr
open Go Go.RowKit Vl Kv Ss Cn Lg Nm
theorem take_none {α : Type} (A : Cod α) {x : α} (hx : A.ok x) (h8 : Mem.B8 (A.enc x)) {k : Nat} (hk : k < (A.enc x).length) : A.all ((A.enc x).take k) = none := by
  refine all_cut A hx (c := (A.enc x).take k) (d := (A.enc x).drop k) (fun y hy => h8 y (List.mem_of_mem_take hy)) (List.take_append_drop _ _) (fun e => ?_)
  have := congrArg List.length e
  rw [List.length_drop, List.length_nil] at this
  omega
theorem more_none {α : Type} (A : Cod α) {x : α} (hx : A.ok x) (h8 : Mem.B8 (A.enc x)) {m : Nat} (hm : m < 256) : A.all (A.enc x ++ [m]) = none :=
  all_more A hx (Mem.B8.append h8 (fun y hy => by rw [List.mem_singleton] at hy; omega)) (by simp)
/-- no such thing is written in no bytes -/
theorem hard_pos (h : H) : 0 < (cHard.enc h).length := by
  rw [cHard_enc]
  unfold hHead
  simp only [List.length_append]
  have := (Pk.intB_len h.term).1
  omega
theorem msg_pos (m : Me) : 0 < (cMsg.enc m).length := by
  show 0 < ((Pk.intB m.head.kind ++ _) ++ _).length
  rw [List.length_append, List.length_append]
  have := (Pk.intB_len m.head.kind).1
  omega
/-- none: an error, and what stands there then -/
theorem RH_none {l : List Nat} {w : World} {e : Ending} {w' : World} (h : RHrd l w e w') (hn : cHard.all l = none) : e = .returned (.tuple #[H.zero.val Hp.none, .int .i64 3]) ∧ Below w.heap.size w w' := by
  unfold RHrd at h
  rw [hn] at h
  exact ⟨h.2, h.1⟩
theorem RM_none {l : List Nat} {w : World} {e : Ending} {w' : World} (h : RMsg l w e w') (hn : cMsg.all l = none) : e = .returned (.tuple #[Mr.zero.val, .int .i64 3]) ∧ Below w.heap.size w w' := by
  unfold RMsg at h
  rw [hn] at h
  exact ⟨h.2, h.1⟩
theorem H_none {l : List Nat} {b cap : Nat} {a : Option Addr} {w : World} (hs : Mem.Src w b a cap l) (h8 : Mem.B8 l) (hl : l.length ≤ 100000) (hn : cHard.all l = none) :
    Calls Try.prog 22 #[.slice a l.length cap] w fun e w' => e = .returned (.tuple #[H.zero.val Hp.none, .int .i64 3]) ∧ Below w.heap.size w w' :=
  (ReadHard_any hs h8 hl).mono fun _ _ h => RH_none h hn
theorem M_none {l : List Nat} {b cap : Nat} {a : Option Addr} {w : World} (hs : Mem.Src w b a cap l) (h8 : Mem.B8 l) (hl : l.length ≤ 100000) (hn : cMsg.all l = none) :
    Calls Try.prog 28 #[.slice a l.length cap] w fun e w' => e = .returned (.tuple #[Mr.zero.val, .int .i64 3]) ∧ Below w.heap.size w w' :=
  (ReadMsg_any hs h8 hl).mono fun _ _ h => RM_none h hn
end Go.Proofs.Ytjdebdfbjcpjgaa.Wr
