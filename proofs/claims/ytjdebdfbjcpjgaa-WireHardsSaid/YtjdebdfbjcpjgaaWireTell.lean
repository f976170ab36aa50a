import Derived.Test.YtjdebdfbjcpjgaaMergeWr27
import Derived.Test.YtjdebdfbjcpjgaaMergeWr38
import Derived.Test.YtjdebdfbjcpjgaaMergeWr39
import Derived.Test.YtjdebdfbjcpjgaaKeepB
import Derived.Test.YtjdebdfbjcpjgaaMergeWr11
/- What was read is written again; the law's wakes. -/
namespace Go.Proofs.Ytjdebdfbjcpjgaa.Wr
open Go Go.RowKit Vl Kv Ss Cn Mem Lg Nm
attribute [local go_sem] Nm.run_bits Nm.run_frombits run_store_float
/-- these bytes, and no error -/
def Fine (l : List Nat) (w : World) (e : Ending) (w' : World) : Prop := ∃ b a cap, e = .returned (.tuple #[.slice a l.length cap, .int .i64 0]) ∧ Mem.Src w' b a cap l ∧ Below w.heap.size w w'
theorem Told.fine {P : Prop} {l : List Nat} {w w' : World} {e : Ending} (h : Told P l w e w') (hP : P) (hl : l.length ≤ 16384) : Fine l w e w' := by
  obtain ⟨hb, h⟩ := h
  rcases h with ⟨_, _, b, a, cap, rfl, ho, _⟩ | ⟨hn, _⟩
  · exact ⟨b, a, cap, rfl, ho.src, hb⟩
  · exact absurd ⟨hP, hl⟩ hn
theorem Only_E {l : List Nat} {x : E} (h8 : B8 l) (hd : cEnt.all l = some x) (w : World) : Calls Try.prog 11 #[x.agg] w (Fine l w) := by
  obtain ⟨e1, o, hl⟩ := all_sound cEnt h8 hd
  rw [e1]
  exact (Entry_told (fitE_of o) w).mono fun e w' h => h.fine o (by rw [← e1]; exact hl)
theorem OwnH.hard {w w' : World} {h : H} {p : Hp} (x : OwnH w w' h p) : HardAt w' h p := ⟨x.snap.src, x.log.list⟩
theorem Only_H {l : List Nat} {h : H} {p : Hp} {w0 w1 w : World} (h8 : B8 l) (hd : cHard.all l = some h) (ho : OwnH w0 w1 h p) (hb : Below w1.heap.size w1 w) : Calls Try.prog 19 #[h.val p] w (Fine l w) := by
  obtain ⟨e1, o, hl⟩ := all_sound cHard h8 hd
  rw [e1]
  exact (Hard_told (ho.hard.on hb) (fitS_of o (by rw [← e1]; exact hl))).mono fun e w' h => h.fine o (by rw [← e1]; exact hl)
theorem OwnM.msg {N : Nat → Prop} {w : World} {x : Mr} {L : List Mr} (h : OwnM N w x L) : MsgAt w x L := by
  obtain ⟨b, h1, _⟩ := h.list
  exact ⟨h.self.flat, h.len, h1.list, fun y hy => (h.all y hy).flat⟩
theorem me_eq {m : Me} {p : Mp} {L : List Mr} (h : L.map Prod.fst = m.inner) : me (m.head, p) L = m := by
  unfold me
  rw [h]
theorem Only_M {l : List Nat} {m : Me} {p : Mp} {L : List Mr} {N : Nat → Prop} {w1 w : World} (h8 : B8 l) (hd : cMsg.all l = some m) (hm : L.map Prod.fst = m.inner) (ho : OwnM N w1 (m.head, p) L) (hb : Below w1.heap.size w1 w) :
    Calls Try.prog 27 #[Mr.val (m.head, p)] w (Fine l w) := by
  obtain ⟨e1, o, hl⟩ := all_sound cMsg h8 hd
  rw [e1]
  rw [← me_eq (p := p) hm] at o ⊢
  exact (Msg_told (ho.msg.on hb) (fitMs_of o ho.len ho.zero)).mono fun e w' h => h.fine ⟨o, ho.zero⟩ (by rw [me_eq (p := p) hm, ← e1]; exact hl)
def e1 : E := ⟨1, 0, Cl.zero, C.zero⟩
theorem e1_fit : FitE e1 := ⟨⟨by decide, by decide⟩, z64, fitCl_zero, fitC_zero⟩
theorem e1_enc : cEnt.enc e1 = [2, 0] := by kernel_rfl
theorem e1_ok : cEnt.ok e1 := (cEnt_ok e1_fit).2 (by kernel_rfl)
theorem E1_any (w : World) : Calls Try.prog 11 #[e1.agg] w (Fine [2, 0] w) := by
  rw [← e1_enc]
  exact (Entry_told e1_fit w).mono fun e w' h => h.fine e1_ok (by rw [e1_enc]; decide)
theorem same_true {l : List Nat} {w : World} {x : Ending} {w' : World} (h : Kp.SameB l l w x w') : x = .returned (.bool true) ∧ Below w.heap.size w w' := by
  obtain ⟨h1, n, rfl⟩ := h
  rw [decide_eq_true rfl] at h1
  exact ⟨h1, Bh.below_drewN (Below.refl _ _) _⟩
set_option maxHeartbeats 1600000 in
set_option maxRecDepth 100000 in
theorem wakes_any (w : World) : Calls Try.prog 17 #[] w fun e w' => e = .returned (.bool true) ∧ Below w.heap.size w w' := by
  have HE := fun w => Lib.hid (E1_any w)
  go_enter Try.func17, Try.ntmps17
  go_wp2_with fail
  refine Calls.mono (HE _).out ?_
  rintro e w1 ⟨b, a, cap, rfl, hs, hb⟩
  have HS := Lib.hid hs
  have HB := Lib.hid hb
  clear hs hb HE
  have HK : Hid (Calls Try.prog 13 #[.slice a 2 cap, .slice (some ⟨w1.heap.size, 0, none⟩) 2 2] (w1.alloc (.cells #[.int .u8 2, .int .u8 0] 5)) fun e w' => e = .returned (.bool true) ∧ Below w.heap.size w w') :=
    (Kp.KBytes_any b a cap [2, 0] w1.heap.size (some ⟨w1.heap.size, 0, none⟩) 2 [2, 0] _ (HS.out.kept (kept_beh (below_alloc _ _)) (fun _ h => h)) (Kp.shows_made (m := [2, 0]) (heap_alloc_new _ _) rfl (Nat.le_refl 2) (by decide)).src (by decide) (by decide)).mono fun e w' hx => ⟨(same_true hx).1, (Kv.Beh.alloc HB.out _).on (same_true hx).2⟩
  go_wp2_with (first | (go_at_call 13; refine Calls.mono HK.out ?_; rintro e w2 ⟨rfl, hb⟩; (have HB := Lib.hid hb); clear hb))
  go_ret
  exact ⟨rfl, HB.out⟩
end Go.Proofs.Ytjdebdfbjcpjgaa.Wr
