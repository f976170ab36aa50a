import Derived.Test.YtjdebdfbjcpjgaaWireTell
import Derived.Test.YtjdebdfbjcpjgaaMergeWr11
/- The law WireOnly. -/
namespace Go.Proofs.Ytjdebdfbjcpjgaa.Wr
open Go Go.RowKit Vl Kv Ss Cn Mem Lg Nm
attribute [local go_sem] Nm.run_bits Nm.run_frombits run_store_float
set_option maxHeartbeats 12800000 in
set_option maxRecDepth 100000 in
theorem WireOnly_law (b : Nat) (a : Option Addr) (cap : Nat) (l : List Nat) (w : World) (hs : Mem.Src w b a cap l) (h8 : B8 l) :
    Calls Try.prog 6 #[.slice a l.length cap] w fun e w' => e = .returned (.bool true) ∧ Below w.heap.size w w' := by
  have HI := Lib.hid hs
  have HB := Lib.hid (Beh.start w)
  have HWK := fun w => Lib.hid (wakes_any w)
  have hlen := hs.len
  cases k1 : decide (32768 < (l.length : Int))
  case true =>
    clear hs HI HWK
    go_enter Try.func6, Try.ntmps6
    go_wp2_with fail
    go_ret
    exact ⟨rfl, HB.out⟩
  have hl : l.length ≤ 32768 := by have := of_decide_eq_false k1; omega
  have HRE : Hid (∀ W, Kv.Beh w W → Calls Try.prog 14 #[.slice a l.length cap] W (REnt l W)) := fun W hW => ReadEntry_any (HI.out.kept (kept_beh hW) (fun _ h => h)) h8 (by omega)
  have HRH : Hid (∀ W, Kv.Beh w W → Calls Try.prog 22 #[.slice a l.length cap] W (RHrd l W)) := fun W hW => ReadHard_any (HI.out.kept (kept_beh hW) (fun _ h => h)) h8 (by omega)
  have HRM : Hid (∀ W, Kv.Beh w W → Calls Try.prog 28 #[.slice a l.length cap] W (RMsg l W)) := fun W hW => ReadMsg_any (HI.out.kept (kept_beh hW) (fun _ h => h)) h8 (by omega)
  clear hs
  go_enter Try.func6, Try.ntmps6
  go_wp2_with fail
  refine Calls.mono (HRE.out _ HB.out) ?_
  rintro e w1 ⟨hb, hx⟩
  have HB := Lib.hid (HB.out.on hb)
  have HX := Lib.hid (Bh.Bx.one w1 E.zero.obj)
  clear hb
  cases hd : cEnt.all l
  focus
    rw [hd] at hx
    obtain rfl := hx
    clear hd
    go_wp2_with (first | (apply Bh.store_bx 16 0 HX.out; rfl; rfl; rfl; rfl; rfl; rfl; kernel_rfl; rfl; rfl; intro wz hz; have HX := Lib.hid hz; clear hz))
    have HB := Lib.hid (HB.out.trans HX.out.beh)
    clear HX
  rotate_left
  focus
    rename_i x
    rw [hd] at hx
    obtain rfl := hx
    have HT : Hid (∀ W, Kv.Beh w1 W → Calls Try.prog 11 #[x.agg] W (Fine l W)) := fun W _ => Only_E h8 hd W
    clear hd
    go_wp2_with (first
      | (apply Bh.store_bx 16 0 HX.out; rfl; rfl; rfl; rfl; rfl; rfl; kernel_rfl; rfl; rfl; intro wz hz; have HX := Lib.hid hz; clear hz)
      | (apply Bh.load_bx 0 HX.out Try.underlying32; rfl; rfl; rfl; rfl; rfl; kernel_rfl)
      | (go_at_call 11; refine Calls.mono (HT.out _ HX.out.beh) ?_; rintro e w2 ⟨b2, a2, c2, rfl, hs2, hb2⟩; (have HB := Lib.hid ((HB.out.trans HX.out.beh).on hb2)); (have HS := Lib.hid hs2); clear hs2 hb2)
      | (go_at_call 13; refine Calls.mono (Kp.KBytes_any b2 a2 c2 l b a cap l _ HS.out (HI.out.kept (kept_beh HB.out) (fun _ h => h)) (by omega) (by omega)) ?_; rintro e w3 hx; (obtain ⟨rfl, hb⟩ := same_true hx); (have HB := Lib.hid (HB.out.on hb)); clear hx hb))
    clear HX HS HT
  all_goals
    refine Calls.mono (HRH.out _ HB.out) ?_
    rintro e w1 ⟨hb, hx⟩
    have HB := Lib.hid (HB.out.on hb)
    have HX := Lib.hid (Bh.Bx.one w1 (H.zero.obj Hp.none))
    clear hb
    cases hd : cHard.all l
    focus
      rw [hd] at hx
      obtain rfl := hx
      clear hd
      go_wp2_with (first | (apply Bh.store_bx 10 0 HX.out; rfl; rfl; rfl; rfl; rfl; rfl; kernel_rfl; rfl; rfl; intro wz hz; have HX := Lib.hid hz; clear hz))
      have HB := Lib.hid (HB.out.trans HX.out.beh)
      clear HX
    rotate_left
    focus
      rename_i x
      rw [hd] at hx
      obtain ⟨p, rfl, ho⟩ := hx
      have HT : Hid (∀ W, Kv.Beh w1 W → Calls Try.prog 19 #[x.val p] W (Fine l W)) := fun W hW => Only_H h8 hd ho hW
      clear ho
      clear hd
      go_wp2_with (first
        | (apply Bh.store_bx 10 0 HX.out; rfl; rfl; rfl; rfl; rfl; rfl; kernel_rfl; rfl; rfl; intro wz hz; have HX := Lib.hid hz; clear hz)
        | (apply Bh.load_bx 0 HX.out Try.underlying48; rfl; rfl; rfl; rfl; rfl; kernel_rfl)
        | (go_at_call 19; refine Calls.mono (HT.out _ HX.out.beh) ?_; rintro e w2 ⟨b2, a2, c2, rfl, hs2, hb2⟩; (have HB := Lib.hid ((HB.out.trans HX.out.beh).on hb2)); (have HS := Lib.hid hs2); clear hs2 hb2)
        | (go_at_call 13; refine Calls.mono (Kp.KBytes_any b2 a2 c2 l b a cap l _ HS.out (HI.out.kept (kept_beh HB.out) (fun _ h => h)) (by omega) (by omega)) ?_; rintro e w3 hx; (obtain ⟨rfl, hb⟩ := same_true hx); (have HB := Lib.hid (HB.out.on hb)); clear hx hb))
      clear HX HS HT
  all_goals
    refine Calls.mono (HRM.out _ HB.out) ?_
    rintro e w1 ⟨hb, hx⟩
    have HB := Lib.hid (HB.out.on hb)
    have HX := Lib.hid (Bh.Bx.one w1 Mr.zero.obj)
    clear hb
    cases hd : cMsg.all l
    focus
      rw [hd] at hx
      obtain rfl := hx
      clear hd
      go_wp2_with (first | (apply Bh.store_bx 16 0 HX.out; rfl; rfl; rfl; rfl; rfl; rfl; kernel_rfl; rfl; rfl; intro wz hz; have HX := Lib.hid hz; clear hz))
      have HB := Lib.hid (HB.out.trans HX.out.beh)
      clear HX
    rotate_left
    focus
      rename_i x
      rw [hd] at hx
      obtain ⟨p, LM, rfl, hm, ho⟩ := hx
      have HT : Hid (∀ W, Kv.Beh w1 W → Calls Try.prog 27 #[Mr.val (x.head, p)] W (Fine l W)) := fun W hW => Only_M h8 hd hm ho hW
      clear ho hm LM
      clear hd
      go_wp2_with (first
        | (apply Bh.store_bx 16 0 HX.out; rfl; rfl; rfl; rfl; rfl; rfl; kernel_rfl; rfl; rfl; intro wz hz; have HX := Lib.hid hz; clear hz)
        | (apply Bh.load_bx 0 HX.out Try.underlying61; rfl; rfl; rfl; rfl; rfl; kernel_rfl)
        | (go_at_call 27; refine Calls.mono (HT.out _ HX.out.beh) ?_; rintro e w2 ⟨b2, a2, c2, rfl, hs2, hb2⟩; (have HB := Lib.hid ((HB.out.trans HX.out.beh).on hb2)); (have HS := Lib.hid hs2); clear hs2 hb2)
        | (go_at_call 13; refine Calls.mono (Kp.KBytes_any b2 a2 c2 l b a cap l _ HS.out (HI.out.kept (kept_beh HB.out) (fun _ h => h)) (by omega) (by omega)) ?_; rintro e w3 hx; (obtain ⟨rfl, hb⟩ := same_true hx); (have HB := Lib.hid (HB.out.on hb)); clear hx hb))
      clear HX HS HT
  all_goals
    refine Calls.mono (HWK _).out ?_
    rintro e w9 ⟨rfl, hb⟩
    have HB := Lib.hid (HB.out.on hb)
    clear hb
    go_wp2_with fail
    go_ret
    exact ⟨rfl, HB.out⟩
end Go.Proofs.Ytjdebdfbjcpjgaa.Wr
