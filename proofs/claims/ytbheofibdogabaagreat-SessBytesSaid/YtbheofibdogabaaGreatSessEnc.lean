/- The landed Encode. -/
import Derived.Test.YtbheofibdogabaaGreatSessChk
namespace Go.Proofs.YtbheofibdogabaaGreat.Ss
open Go Go.RowKit Vl Kv Mem Nm
attribute [local go_sem] run_bits run_frombits run_store_float

/-- what Encode tells -/
def EncTold (w : World) (m : Ma) (e : Ending) (w' : World) : Prop :=
  (rightM m = true → ∃ b a cap, e = .returned (.tuple #[.slice a (encM m).length cap, .int .i64 0]) ∧ OwnB 5 w' b a cap (encM m) ∧ w.heap.size ≤ b) ∧
  (rightM m = false → e = .returned (.tuple #[.slice none 0 0, .int .i64 6])) ∧ Beh w w'
theorem takeB_len {α : Type} {f : α → List Nat} {n : Nat} {L : List α} (h : ∀ a ∈ L, (f a).length ≤ n) (k : Nat) : ((L.take k).flatMap f).length ≤ L.length * n := by
  have h1 := flat_len (f := f) (n := n) (L := L.take k) (fun a ha => h a (List.mem_of_mem_take ha))
  have h2 : (L.take k).length * n ≤ L.length * n := Nat.mul_le_mul_right _ (by rw [List.length_take]; omega)
  omega
theorem take_flat {α : Type} [Inhabited α] {f : α → List Nat} {L : List α} {k : Nat} {z : α} (h : k < L.length) : (L.take (k + 1)).flatMap f = (L.take k).flatMap f ++ f (L.getD k z) := by
  rw [List.take_succ_eq_append_getElem h, List.flatMap_append]
  simp [h]
set_option maxHeartbeats 3200000 in
set_option maxRecDepth 100000 in
theorem Encode_bad (s : Ms) (m : Ma) (w : World) (h : MaAt w s m) (hr : rightM m = false) :
    Calls Tryz.prog 7 #[s.agg m] w fun e w' => e = .returned (.tuple #[.slice none 0 0, .int .i64 6]) ∧ Beh w w' := by
  have HM0 := Lib.hid (alloc_here (w := w) (s.obj m) rfl)
  have HB0 := Lib.hid ((Beh.start w).alloc (s.obj m))
  have HCK : Hid (∀ wq, Beh w wq → Calls Tryz.prog 19 #[s.agg m] wq fun e w' => e = .returned (.int .i64 6) ∧ Beh wq w') := fun wq hq => by
    have := SCheck_any s m wq (h.on hq)
    rw [hr] at this
    exact this
  clear h hr
  obtain ⟨L, S⟩ := m
  obtain ⟨a, cap, a2, cap2⟩ := s
  unfold Ms.obj at HM0 HB0
  dsimp only at HM0 HB0
  go_enter Tryz.func7, Tryz.ntmps7
  go_wp2_with fail
  refine Calls.mono (HCK.out _ HB0.out) ?_
  rintro e w1 ⟨rfl, hb⟩
  have HB1 := Lib.hid (HB0.out.on hb)
  clear hb
  go_wp2_with fail
  go_ret2
  exact ⟨rfl, HB1.out⟩
set_option maxHeartbeats 3200000 in
set_option maxRecDepth 100000 in
theorem Encode_right (s : Ms) (m : Ma) (w : World) (h : MaAt w s m) (hr : RightM m) :
    Calls Tryz.prog 7 #[s.agg m] w fun e w' => ∃ b a cap, e = .returned (.tuple #[.slice a (encM m).length cap, .int .i64 0]) ∧ OwnB 5 w' b a cap (encM m) ∧ w.heap.size ≤ b ∧ Beh w w' := by
  have HM0 := Lib.hid (alloc_here (w := w) (s.obj m) rfl)
  have HB0 := Lib.hid ((Beh.start w).alloc (s.obj m))
  have HCK : Hid (∀ wq, Beh w wq → Calls Tryz.prog 19 #[s.agg m] wq fun e w' => e = .returned (.int .i64 0) ∧ Beh wq w') := fun wq hq => by
    have := SCheck_any s m wq (h.on hq)
    rw [if_pos (rightM_iff.2 hr)] at this
    exact this
  have HE := Lib.hid (show encM m = Pk.intB m.pairs.length ++ (m.pairs.flatMap prB ++ (Pk.intB m.sess.length ++ m.sess.flatMap seB)) from rfl)
  have hnp := hr.np
  have hns := hr.ns
  have HPR := Lib.hid hr.pr
  have HSE := Lib.hid hr.se
  have hall := hr.len
  clear hr
  have hi1 := Lib.hid (Pk.intB_len (m.pairs.length : Int)).2
  have hi2 := Lib.hid (Pk.intB_len (m.sess.length : Int)).2
  obtain ⟨L, S⟩ := m
  obtain ⟨a, cap, a2, cap2⟩ := s
  have HPS := Lib.hid h.pairs
  have HSS := Lib.hid h.sess
  clear h
  unfold Ms.obj at HM0 HB0
  dsimp only at HM0 HB0 HPS HSS HE hnp hns HPR HSE hi1 hi2
  generalize encM ⟨L, S⟩ = E at *
  have HL1 : Hid (∀ k, (Pk.intB (L.length : Int) ++ (L.take k).flatMap prB).length ≤ 3000) := fun k => by
    rw [List.length_append]
    have h1 := hi1.out
    have h2 := takeB_len (f := prB) (n := 70) (L := L) (fun p hp => prB_len (HPR.out p hp)) k
    omega
  have HL2 : Hid (∀ k, (Pk.intB (L.length : Int) ++ L.flatMap prB ++ Pk.intB (S.length : Int) ++ (S.take k).flatMap seB).length ≤ 4000) := fun k => by
    simp only [List.length_append]
    have h1 := hi1.out
    have h2 := flat_len (f := prB) (n := 70) (L := L) (fun p hp => prB_len (HPR.out p hp))
    have h3 := takeB_len (f := seB) (n := 82) (L := S) (fun p hp => seB_len (HSE.out p hp)) k
    have h4 := hi2.out
    omega
  have kc := fun (w : World) (s : ByteArray) => run_bl w s
  go_enter Tryz.func7, Tryz.ntmps7
  go_wp2_with fail
  refine Calls.mono (HCK.out _ HB0.out) ?_
  rintro e w1 ⟨rfl, hb⟩
  have HM1 := Lib.hid (box_on HM0.out hb)
  have HB1 := Lib.hid (HB0.out.on hb)
  clear hb HM0 HB0
  have HX := Lib.hid (OwnX.new HB1.out (F := [(w.heap.size, .cells #[.slice a L.length cap, .slice a2 S.length cap2] 25)]) (fun x hx => by rw [List.mem_singleton] at hx; subst hx; exact HM1.out))
  obtain ⟨m0, m1⟩ := cells2 HM1.out
  have m0a := fun o => cellOn ((Beh.start _).alloc o) m0
  have m1a := fun o => cellOn ((Beh.start _).alloc o) m1
  go_wp2_with fail
  refine (wInt (n := (L.length : Int)) HX.out (by omega) (by omega) (by simp)).mono ?_
  rintro x w2 ⟨rfl, hx⟩
  rw [List.nil_append] at hx
  have HX := Lib.hid hx
  clear hx m0 m1 m0a m1a
  obtain ⟨m0, m1⟩ := cells2 (HX.out.get (List.mem_singleton.2 rfl))
  go_wp2_with fail
  clear m0 m1
  generalize w1.heap.size = bw at *
  go_loopw [7, 22] (fun _ i wr => ∃ k : Nat, k ≤ L.length ∧ i = .int .i64 k ∧ Hid (OwnX w wr bw (Pk.intB (L.length : Int) ++ (L.take k).flatMap prB) [(w.heap.size, .cells #[.slice a L.length cap, .slice a2 S.length cap2] 25)])) (fun _ i _ => L.length - (intOf i).toNat)
  case atStart => exact ⟨0, by omega, rfl, by show OwnX _ _ _ _ _; simpa using HX.out⟩
  case round =>
    clear HX
    obtain ⟨k, hk, rfl, HX⟩ := hrel
    by_cases hlt : k < L.length
    · obtain ⟨b, off, rfl, hc⟩ := (HPS.out.below HX.out.beh).at_ (by omega)
      obtain ⟨c0, c1, c2, c3⟩ := hc k hlt
      clear hc
      have HT := Lib.hid (take_flat (f := prB) (z := Pr.zero) hlt)
      have HPk := Lib.hid (HPR.out _ (getD_mem hlt))
      generalize L.getD k Pr.zero = p at *
      have hk8 := Lib.hid (Pr.right_iff.1 HPk.out)
      have HB8 := Lib.hid (show prB p = Pk.textB (bl p.key) ++ valB p.val from rfl)
      have HXM := Lib.hid (HX.out.more p.obj)
      obtain ⟨key, ⟨vk, vn, vs⟩⟩ := p
      unfold Pr.obj at HXM
      dsimp only at hk8 HB8 HXM
      have HGP : Hid (∀ {w' : World} {m : List Nat}, OwnX w w' bw m ((wr.heap.size, .cells #[.string key, .int .i64 vk, .float .f64 vn, .string vs] 61) :: [(w.heap.size, .cells #[.slice (some ⟨b, off, none⟩) L.length cap, .slice a2 S.length cap2] 25)]) → w'.heap[wr.heap.size]? = some (.cells #[.string key, .int .i64 vk, .float .f64 vn, .string vs] 61)) := fun h => h.get (List.mem_cons_self ..)
      go_wp2_with fail
      refine (wTextAt HXM.out key (by have := hk8.out.2.1; omega) (by have := HL1.out k; omega) (by rfl) (by simp) (by rfl)).mono ?_
      rintro x w3 ⟨rfl, hx⟩
      have HX3 := Lib.hid hx
      obtain ⟨d0, d1, d2, d3⟩ := cells4 (HGP.out hx)
      clear hx c0 c1 c2 c3
      go_wp2_with fail
      refine (writeValue_any HX3.out ⟨vk, vn, vs⟩ hk8.out.2.2.2 (by rw [List.length_append]; have := HL1.out k; have := textB_len (bl key); rw [bl_length] at this; have := hk8.out.2.1; omega)).mono ?_
      rintro x w4 ⟨rfl, hx⟩
      have HX4 := Lib.hid (hx.less (G := [(w.heap.size, .cells #[.slice (some ⟨b, off, none⟩) L.length cap, .slice a2 S.length cap2] 25)]) (fun x hx => List.mem_cons_of_mem _ hx))
      clear hx d0 d1 d2 d3
      go_wp2_with fail
      go_roundw
      case rel => exact ⟨k + 1, by omega, by go_num, by
        show OwnX _ _ _ _ _
        rw [HT.out, HB8.out]
        simpa [List.append_assoc] using HX4.out⟩
      case measure => simp [intOf]; omega
    · obtain rfl : k = L.length := by omega
      have HX0 := HX.out
      rw [List.take_length] at HX0
      have HX := Lib.hid HX0
      clear HX0
      have hlen0 := Lib.hid (HL1.out L.length)
      rw [List.take_length] at hlen0
      obtain ⟨m0, m1⟩ := cells2 (HX.out.get (List.mem_singleton.2 rfl))
      go_wp2_with fail
      refine (wInt (n := (S.length : Int)) HX.out (by omega) (by omega) (by have := hlen0.out; omega)).mono ?_
      rintro x w3 ⟨rfl, hx⟩
      have HX := Lib.hid hx
      clear hx m0 m1
      obtain ⟨m0, m1⟩ := cells2 (HX.out.get (List.mem_singleton.2 rfl))
      go_wp2_with fail
      clear m0 m1
      go_loopw [9, 41] (fun _ i wr => ∃ k : Nat, k ≤ S.length ∧ i = .int .i64 k ∧ Hid (OwnX w wr bw (Pk.intB (L.length : Int) ++ L.flatMap prB ++ Pk.intB (S.length : Int) ++ (S.take k).flatMap seB) [(w.heap.size, .cells #[.slice a L.length cap, .slice a2 S.length cap2] 25)])) (fun _ i _ => S.length - (intOf i).toNat)
      case atStart => exact ⟨0, by omega, rfl, by show OwnX _ _ _ _ _; simpa using HX.out⟩
      case round =>
        clear HX
        obtain ⟨k, hk, rfl, HX⟩ := hrel
        by_cases hlt : k < S.length
        · obtain ⟨b, off, rfl, hc⟩ := (HSS.out.below HX.out.beh).at_ (by omega)
          obtain ⟨c0, c1, c2, c3, c4, c5⟩ := hc k hlt
          clear hc
          have HT := Lib.hid (take_flat (f := seB) (z := Se.zero) hlt)
          have HPk := Lib.hid (HSE.out _ (getD_memS hlt))
          generalize S.getD k Se.zero = p at *
          have hk8 := Lib.hid (Se.right_iff.1 HPk.out)
          have HB8 := Lib.hid (show seB p = Pk.intB p.client ++ (Pk.intB p.seq ++ (Pk.intB p.code ++ valB p.val)) from rfl)
          have HXM := Lib.hid (HX.out.more p.obj)
          have hlk := Lib.hid (HL2.out k)
          obtain ⟨pc, ps, pd, ⟨vk, vn, vs⟩⟩ := p
          unfold Se.obj at HXM
          dsimp only at hk8 HB8 HXM
          have j1 := Lib.hid (Pk.intB_len pc).2
          have j2 := Lib.hid (Pk.intB_len ps).2
          have j3 := Lib.hid (Pk.intB_len pd).2
          generalize hpre : Pk.intB (L.length : Int) ++ L.flatMap prB ++ Pk.intB (S.length : Int) ++ (S.take k).flatMap seB = pre at HX HXM hlk
          have HPRE := Lib.hid hpre
          clear hpre
          have HGP : Hid (∀ {w' : World} {m : List Nat}, OwnX w w' bw m ((wr.heap.size, .cells #[.int .i64 pc, .int .i64 ps, .int .i64 pd, .int .i64 vk, .float .f64 vn, .string vs] 54) :: [(w.heap.size, .cells #[.slice a L.length cap, .slice (some ⟨b, off, none⟩) S.length cap2] 25)]) → w'.heap[wr.heap.size]? = some (.cells #[.int .i64 pc, .int .i64 ps, .int .i64 pd, .int .i64 vk, .float .f64 vn, .string vs] 54)) := fun h => h.get (List.mem_cons_self ..)
          go_wp2_with fail
          refine (wInt (n := pc) HXM.out (by have := hk8.out; omega) (by have := hk8.out; omega) (by have := hlk.out; omega)).mono ?_
          rintro x w4 ⟨rfl, hx⟩
          have HX4 := Lib.hid hx
          obtain ⟨d0, d1, d2, d3, d4, d5⟩ := cells6 (HGP.out hx)
          clear hx c0 c1 c2 c3 c4 c5
          go_wp2_with fail
          refine (wInt (n := ps) HX4.out (by have := hk8.out; omega) (by have := hk8.out; omega) (by rw [List.length_append]; have := hlk.out; have := j1.out; omega)).mono ?_
          rintro x w5 ⟨rfl, hx⟩
          have HX5 := Lib.hid hx
          clear d0 d1 d2 d3 d4 d5
          obtain ⟨d0, d1, d2, d3, d4, d5⟩ := cells6 (HGP.out hx)
          clear hx
          go_wp2_with fail
          refine (wInt (n := pd) HX5.out (by have := hk8.out; omega) (by have := hk8.out; omega) (by simp only [List.length_append]; have := hlk.out; have := j1.out; have := j2.out; omega)).mono ?_
          rintro x w6 ⟨rfl, hx⟩
          have HX6 := Lib.hid hx
          clear d0 d1 d2 d3 d4 d5
          obtain ⟨d0, d1, d2, d3, d4, d5⟩ := cells6 (HGP.out hx)
          clear hx
          go_wp2_with fail
          refine (writeValue_any HX6.out ⟨vk, vn, vs⟩ hk8.out.2.2.2 (by simp only [List.length_append]; have := hlk.out; have := j1.out; have := j2.out; have := j3.out; omega)).mono ?_
          rintro x w7 ⟨rfl, hx⟩
          have HX7 := Lib.hid (hx.less (G := [(w.heap.size, .cells #[.slice a L.length cap, .slice (some ⟨b, off, none⟩) S.length cap2] 25)]) (fun x hx => List.mem_cons_of_mem _ hx))
          clear hx d0 d1 d2 d3 d4 d5
          go_wp2_with fail
          go_roundw
          case rel => exact ⟨k + 1, by omega, by go_num, by
            show OwnX _ _ _ _ _
            rw [HT.out, HB8.out]
            have := HX7.out
            rw [← HPRE.out] at this
            simpa [List.append_assoc] using this⟩
          case measure => simp [intOf]; omega
        · obtain rfl : k = S.length := by omega
          have HX0 := HX.out
          rw [List.take_length] at HX0
          have hlk := HL2.out S.length
          rw [List.take_length] at hlk
          have e0 : Pk.intB (L.length : Int) ++ L.flatMap prB ++ Pk.intB (S.length : Int) ++ S.flatMap seB = E := by rw [HE.out]; simp [List.append_assoc]
          rw [e0] at HX0 hlk
          have HX := Lib.hid HX0
          have hlk := Lib.hid hlk
          clear HX0 e0 HE
          go_wp2_with fail
          refine (wBytes HX.out (by have := hlk.out; omega)).mono ?_
          rintro x w4 ⟨bE, aE, capE, rfl, ho, hbE, hb⟩
          have HO := Lib.hid ho
          have HB := Lib.hid (HX.out.beh.trans hb)
          have hs := HX.out.beh.size
          clear ho hb
          go_wp2_with fail
          go_ret2
          exact ⟨bE, aE, capE, rfl, HO.out, by omega, HB.out⟩
theorem Encode_any (s : Ms) (m : Ma) (w : World) (h : MaAt w s m) : Calls Tryz.prog 7 #[s.agg m] w (EncTold w m) := by
  cases hr : rightM m
  · exact (Encode_bad s m w h hr).mono fun e w' ⟨he, hb⟩ => ⟨fun h => (by cases hr.symm.trans h), fun _ => he, hb⟩
  · exact (Encode_right s m w h (rightM_iff.1 hr)).mono fun e w' ⟨b, a, cap, he, ho, hb, hk⟩ => ⟨fun _ => ⟨b, a, cap, he, ho, hb⟩, fun h => (by cases hr.symm.trans h), hk⟩
end Go.Proofs.YtbheofibdogabaaGreat.Ss
