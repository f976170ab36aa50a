/- PackBack's walk. -/
import Derived.Test.YtjlpmmbmjkbdiaaGot
namespace Go.Proofs.Ytjlpmmbmjkbdiaa.Pk
open Go Go.RowKit Mem
theorem got_any (br bs : Nat) (r : List Nat) (e : Int) (x : It) (w : World) (h : RAt w br bs r e) (hx : x.ok w) (htb : x.t ≠ [] → x.tb ≠ br) (hl : r.length ≤ 35184372088832) (ht : x.t.length ≤ 35184372088832) :
    Calls Try.prog 19 #[.pointer (some ⟨br, 0, Option.none⟩), x.agg] w (GotPost br bs (gotOut x r e) w) := by
  unfold gotOut
  cases q0 : kq x.K 0
  · cases q1 : kq x.K 1
    · cases q2 : kq x.K 2
      · simpa using got_text br bs r e x w h hx htb hl ht q0 q1 q2
      · simpa using got_flt br bs r e x w h hx htb hl ht q0 q1 q2
    · simpa using got_mark br bs r e x w h hx htb hl ht q0 q1
  · simpa using got_int br bs r e x w h hx htb hl ht q0
theorem gotOut_rest (x : It) (r : List Nat) (e : Int) : (gotOut x r e).2.1 ≠ [] → r ≠ [] := by
  unfold gotOut
  split
  · exact intOut_rest r e
  · split
    · exact markOut_rest r e
    · split
      · exact fltOut_rest r e
      · exact textOut_rest r e
theorem markOut_enc (b : Bool) (r : List Nat) (e : Int) : markOut (markB b ++ r) e = (b, r, e) := by unfold markOut; rw [rdMark_enc]
theorem textOut_enc {t : List Nat} (h : t.length ≤ 16384) (r : List Nat) (e : Int) : textOut (textB t ++ r) e = (t, r, e) := by unfold textOut; rw [rdText_enc h]
/-- what was written is read again -/
theorem gotOut_enc {w : World} {x : It} (hx : x.ok w) (ht : x.t.length ≤ 16384) (r : List Nat) (e : Int) : gotOut x (x.v.enc ++ r) e = (true, r, e) := by
  unfold gotOut It.v
  cases q0 : kq x.K 0
  · cases q1 : kq x.K 1
    · cases q2 : kq x.K 2
      · simp only [Bool.false_eq_true, if_false, V.enc]
        rw [textOut_enc ht]; simp
      · simp only [Bool.false_eq_true, if_false, if_true, V.enc]
        rw [fltOut_enc hx.2.2.1, keepF_canon]
    · simp only [Bool.false_eq_true, if_false, if_true, V.enc]
      rw [markOut_enc]; simp
  · simp only [if_true, V.enc]
    rw [intOut_enc hx.2.1.1 hx.2.1.2]; simp
theorem got_own (w wr : World) (br : Nat) (r : List Nat) (e : Int) (x : It) (h : OwnR w wr br r e) (hx : x.ok w) (hl : r.length ≤ 35184372088832) (ht : x.t.length ≤ 35184372088832) :
    Calls Try.prog 19 #[.pointer (some ⟨br, 0, Option.none⟩), x.agg] wr fun x' w' => x' = .returned (.bool (gotOut x r e).1) ∧ OwnR w w' br (gotOut x r e).2.1 (gotOut x r e).2.2 := by
  obtain ⟨bs, h1, h2, h3, h4⟩ := h
  refine (got_any br bs r e x wr h1 (hx.kept h4) (fun hn e => ?_) hl ht).mono fun x' w' ⟨hx', hr, hk⟩ => ⟨hx', OwnR.step hr h2 h3 h4 hk⟩
  have := hx.2.2.2.1.lt hn
  omega
theorem write_own (w wr : World) (bw : Nat) (l : List Nat) (x : It) (h : OwnW w wr bw l) (hx : x.ok w) (ht : x.t.length ≤ 16384) (hlen : l.length ≤ 35184372088832) :
    Calls Try.prog 11 #[.pointer (some ⟨bw, 0, Option.none⟩), x.agg] wr fun x' w' => x' = .returned (.tuple #[]) ∧ OwnW w w' bw (l ++ x.v.enc) := by
  obtain ⟨S, hw, hs, hk⟩ := h
  exact (write_any bw S l x wr hw (hx.kept hk) (fun hn e => by have := hx.2.2.2.1.lt hn; have := hs _ e; omega) (fun _ _ _ => ht) hlen).mono fun x w' hp => OwnW.put hs hk hp
/-- all that is written -/
def encs (L : List It) : List Nat := (L.map (fun x => x.v.enc)).flatten
theorem encs_snoc (L : List It) (x : It) : encs (L ++ [x]) = encs L ++ x.v.enc := by unfold encs; simp
theorem encs_cons (L : List It) (x : It) : encs (x :: L) = x.v.enc ++ encs L := by unfold encs; simp
theorem encs_take {L : List It} {k : Nat} (h : k < L.length) : encs (L.take (k + 1)) = encs (L.take k) ++ (L.getD k It.none).v.enc := by
  rw [List.take_succ_eq_append_getElem h, encs_snoc]; simp [h]
theorem encs_drop {L : List It} {k : Nat} (h : k < L.length) : encs (L.drop k) = (L.getD k It.none).v.enc ++ encs (L.drop (k + 1)) := by
  rw [List.drop_eq_getElem_cons h, encs_cons]; simp [h]
theorem encs_len {w : World} {L : List It} (h : ∀ x ∈ L, x.ok w) (ht : ∀ x ∈ L, x.t.length ≤ 16384) : (encs L).length ≤ L.length * 16394 := by
  induction L with
  | nil => simp [encs]
  | cons x L ih =>
    rw [encs_cons, List.length_append, List.length_cons]
    have := enc_len (It.v_ok (h x (List.mem_cons_self ..)) (ht x (List.mem_cons_self ..)))
    have := ih (fun y hy => h y (List.mem_cons_of_mem _ hy)) (fun y hy => ht y (List.mem_cons_of_mem _ hy))
    omega
def Fits (L : List It) (k : Nat) : Prop := ∀ x ∈ L.take k, x.t.length ≤ 16384
theorem Fits.next {L : List It} {k : Nat} (h : Fits L k) (hk : k < L.length) (hx : (L.getD k It.none).t.length ≤ 16384) : Fits L (k + 1) := by
  intro x hm
  rw [List.take_succ_eq_append_getElem hk, List.mem_append] at hm
  rcases hm with hm | hm
  · exact h x hm
  · simp at hm; subst hm; simpa [hk] using hx
theorem Fits.len {w : World} {L : List It} {k : Nat} (h : Fits L k) (hL : ∀ x ∈ L, x.ok w) : (encs (L.take k)).length ≤ k * 16394 := by
  refine Nat.le_trans (encs_len (w := w) (fun x hx => hL x (List.mem_of_mem_take hx)) h) ?_
  exact Nat.mul_le_mul_right _ (List.length_take_le _ _)
set_option maxHeartbeats 4000000 in
set_option maxRecDepth 100000 in
theorem PackBack_any (a : Option Addr) (cap : Nat) (L : List It) (w : World) (hi : Items w a L) :
    Calls Try.prog 4 #[.slice a L.length cap] w fun e w' => e = .returned (.bool true) ∧ Kept Mem.None w w' := by
  have HI := Lib.hid hi
  have hm := hi.2.1
  clear hi
  cases hq : heavyB L
  · have hL := (heavy_no hq).1
    have HQ := Lib.hid hq
    clear hq
    go_enter Try.func4, Try.ntmps4
    go_wp2_with fail
    refine (heavy_any a cap L w HI.out).mono ?_
    rintro x w' ⟨rfl, rfl⟩
    rw [HQ.out]
    have H0 := Lib.hid (OwnW.new w w (Kept.refl _ _))
    go_wp2
    go_loopw [4] (fun i wr => ∃ k : Nat, k ≤ L.length ∧ i = .int .i64 k ∧ Hid (OwnW w wr w.heap.size (encs (L.take k)) ∧ Fits L k)) (fun i _ => L.length - (intOf i).toNat)
    case atStart => exact ⟨0, by omega, rfl, H0.out, fun x hx => by simp at hx⟩
    case round =>
      obtain ⟨k, hk, rfl, hw⟩ := hrel
      have hle := hw.out.2.len HI.out.1
      by_cases hlt : k < L.length
      · obtain ⟨b, off, rfl, hc⟩ := (HI.out.kept hw.out.1.keeps.1).2.2 (by omega)
        obtain ⟨c0, c1, c2, c3, c4⟩ := hc k hlt
        have HX := Lib.hid (HI.out.get hlt)
        have HE := Lib.hid (encs_take hlt)
        have HF : Hid ((L.getD k It.none).t.length ≤ 16384 → Fits L (k + 1)) := fun h => hw.out.2.next hlt h
        clear hc
        generalize L.getD k It.none = x at *
        by_cases hx : 16384 < x.t.length
        · have HK := Lib.hid hw.out.1.keeps.1
          go_wp2
          go_ret
          exact ⟨rfl, HK.out⟩
        · have hx' : x.t.length ≤ 16384 := by omega
          clear hx
          go_wp2_with fail
          refine (write_own w wr w.heap.size (encs (L.take k)) x hw.out.1 HX.out hx' (by omega)).mono ?_
          rintro x' w2 ⟨rfl, h2⟩
          have H2 := Lib.hid h2
          clear h2
          go_wp2
          go_roundw
          case rel => exact ⟨k + 1, by omega, by go_num, by rw [HE.out]; exact H2.out, HF.out hx'⟩
          case measure => simp [intOf]; omega
      · obtain rfl : k = L.length := by omega
        have hfit := Lib.hid hw.out.2
        have hwl := hw.out.1
        rw [List.take_length] at hle hwl
        have HW := Lib.hid hwl
        clear hwl
        have h8 := Lib.hid HW.out.keeps.2
        go_wp2_with fail
        refine (WBytes_own w wr w.heap.size (encs L) HW.out (by omega)).mono ?_
        rintro x w3 ⟨b3, a3, cap3, rfl, ho, hb, hb2, hw3, hk3⟩
        have HO := Lib.hid ho
        have HK3 := Lib.hid hw3.keeps.1
        clear ho hw3 hk3
        go_wp2_with fail
        refine (NewReader_own w w3 HK3.out b3 a3 cap3 (encs L) HO.out.src (by omega) h8.out).mono ?_
        rintro x w4 ⟨br, rfl, hr, hk4⟩
        have HR4 := Lib.hid hr
        have hnn : ((encs L).length != (encs L).length) = false := by simp
        have hnn2 : (((encs L).length : Int) != ((encs L).length : Int)) = false := by simp
        clear hr hk4
        go_wp2_with (first | (go_at_call 18; refine (Left_own w _ br _ _ HR4.out).mono ?_; rintro x w' ⟨rfl, rfl⟩))
        go_loopw [8] (fun i wr => ∃ k : Nat, k ≤ L.length ∧ i = .int .i64 k ∧ Hid (OwnR w wr br (encs (L.drop k)) 0)) (fun i _ => L.length - (intOf i).toNat)
        case atStart => exact ⟨0, by omega, rfl, HR4.out⟩
        case round =>
          obtain ⟨k2, hk2, rfl, hw2⟩ := hrel
          by_cases hlt2 : k2 < L.length
          · obtain ⟨b, off, rfl, hc⟩ := (HI.out.kept hw2.out.keeps.1).2.2 (by omega)
            obtain ⟨c0, c1, c2, c3, c4⟩ := hc k2 hlt2
            have HX := Lib.hid (HI.out.get hlt2)
            have HE := Lib.hid (encs_drop hlt2)
            have hxt : (L.getD k2 It.none).t.length ≤ 16384 := hfit.out _ (by rw [List.take_length]; simp [hlt2])
            have hdl : (encs (L.drop k2)).length ≤ 3278800 := by
              have := encs_len (w := w) (L := L.drop k2) (fun x hx => HI.out.1 x (List.mem_of_mem_drop hx)) (fun x hx => hfit.out x (by rw [List.take_length]; exact List.mem_of_mem_drop hx))
              rw [List.length_drop] at this
              omega
            clear hc
            generalize L.getD k2 It.none = x at *
            have hg := gotOut_enc HX.out hxt (encs (L.drop (k2 + 1))) 0
            rw [← HE.out] at hg
            have HG := Lib.hid hg
            clear hg
            go_wp2_with fail
            refine (got_own w _ br _ 0 x hw2.out HX.out (by omega) (by omega)).mono ?_
            rw [HG.out]
            rintro x' w5 ⟨rfl, h5⟩
            have H5 := Lib.hid h5
            clear h5
            go_wp2
            go_roundw
            case rel => exact ⟨k2 + 1, by omega, by go_num, H5.out⟩
            case measure => simp [intOf]; omega
          · obtain rfl : k2 = L.length := by omega
            have h5 := hw2.out
            rw [List.drop_length] at h5
            have H5 := Lib.hid h5
            have HK5 := Lib.hid h5.keeps.1
            have hd0 : doneOf [] 0 = 0 := rfl
            have he0 : encs [] = [] := rfl
            clear h5
            go_wp2_with (first | (go_at_call 20; refine (Done_own w _ br [] _ H5.out).mono ?_; rintro x w' ⟨rfl, rfl⟩) | (go_at_call 18; refine (Left_own w _ br [] _ H5.out).mono ?_; rintro x w' ⟨rfl, rfl⟩) | (go_at_call 16; refine (wakes_any _).mono ?_; rintro x w13 ⟨rfl, k13⟩))
            go_ret
            exact ⟨rfl, HK5.out.trans k13⟩
  · have HQ := Lib.hid hq
    clear hq
    go_enter Try.func4, Try.ntmps4
    go_wp2_with fail
    refine (heavy_any a cap L w HI.out).mono ?_
    rintro x w' ⟨rfl, rfl⟩
    rw [HQ.out]
    go_wp2
    go_ret
    exact ⟨rfl, Kept.refl _ _⟩
theorem PackBack_law (a : Option Addr) (len cap : Nat) (W : World) (h1 : ItemsIn W a len cap) :
    Calls Try.prog 4 #[.slice a len cap] W fun e w' => e = .returned (.bool true) ∧ Below W.heap.size W w' := by
  obtain ⟨_, L, rfl, hi⟩ := h1
  exact (PackBack_any a cap L W hi).mono fun _ _ ⟨he, hk⟩ => ⟨he, all_below hk⟩
end Go.Proofs.Ytjlpmmbmjkbdiaa.Pk
