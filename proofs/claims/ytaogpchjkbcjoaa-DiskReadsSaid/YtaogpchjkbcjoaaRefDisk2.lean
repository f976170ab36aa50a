/- Walks of the reference's disk: its writes. -/
import Derived.Test.YtaogpchjkbcjoaaRefDisk
namespace Go.Proofs.Ytaogpchjkbcjoaa.Dk
open Go Go.RowKit Mem Kp
set_option maxHeartbeats 2000000 in
set_option maxRecDepth 100000 in
theorem rsync_any (w : World) (r f : Nat) (a : Option Addr) (c : Nat) (st : St) (h : RefAt w r f a c st) (ok : st.Ok) :
    Calls Try.prog 26 #[.pointer (some ⟨r, 0, none⟩)] w fun x w' => x = .returned (.int .i64 st.sync.2) ∧ RLeft r f st.file w st.sync.1 w' := by
  obtain ⟨⟨_, c1, c2, c3, c4, c5⟩, hf⟩ := h.cells
  have HR := Lib.hid h
  have HOK := Lib.hid ok
  clear h hf ok
  cases hoff : st.off with
  | true =>
    rw [hoff] at c3
    have HE := Lib.hid (St.sync_off hoff)
    clear hoff
    go_enter Try.func26, Try.ntmps26
    go_wp2
    go_ret
    exact ⟨by rw [HE.out]; rfl, f, a, c, by rw [HE.out]; exact HR.out, Kept.refl _ _, by rw [HE.out]; exact fun hn => .inl ⟨rfl, hn⟩⟩
  | false =>
    rw [hoff] at c3
    by_cases harm : st.armed = 1
    · have HE := Lib.hid (St.sync_last hoff harm)
      have HD : Hid (decide (st.armed = 1) = true) := decide_eq_true harm
      have HG : Hid (st.less.crash st.keep = st.gone st.keep) := by show _ = _; unfold St.crash; rw [if_neg (by show ¬ st.off = true; rw [hoff]; decide)]; rfl
      clear hoff harm
      go_enter Try.func26, Try.ntmps26
      go_wp2_with fail
      refine (rlast_any w r f a c st HR.out HOK.out.amax).mono ?_
      rw [HD.out]
      rintro x w1 ⟨rfl, h1, k1⟩
      have H1 := Lib.hid h1
      have K1 := Lib.hid k1
      obtain ⟨⟨_, _, _, _, _, e5⟩, _⟩ := h1.cells
      have e5' : w1.cell? ⟨r, 5, none⟩ = some (.int .i64 st.keep) := e5
      clear h1 k1 e5
      go_wp2_with fail
      refine (rcrash_any w1 r f a c st.less H1.out HOK.out.less st.keep).mono ?_
      rw [HG.out]
      rintro x w2 ⟨rfl, f', a', c', h2, k2, hf2⟩
      have H2 := Lib.hid h2
      have K2 := Lib.hid (K1.out.trans k2)
      have hsz := K1.out.size
      clear h2 k2
      go_wp2
      go_ret
      exact ⟨by rw [HE.out]; rfl, f', a', c', by rw [HE.out]; exact H2.out, K2.out, by rw [HE.out]; exact fun hn => (hf2 hn).imp (fun h => h) (fun h => by omega)⟩
    · have HE := Lib.hid (St.sync_ok hoff harm)
      have HD : Hid (decide (st.armed = 1) = false) := decide_eq_false harm
      clear hoff harm
      go_enter Try.func26, Try.ntmps26
      go_wp2_with fail
      refine (rlast_any w r f a c st HR.out HOK.out.amax).mono ?_
      rw [HD.out]
      rintro x w1 ⟨rfl, h1, k1⟩
      obtain ⟨⟨_, e1, e2, _, _, _⟩, ef⟩ := h1.cells
      have ef2 := ef 2
      have e1' : w1.cell? ⟨r, 1, none⟩ = some (.slice a st.file.length c) := e1
      have h2 := h1.safes st.file.length
      have H2 := Lib.hid h2.1
      have K2 := Lib.hid (k1.trans h2.2)
      clear h1 k1 e1 ef h2
      go_wp2
      go_ret
      exact ⟨by rw [HE.out]; rfl, f, a, c, by rw [HE.out]; exact H2.out, K2.out, by rw [HE.out]; exact fun hn => .inl ⟨rfl, hn⟩⟩
set_option maxHeartbeats 4000000 in
set_option maxRecDepth 100000 in
theorem rreplace_any (w : World) (r f : Nat) (a : Option Addr) (c : Nat) (st : St) (h : RefAt w r f a c st) (ok : st.Ok) (b : Nat) (ab : Option Addr) (cb : Nat) (l : List Nat) (hs : Src w b ab cb l) (hb : l ≠ [] → b ≠ r) (hl : l.length ≤ 1048576) :
    Calls Try.prog 27 #[.pointer (some ⟨r, 0, none⟩), .slice ab l.length cb] w fun x w' => x = .returned (.int .i64 (st.replace l).2) ∧ RLeft r f st.file w (st.replace l).1 w' := by
  obtain ⟨⟨c0, c1, c2, c3, c4, c5⟩, hf⟩ := h.cells
  have HR := Lib.hid h
  have HOK := Lib.hid ok
  have HS := Lib.hid hs
  clear h hf ok hs
  cases hoff : st.off with
  | true =>
    rw [hoff] at c3
    have HE := Lib.hid (St.replace_off hoff l)
    clear hoff
    go_enter Try.func27, Try.ntmps27
    go_wp2
    go_ret
    exact ⟨by rw [HE.out]; rfl, f, a, c, by rw [HE.out]; exact HR.out, Kept.refl _ _, by rw [HE.out]; exact fun hn => .inl ⟨rfl, hn⟩⟩
  | false =>
    rw [hoff] at c3
    by_cases hfull : l.length ≤ st.room
    · have d1 : decide ((st.room : Int) < (l.length : Int)) = false := decide_eq_false (by omega)
      have d1' : decide (st.room < l.length) = false := decide_eq_false (by omega)
      by_cases harm : st.armed = 1
      · have HE := Lib.hid (St.replace_last hoff hfull harm)
        have HD : Hid (decide (st.armed = 1) = true) := decide_eq_true harm
        have HG : Hid (st.less.crash st.keep = st.gone st.keep) := by show _ = _; unfold St.crash; rw [if_neg (by show ¬ st.off = true; rw [hoff]; decide)]; rfl
        clear hoff harm hfull
        go_enter Try.func27, Try.ntmps27
        go_wp2_with fail
        refine (rlast_any w r f a c st HR.out HOK.out.amax).mono ?_
        rw [HD.out]
        rintro x w1 ⟨rfl, h1, k1⟩
        have H1 := Lib.hid h1
        have K1 := Lib.hid k1
        obtain ⟨⟨_, _, _, _, _, e5⟩, _⟩ := h1.cells
        have e5' : w1.cell? ⟨r, 5, none⟩ = some (.int .i64 st.keep) := e5
        clear h1 k1 e5
        go_wp2_with fail
        refine (rcrash_any w1 r f a c st.less H1.out HOK.out.less st.keep).mono ?_
        rw [HG.out]
        rintro x w2 ⟨rfl, f', a', c', h2, k2, hf2⟩
        have H2 := Lib.hid h2
        have K2 := Lib.hid (K1.out.trans k2)
        have hsz := K1.out.size
        clear h2 k2
        go_wp2
        go_ret
        exact ⟨by rw [HE.out]; rfl, f', a', c', by rw [HE.out]; exact H2.out, K2.out, by rw [HE.out]; exact fun hn => (hf2 hn).imp (fun h => h) (fun h => by omega)⟩
      · have HE := Lib.hid (St.replace_ok hoff hfull harm)
        have HD : Hid (decide (st.armed = 1) = false) := decide_eq_false harm
        clear hoff harm hfull
        go_enter Try.func27, Try.ntmps27
        go_wp2_with fail
        refine (rlast_any w r f a c st HR.out HOK.out.amax).mono ?_
        rw [HD.out]
        rintro x w1 ⟨rfl, h1, k1⟩
        have H1 := Lib.hid h1
        have K1 := Lib.hid k1
        have HS1 : Hid (Src w1 b ab cb l) := HS.out.kept k1 (fun hn e => hb hn e)
        clear h1 k1
        go_wp2_with fail
        have had := radd_any 0 none 0 [] b ab cb l w1 (.inl ⟨Nat.le_refl _, by decide, .inl ⟨rfl, rfl, rfl⟩⟩) HS1.out (by decide) (by omega)
        refine had.mono ?_
        clear had
        rintro x w2 ⟨b2, a2, c2', rfl, ho2, hb2, hk2⟩
        have h2 := H1.out.same hk2
        rw [List.nil_append] at ho2
        have hrlt := lt_of_heap H1.out.heap
        have h3 := h2.files (n := l.length) ho2.src rfl (fun _ => by omega)
        obtain ⟨_, ef⟩ := h2.cells
        have ef1 := ef 1
        obtain ⟨_, ef'⟩ := h3.1.cells
        have ef2 := ef' 2
        have h4 := h3.1.safes l.length
        have H4 := Lib.hid h4.1
        have K4 := Lib.hid (((K1.out.trans (Kept.ofNone hk2)).trans h3.2).trans h4.2)
        obtain ⟨⟨_, g1, _⟩, _⟩ := h2.cells
        have hsz := K1.out.size
        rw [show ([] : List Nat).length + l.length = l.length by simp]
        clear h2 h3 h4 ef ef' ho2 hk2
        go_wp2
        go_ret
        exact ⟨by rw [HE.out]; rfl, b2, a2, c2', by rw [HE.out]; exact H4.out, K4.out, fun _ => .inr (by omega)⟩
    · have d1 : decide ((st.room : Int) < (l.length : Int)) = true := decide_eq_true (by omega)
      have d1' : decide (st.room < l.length) = true := decide_eq_true (by omega)
      have HE := Lib.hid (St.replace_full hoff (b := l) (by omega))
      clear hoff hfull
      go_enter Try.func27, Try.ntmps27
      go_wp2
      go_ret
      exact ⟨by rw [HE.out]; rfl, f, a, c, by rw [HE.out]; exact HR.out, Kept.refl _ _, by rw [HE.out]; exact fun hn => .inl ⟨rfl, hn⟩⟩
set_option maxHeartbeats 4000000 in
set_option maxRecDepth 100000 in
theorem rappend_any (w : World) (r f : Nat) (a : Option Addr) (c : Nat) (st : St) (h : RefAt w r f a c st) (ok : st.Ok) (b : Nat) (ab : Option Addr) (cb : Nat) (l : List Nat) (hs : Src w b ab cb l) (_hb : l ≠ [] → b ≠ r) (hl : l.length ≤ 1048576) (h8 : B8 l) :
    Calls Try.prog 31 #[.pointer (some ⟨r, 0, none⟩), .slice ab l.length cb] w fun x w' => x = .returned (.int .i64 (st.append l).2) ∧ RLeft r f st.file w (st.append l).1 w' := by
  obtain ⟨⟨c0, c1, c2, c3, c4, c5⟩, hf⟩ := h.cells
  have f1 := hf 1
  have hfl : st.file.length ≤ 65536 := by have := ok.fits; have := ok.room; omega
  have hrm := ok.room
  have HR := Lib.hid h
  have HOK := Lib.hid ok
  have HS := Lib.hid hs
  have H8 := Lib.hid h8
  clear h hf ok hs h8
  cases hoff : st.off with
  | true =>
    rw [hoff] at c3
    have HE := Lib.hid (St.append_off hoff l)
    clear hoff
    go_enter Try.func31, Try.ntmps31
    go_wp2
    go_ret
    exact ⟨by rw [HE.out]; rfl, f, a, c, by rw [HE.out]; exact HR.out, Kept.refl _ _, by rw [HE.out]; exact fun hn => .inl ⟨rfl, hn⟩⟩
  | false =>
    rw [hoff] at c3
    have HW : Hid (∀ w' : World, RefAt w' r f a c st → Src w' b ab cb l → True) := fun _ _ _ => trivial
    by_cases hfull : st.file.length + l.length ≤ st.room
    · have d1 : decide ((st.room : Int) < (st.file.length : Int) + (l.length : Int)) = false := decide_eq_false (by omega)
      have d1' : decide (st.room < st.file.length + l.length) = false := decide_eq_false (by omega)
      have HOW : Hid ((st.with_ (st.file ++ l) st.safe).Ok) := HOK.out.with_ hoff (by rw [List.length_append]; exact hfull) (by rw [List.length_append]; have := HOK.out.safe; omega) (HOK.out.b8.append H8.out)
      go_enter Try.func31, Try.ntmps31
      go_wp2
      go_quiet (fail)
      obtain ⟨w1, hW1⟩ : ∃ W, W = w.drewN nq := ⟨_, rfl⟩
      rw [← hW1]
      have k1 : Kept None w w1 := by rw [hW1]; exact (Kept.refl _ _).drewN nq
      have HR1 := Lib.hid (HR.out.same k1)
      have HS1 : Hid (Src w1 b ab cb l) := HS.out.kept k1 (fun _ h => h)
      obtain ⟨⟨_, e1, _⟩, ef⟩ := HR1.out.cells
      have hsz1 := k1.size
      have HK1 := Lib.hid k1
      clear hW1 k1 ef c0 c1 c2 c3 c4 c5 f1
      go_wp2_with fail
      refine (radd_any f a c st.file b ab cb l w1 HR1.out.file HS1.out (by omega) (by omega)).mono ?_
      rintro x w2 ⟨b2, a2, c2', rfl, ho2, hb2, hk2⟩
      have h2 := HR1.out.same hk2
      have hrlt := lt_of_heap HR1.out.heap
      have h3 := h2.files (n := st.file.length + l.length) ho2.src List.length_append (fun _ => by omega)
      obtain ⟨⟨_, g1, _⟩, ef⟩ := h2.cells
      have ef1 := ef 1
      have H3 : Hid (RefAt (w2.setCell ⟨r, 1, none⟩ (.slice a2 (st.file.length + l.length) c2')) r b2 a2 c2' (st.with_ (st.file ++ l) st.safe)) := h3.1
      have K3 := Lib.hid (((Kept.ofNone HK1.out).trans (Kept.ofNone hk2)).trans h3.2)
      have hsz2 := hk2.size
      clear h2 h3 ef ho2 hk2
      go_wp2_with fail
      obtain ⟨w3, hW3⟩ : ∃ W, W = w2.setCell ⟨r, 1, none⟩ (.slice a2 (st.file.length + l.length) c2') := ⟨_, rfl⟩
      rw [← hW3] at H3 K3 ⊢
      clear hW3 g1 ef1
      by_cases harm : st.armed = 1
      · have HE := Lib.hid (St.append_last hoff hfull harm)
        have HD : Hid (decide ((st.with_ (st.file ++ l) st.safe).armed = 1) = true) := decide_eq_true harm
        have HG : Hid ((st.with_ (st.file ++ l) st.safe).less.crash st.keep = (st.with_ (st.file ++ l) st.safe).gone st.keep) := by show _ = _; unfold St.crash; rw [if_neg (by show ¬ st.off = true; rw [hoff]; decide)]; rfl
        have HKP : Hid ((st.with_ (st.file ++ l) st.safe).less.keep = st.keep) := rfl
        clear hoff harm hfull
        generalize hst2 : st.with_ (st.file ++ l) st.safe = st2 at H3 HD HG HE HOW HKP
        have HST := Lib.hid hst2
        clear hst2
        refine (rlast_any w3 r b2 a2 c2' st2 H3.out HOW.out.amax).mono ?_
        rw [HD.out]
        rintro x w4 ⟨rfl, h4, k4⟩
        have H4 := Lib.hid h4
        have K4 := Lib.hid (K3.out.trans k4)
        obtain ⟨⟨_, _, _, _, _, e5⟩, _⟩ := h4.cells
        rw [HKP.out] at e5
        clear h4 k4
        go_wp2_with fail
        refine (rcrash_any w4 r b2 a2 c2' st2.less H4.out HOW.out.less st.keep).mono ?_
        rw [HG.out]
        rintro x w5 ⟨rfl, f', a', c', h5, k5, hf5⟩
        have H5 := Lib.hid h5
        have K5 := Lib.hid (K4.out.trans k5)
        have hsz4 := K4.out.size
        clear h5 k5
        go_wp2
        go_ret
        exact ⟨by rw [HE.out]; rfl, f', a', c', by rw [HE.out]; exact H5.out, K5.out, by rw [HE.out]; exact fun hn => .inr (by rcases hf5 hn with h | h <;> omega)⟩
      · have HE := Lib.hid (St.append_ok hoff hfull harm)
        have HD : Hid (decide ((st.with_ (st.file ++ l) st.safe).armed = 1) = false) := decide_eq_false harm
        clear hoff harm hfull
        refine (rlast_any w3 r b2 a2 c2' _ H3.out HOW.out.amax).mono ?_
        rw [HD.out]
        rintro x w4 ⟨rfl, h4, k4⟩
        have H4 := Lib.hid h4
        have K4 := Lib.hid (K3.out.trans k4)
        clear h4 k4
        go_wp2
        go_ret
        exact ⟨by rw [HE.out]; rfl, b2, a2, c2', by rw [HE.out]; exact H4.out, K4.out, fun _ => .inr (by omega)⟩
    · have d1 : decide ((st.room : Int) < (st.file.length : Int) + (l.length : Int)) = true := decide_eq_true (by omega)
      have d1' : decide (st.room < st.file.length + l.length) = true := decide_eq_true (by omega)
      have HE := Lib.hid (St.append_full hoff (b := l) (by omega))
      clear hoff hfull
      go_enter Try.func31, Try.ntmps31
      go_wp2
      go_quiet (fail)
      go_wp2
      go_ret
      exact ⟨by rw [HE.out]; rfl, f, a, c, by rw [HE.out]; exact HR.out.same ((Kept.refl _ _).drewN nq), (Kept.refl _ _).drewN nq, by rw [HE.out]; exact fun hn => .inl ⟨rfl, hn⟩⟩
end Go.Proofs.Ytaogpchjkbcjoaa.Dk
