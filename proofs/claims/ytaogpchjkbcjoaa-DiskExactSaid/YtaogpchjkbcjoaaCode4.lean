/- The contracts of package disk, for the code that landed. -/
import Derived.Test.YtaogpchjkbcjoaaDiskTrips
namespace Go.Proofs.Ytaogpchjkbcjoaa.Dk
open Go Go.RowKit Mem Kp
def DAt (w : World) (d : Nat) (S : Nat → Prop) (st : St) : Prop := (∃ p, At w d S p st) ∧ st.Ok
/-- what a call leaves of a disk -/
def Left (d : Nat) (S : Nat → Prop) (wr : World) (st : St) (w' : World) : Prop := ∃ S', DAt w' d S' st ∧ Kept S wr w' ∧ ∀ k, S' k → S k ∨ wr.heap.size ≤ k
theorem LeftA.left {q : Option Addr → Prop} {d : Nat} {S : Nat → Prop} {w w' : World} {st : St} (h : LeftA q d S w st w') (ok : st.Ok) : Left d S w st w' := by
  obtain ⟨S', p, _, h1, h2, h3⟩ := h
  exact ⟨S', ⟨⟨p, h1⟩, ok⟩, h2, h3⟩
theorem DAt.hi {w : World} {d : Nat} {S : Nat → Prop} {st : St} (h : DAt w d S st) {k : Nat} (hk : S k) : k < w.heap.size := by
  obtain ⟨⟨p, h⟩, _⟩ := h; exact h.hi k hk
theorem DAt.ok {w : World} {d : Nat} {S : Nat → Prop} {st : St} (h : DAt w d S st) : st.Ok := h.2
theorem DAt.kept {w w' : World} {d : Nat} {S T : Nat → Prop} {st : St} (h : DAt w d S st) (hk : Kept T w w') (hs : ∀ k, S k → ¬ T k) : DAt w' d S st := by
  obtain ⟨⟨p, h⟩, ok⟩ := h; exact ⟨⟨p, h.kept hk hs⟩, ok⟩
set_option maxHeartbeats 2000000 in
theorem New_ok (room : Nat) (h : room ≤ 65536) (w : World) : Calls Try.prog 11 #[.int .i64 room] w fun x w' => ∃ d S, x = .returned (.tuple #[.pointer (some ⟨d, 0, none⟩), .int .i64 0]) ∧ DAt w' d S (St.new room) ∧ (∀ k, S k → w.heap.size ≤ k) ∧ Kept None w w' := by
  have d1 : decide ((room : Int) < 0) = false := decide_eq_false (by omega)
  have d2 : decide ((65536 : Int) < (room : Int)) = false := decide_eq_false (by omega)
  go_enter Try.func11, Try.ntmps11
  go_wp2
  go_ret2
  refine ⟨w.heap.size, fun k => k = w.heap.size, rfl, ⟨⟨none, heap_alloc_new w _, .inl ⟨rfl, rfl⟩, rfl, fun k hk => by rw [hk]; simp⟩, St.Ok.new h⟩, fun k hk => by omega, (Kept.refl _ _).alloc _⟩
set_option maxHeartbeats 2000000 in
theorem New_bad (room : Int) (h : room < 0 ∨ 65536 < room) (w : World) : Calls Try.prog 11 #[.int .i64 room] w fun x w' => x = .returned (.tuple #[.pointer none, .int .i64 1]) ∧ Kept None w w' := by
  by_cases h0 : room < 0
  · have d1 : decide (room < 0) = true := decide_eq_true h0
    clear h h0
    go_enter Try.func11, Try.ntmps11
    go_wp2
    go_ret2
    exact ⟨rfl, Kept.refl _ _⟩
  · have d1 : decide (room < 0) = false := decide_eq_false h0
    have d2 : decide (65536 < room) = true := decide_eq_true (h.resolve_left h0)
    clear h h0
    go_enter Try.func11, Try.ntmps11
    go_wp2
    go_ret2
    exact ⟨rfl, Kept.refl _ _⟩
set_option maxHeartbeats 2000000 in
theorem Read_on (w : World) (d : Nat) (S : Nat → Prop) (st : St) (h : DAt w d S st) (ho : st.off = false) : Calls Try.prog 16 #[.pointer (some ⟨d, 0, none⟩)] w fun x w' => ∃ b a cap, x = .returned (.tuple #[.slice a st.file.length cap, .int .i64 0]) ∧ OwnB 5 w' b a cap st.file ∧ w.heap.size ≤ b ∧ b ≤ w'.heap.size ∧ Kept None w w' := by
  obtain ⟨⟨p, h⟩, ok⟩ := h
  obtain ⟨⟨_, _, _, _, c4, _⟩, _⟩ := h.cells
  rw [ho] at c4
  have hl : st.file.length ≤ 65536 := by have := ok.fits; have := ok.room; omega
  have HA := Lib.hid h
  clear h ho ok
  go_enter Try.func16, Try.ntmps16
  go_wp2_with fail
  refine (file_any w d S p st HA.out).mono ?_
  rintro x w1 ⟨b, a, c, rfl, hs, _, hw⟩
  have HK1 : Hid (Kept None w w1) := by obtain ⟨n, e⟩ := hw.out; rw [e]; exact (Kept.refl _ _).drewN n
  have HS := Lib.hid hs
  clear hs hw
  go_wp2_with fail
  refine (Clone_any b a c st.file w1 HS.out (by omega)).mono ?_
  rintro x w2 ⟨b2, a2, c2, rfl, ho, hb, hk, hb2⟩
  have HO := Lib.hid ho
  have HB := Lib.hid (And.intro hb hb2)
  have HK := Lib.hid hk
  clear ho hb hk hb2
  go_wp2
  go_ret2
  exact ⟨b2, a2, c2, rfl, HO.out, by have := HK1.out.size; have := HB.out.1; omega, HB.out.2, HK1.out.trans HK.out⟩
set_option maxHeartbeats 2000000 in
theorem Read_off (w : World) (d : Nat) (S : Nat → Prop) (st : St) (h : DAt w d S st) (ho : st.off = true) : Calls Try.prog 16 #[.pointer (some ⟨d, 0, none⟩)] w fun x w' => x = .returned (.tuple #[.slice none 0 0, .int .i64 4]) ∧ Kept None w w' := by
  obtain ⟨⟨p, h⟩, ok⟩ := h
  obtain ⟨⟨_, _, _, _, c4, _⟩, _⟩ := h.cells
  rw [ho] at c4
  clear h ho ok
  go_enter Try.func16, Try.ntmps16
  go_wp2
  go_ret2
  exact ⟨rfl, Kept.refl _ _⟩
set_option maxHeartbeats 2000000 in
theorem Size_any (w : World) (d : Nat) (S : Nat → Prop) (st : St) (h : DAt w d S st) : Calls Try.prog 15 #[.pointer (some ⟨d, 0, none⟩)] w fun x w' => x = .returned (.int .i64 st.file.length) ∧ w = w' := by
  obtain ⟨⟨p, h⟩, ok⟩ := h
  obtain ⟨⟨_, _, c2, _⟩, _⟩ := h.cells
  clear h ok
  go_enter Try.func15, Try.ntmps15
  go_wp2
  go_ret
  exact ⟨rfl, rfl⟩
set_option maxHeartbeats 2000000 in
theorem Off_any (w : World) (d : Nat) (S : Nat → Prop) (st : St) (h : DAt w d S st) : Calls Try.prog 14 #[.pointer (some ⟨d, 0, none⟩)] w fun x w' => x = .returned (.bool st.off) ∧ w = w' := by
  obtain ⟨⟨p, h⟩, ok⟩ := h
  obtain ⟨⟨_, _, _, _, c4, _⟩, _⟩ := h.cells
  clear h ok
  go_enter Try.func14, Try.ntmps14
  go_wp2
  go_ret
  exact ⟨rfl, rfl⟩
set_option maxHeartbeats 2000000 in
theorem Start_any (w : World) (d : Nat) (S : Nat → Prop) (st : St) (h : DAt w d S st) : Calls Try.prog 23 #[.pointer (some ⟨d, 0, none⟩)] w fun x w' => x = .returned (.tuple #[]) ∧ Left d S w st.start w' := by
  obtain ⟨⟨p, h⟩, ok⟩ := h
  obtain ⟨⟨_, _, _, _, c4, _⟩, hf⟩ := h.cells
  have f4 := hf 4
  have hp := h.offs false
  have HL : Hid (Left d S w st.start (w.setCell ⟨d, 4, none⟩ (.bool false))) := (LeftA.of (q := Any) trivial hp.1 hp.2).left ok.start
  clear h ok hf hp
  go_enter Try.func23, Try.ntmps23
  go_wp2
  go_end0
  exact ⟨rfl, HL.out⟩
theorem Crash_any (w : World) (d : Nat) (S : Nat → Prop) (st : St) (h : DAt w d S st) (keep : Int) (_h1 : -9223372036854775808 ≤ keep) (_h2 : keep ≤ 9223372036854775807) : Calls Try.prog 22 #[.pointer (some ⟨d, 0, none⟩), .int .i64 keep] w fun x w' => x = .returned (.tuple #[]) ∧ Left d S w (st.crash keep) w' := by
  obtain ⟨⟨p, h⟩, ok⟩ := h
  exact (crash_any w d S p st h ok keep).mono fun _ _ ⟨hx, hL⟩ => ⟨hx, hL.left (ok.crash keep)⟩
set_option maxHeartbeats 2000000 in
theorem Trip_any (w : World) (d : Nat) (S : Nat → Prop) (st : St) (h : DAt w d S st) (n keep : Int) (_hn0 : -9223372036854775808 ≤ n) (hn : n ≤ 9223372036854775807) (h1 : -9223372036854775808 ≤ keep) (h2 : keep ≤ 9223372036854775807) : Calls Try.prog 21 #[.pointer (some ⟨d, 0, none⟩), .int .i64 n, .int .i64 keep] w fun x w' => x = .returned (.tuple #[]) ∧ Left d S w (st.trip n keep) w' := by
  obtain ⟨⟨p, h⟩, ok⟩ := h
  obtain ⟨⟨_, _, _, _, c4, c5, c6⟩, hf⟩ := h.cells
  have f5 := hf 5
  have f6 := hf 6
  have HA := Lib.hid h
  obtain ⟨nn, hnn⟩ : ∃ nn : Nat, nn = n.toNat := ⟨_, rfl⟩
  have hmx : max n 0 = (nn : Int) := by rw [hnn]; omega
  have HNN := Lib.hid hnn
  have HOK := Lib.hid (ok.trip hn h1 h2)
  have g1 := h.armed nn
  have hp := Lib.hid (g1.1.keeps keep)
  have hk1 := Lib.hid g1.2
  clear h hf g1 hnn ok
  cases hoff : st.off with
  | true =>
    rw [hoff] at c4
    have HE : Hid (st.trip n keep = st) := by show _ = _; unfold St.trip; rw [if_pos hoff]
    clear hoff
    go_enter Try.func21, Try.ntmps21
    go_wp2
    refine bodyPost_ret (results_none rfl _ _ _) rfl ?_
    refine ⟨rfl, LeftA.left (q := Any) ?_ HOK.out⟩
    rw [HE.out]
    exact LeftA.refl (q := Any) trivial HA.out
  | false =>
    rw [hoff] at c4
    have HE : Hid (st.trip n keep = ⟨st.room, st.file, st.safe, st.off, nn, keep⟩) := by show _ = _; unfold St.trip; rw [if_neg (by rw [hoff]; decide), HNN.out]
    clear hoff
    go_enter Try.func21, Try.ntmps21
    go_wp2
    go_end0
    refine ⟨rfl, LeftA.left (q := Any) ?_ HOK.out⟩
    rw [HE.out]
    exact LeftA.of (q := Any) trivial hp.out.1 (hk1.out.trans hp.out.2)
set_option maxHeartbeats 2000000 in
theorem Sync_any (w : World) (d : Nat) (S : Nat → Prop) (st : St) (h : DAt w d S st) : Calls Try.prog 19 #[.pointer (some ⟨d, 0, none⟩)] w fun x w' => x = .returned (.int .i64 st.sync.2) ∧ Left d S w st.sync.1 w' := by
  obtain ⟨⟨p, h⟩, ok⟩ := h
  obtain ⟨⟨_, _, _, _, c4, _⟩, _⟩ := h.cells
  have HA := Lib.hid h
  have HOK := Lib.hid ok
  have HOK2 := Lib.hid ok.sync
  clear h ok
  cases hoff : st.off with
  | true =>
    rw [hoff] at c4
    have HE := Lib.hid (St.sync_off hoff)
    clear hoff
    go_enter Try.func19, Try.ntmps19
    go_wp2
    go_ret
    refine ⟨by rw [HE.out]; rfl, LeftA.left (q := Any) ?_ HOK2.out⟩
    rw [HE.out]
    exact LeftA.refl trivial HA.out
  | false =>
    rw [hoff] at c4
    by_cases harm : st.armed = 1
    · have HE := Lib.hid (St.sync_last hoff harm)
      have hD : decide (st.armed = 1) = true := decide_eq_true harm
      have hi : (if st.armed = 1 then st.gone st.keep else st.less) = st.gone st.keep := if_pos harm
      have hT := trips_any w d S p st HA.out HOK.out hoff
      unfold TripsPost at hT
      rw [hi, hD] at hT
      have HT := Lib.hid hT
      clear hoff harm hD hi hT
      go_enter Try.func19, Try.ntmps19
      go_wp2_with fail
      refine HT.out.mono ?_
      rintro x w1 ⟨rfl, h1⟩
      have H1 := Lib.hid h1
      clear h1
      go_wp2
      go_ret
      exact ⟨by rw [HE.out]; rfl, LeftA.left (q := Any) (by rw [HE.out]; exact H1.out) HOK2.out⟩
    · have HE := Lib.hid (St.sync_ok hoff harm)
      have hD : decide (st.armed = 1) = false := decide_eq_false harm
      have hi : (if st.armed = 1 then st.gone st.keep else st.less) = st.less := if_neg harm
      have hT := trips_any w d S p st HA.out HOK.out hoff
      unfold TripsPost at hT
      rw [hi, hD] at hT
      have HT := Lib.hid hT
      clear hoff harm hD hi hT
      go_enter Try.func19, Try.ntmps19
      go_wp2_with fail
      refine HT.out.mono ?_
      rintro x w1 ⟨rfl, S1, p1, hq, h1, k1, n1⟩
      obtain ⟨⟨_, _, e2, _⟩, hf⟩ := h1.cells
      have e2' : w1.cell? ⟨d, 2, none⟩ = some (.int .i64 st.file.length) := e2
      have f3 := hf 3
      have hp := h1.safes st.file.length
      have HL : Hid (LeftA Any d S w st.sync.1 (w1.setCell ⟨d, 3, none⟩ (.int .i64 st.file.length))) := by
        show LeftA _ _ _ _ _ _
        rw [HE.out]
        exact LeftA.next k1 n1 (LeftA.of hq hp.1 hp.2)
      clear hf hp h1 k1 n1 e2
      go_wp2
      go_ret
      exact ⟨by rw [HE.out]; rfl, HL.out.left HOK2.out⟩
set_option maxHeartbeats 4000000 in
theorem Replace_any (w : World) (d : Nat) (S : Nat → Prop) (st : St) (h : DAt w d S st) (b : Nat) (a : Option Addr) (cap : Nat) (l : List Nat) (hs : Src w b a cap l) (hb : l ≠ [] → ¬ S b) (h8 : B8 l) (hl : l.length ≤ 35184372088832) :
    Calls Try.prog 20 #[.pointer (some ⟨d, 0, none⟩), .slice a l.length cap] w fun x w' => x = .returned (.int .i64 (st.replace l).2) ∧ Left d S w (st.replace l).1 w' := by
  obtain ⟨⟨p, h⟩, ok⟩ := h
  obtain ⟨⟨c0, _, _, _, c4, _⟩, _⟩ := h.cells
  have HA := Lib.hid h
  have HOK := Lib.hid ok
  have HOK2 := Lib.hid (ok.replace h8)
  have HS := Lib.hid hs
  clear h ok hs
  cases hoff : st.off with
  | true =>
    rw [hoff] at c4
    have HE := Lib.hid (St.replace_off hoff l)
    clear hoff
    go_enter Try.func20, Try.ntmps20
    go_wp2
    go_ret
    refine ⟨by rw [HE.out]; rfl, LeftA.left (q := Any) ?_ HOK2.out⟩
    rw [HE.out]
    exact LeftA.refl trivial HA.out
  | false =>
    rw [hoff] at c4
    by_cases hfull : st.room < l.length
    · have d1 : decide (st.room < l.length) = true := decide_eq_true hfull
      have HE := Lib.hid (St.replace_full hoff hfull)
      clear hoff hfull
      go_enter Try.func20, Try.ntmps20
      go_wp2
      go_ret
      refine ⟨by rw [HE.out]; rfl, LeftA.left (q := Any) ?_ HOK2.out⟩
      rw [HE.out]
      exact LeftA.refl trivial HA.out
    · have d1 : decide (st.room < l.length) = false := decide_eq_false hfull
      by_cases harm : st.armed = 1
      · have HE := Lib.hid (St.replace_last hoff (b := l) (by omega) harm)
        have hD : decide (st.armed = 1) = true := decide_eq_true harm
        have hi : (if st.armed = 1 then st.gone st.keep else st.less) = st.gone st.keep := if_pos harm
        have hT := trips_any w d S p st HA.out HOK.out hoff
        unfold TripsPost at hT
        rw [hi, hD] at hT
        have HT := Lib.hid hT
        clear hoff harm hD hi hT hfull
        go_enter Try.func20, Try.ntmps20
        go_wp2_with fail
        refine HT.out.mono ?_
        rintro x w1 ⟨rfl, h1⟩
        have H1 := Lib.hid h1
        clear h1
        go_wp2
        go_ret
        exact ⟨by rw [HE.out]; rfl, LeftA.left (q := Any) (by rw [HE.out]; exact H1.out) HOK2.out⟩
      · have HE := Lib.hid (St.replace_ok hoff (b := l) (by omega) harm)
        have hD : decide (st.armed = 1) = false := decide_eq_false harm
        have hi : (if st.armed = 1 then st.gone st.keep else st.less) = st.less := if_neg harm
        have hT := trips_any w d S p st HA.out HOK.out hoff
        unfold TripsPost at hT
        rw [hi, hD] at hT
        have HT := Lib.hid hT
        clear hoff harm hD hi hT hfull
        go_enter Try.func20, Try.ntmps20
        go_wp2_with fail
        refine HT.out.mono ?_
        rintro x w1 ⟨rfl, S1, p1, _, h1, k1, n1⟩
        have HA1 := Lib.hid h1
        have HK1 := Lib.hid k1
        have HN1 := Lib.hid n1
        clear h1 k1 n1
        go_wp2_with fail
        refine (lay_any w1 d S1 p1 st.less HA1.out b a cap l l.length (HS.out.kept HK1.out hb) hl rfl).mono ?_
        rintro x w2 ⟨rfl, h2⟩
        have HL : Hid (LeftA Any d S w (st.replace l).1 w2) := by
          show LeftA _ _ _ _ _ _
          rw [HE.out]
          exact (LeftA.next HK1.out HN1.out h2).any
        clear h2
        go_wp2
        go_ret
        exact ⟨by rw [HE.out]; rfl, HL.out.left HOK2.out⟩
set_option maxHeartbeats 4000000 in
theorem Append_any (w : World) (d : Nat) (S : Nat → Prop) (st : St) (h : DAt w d S st) (b : Nat) (a : Option Addr) (cap : Nat) (l : List Nat) (hs : Src w b a cap l) (hb : l ≠ [] → ¬ S b) (h8 : B8 l) (_hl : l.length ≤ 35184372088832) :
    Calls Try.prog 24 #[.pointer (some ⟨d, 0, none⟩), .slice a l.length cap] w fun x w' => x = .returned (.int .i64 (st.append l).2) ∧ Left d S w (st.append l).1 w' := by
  obtain ⟨⟨p, h⟩, ok⟩ := h
  obtain ⟨⟨c0, _, c2, _, c4, _⟩, _⟩ := h.cells
  have HA := Lib.hid h
  have HOK := Lib.hid ok
  have HOK2 := Lib.hid (ok.append h8)
  have HS := Lib.hid hs
  have b0 : st.room ≤ 65536 := ok.room
  have b1 : st.file.length ≤ st.room := ok.fits
  clear h ok hs
  cases hoff : st.off with
  | true =>
    rw [hoff] at c4
    have HE := Lib.hid (St.append_off hoff l)
    clear hoff
    go_enter Try.func24, Try.ntmps24
    go_wp2
    go_ret
    refine ⟨by rw [HE.out]; rfl, LeftA.left (q := Any) ?_ HOK2.out⟩
    rw [HE.out]
    exact LeftA.refl trivial HA.out
  | false =>
    rw [hoff] at c4
    by_cases hfull : st.room < st.file.length + l.length
    · have d1 : decide ((st.room : Int) - (st.file.length : Int) < (l.length : Int)) = true := decide_eq_true (by omega)
      have HE := Lib.hid (St.append_full hoff hfull)
      clear hoff hfull
      go_enter Try.func24, Try.ntmps24
      go_wp2
      go_quiet (fail)
      go_wp2
      go_ret
      refine ⟨by rw [HE.out]; rfl, LeftA.left (q := Any) ?_ HOK2.out⟩
      rw [HE.out]
      exact LeftA.of (q := Any) trivial (HA.out.heap' (n := nq) rfl) ((Kept.refl _ _).drewN nq)
    · have d1 : decide ((st.room : Int) - (st.file.length : Int) < (l.length : Int)) = false := decide_eq_false (by omega)
      have hsum : st.file.length + l.length ≤ 65536 := by omega
      have HF : Hid ((st.with_ (st.file ++ l) st.safe).Ok) := HOK.out.with_ hoff (by rw [List.length_append]; omega) (by rw [List.length_append]; have := HOK.out.safe; omega) (HOK.out.b8.append h8)
      by_cases harm : st.armed = 1
      case' pos =>
        have HE := Lib.hid (St.append_last hoff (b := l) (by omega) harm)
        have hD : decide (st.armed = 1) = true := decide_eq_true harm
        have hi : (if st.armed = 1 then (st.with_ (st.file ++ l) st.safe).gone st.keep else (st.with_ (st.file ++ l) st.safe).less) = (st.with_ (st.file ++ l) st.safe).gone st.keep := if_pos harm
      case' neg =>
        have HE := Lib.hid (St.append_ok hoff (b := l) (by omega) harm)
        have hD : decide (st.armed = 1) = false := decide_eq_false harm
        have hi : (if st.armed = 1 then (st.with_ (st.file ++ l) st.safe).gone st.keep else (st.with_ (st.file ++ l) st.safe).less) = (st.with_ (st.file ++ l) st.safe).less := if_neg harm
      all_goals
        have hT := fun (v : World) (S' : Nat → Prop) (p' : Option Addr) (hA : At v d S' p' (st.with_ (st.file ++ l) st.safe)) => trips_any v d S' p' _ hA HF.out hoff
        unfold TripsPost at hT
        rw [show (st.with_ (st.file ++ l) st.safe).armed = st.armed from rfl, show (st.with_ (st.file ++ l) st.safe).keep = st.keep from rfl, hi, hD] at hT
        have HT := Lib.hid hT
        clear hoff harm hD hi hT hfull
        go_enter Try.func24, Try.ntmps24
        go_wp2
        go_quiet (fail)
        obtain ⟨W, hW⟩ : ∃ W, W = w.drewN nq := ⟨_, rfl⟩
        rw [← hW]
        have HA1 := Lib.hid (HA.out.heap' hW)
        have HK1 : Hid (Kept None w W) := by rw [hW]; exact (Kept.refl _ _).drewN _
        clear hW c0 c2 c4
        go_wp2_with fail
        refine (add_any W d S p st HA1.out b a cap l (HS.out.kept HK1.out (fun _ h => h)) (by omega) hb).mono ?_
        rintro x w1 ⟨rfl, S1, p1, _, h1, k1, n1⟩
        have H1 := Lib.hid h1
        have K1 : Hid (Kept S w w1) := (Kept.ofNone (S := S) HK1.out).trans k1
        have N1 : Hid (∀ k, S1 k → S k ∨ w.heap.size ≤ k) := fun k hk => (n1 k hk).imp (fun h => h) (fun h => by have := HK1.out.size; omega)
        clear h1 k1 n1
        go_wp2_with fail
        refine (HT.out w1 S1 p1 H1.out).mono ?_
        rintro x w2 ⟨rfl, h2⟩
        have HL : Hid (LeftA Any d S w (st.append l).1 w2) := by
          show LeftA _ _ _ _ _ _
          rw [HE.out]
          exact LeftA.next K1.out N1.out h2
        clear h2
        go_wp2
        go_ret
        exact ⟨by rw [HE.out]; rfl, HL.out.left HOK2.out⟩
end Go.Proofs.Ytaogpchjkbcjoaa.Dk
