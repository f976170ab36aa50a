/- DiskExact's walk. -/
import Derived.Test.YtaogpchjkbcjoaaDo4
import Derived.Deep.Quiet
import Derived.Deep.QuietTactic
namespace Go.Proofs.Ytaogpchjkbcjoaa.Dk
open Go Go.RowKit Mem Kp
/-- what is left of a region that draws its order, if it only reads: one walk, in the text's order -/
theorem wpAny_rest {P : Program} {md : Region.Mode} {ops : Array Oper} {Q : Exit → Act → World → Prop} {a : Act} {w : World} {listed : Array Bool} (l : List Oper) (k n : Nat) (hn : l.length = n) (hl : ops.toList.drop k = l) (hs : Region.noSelect ops = true) (hB : Region.lexFrom md ops n k listed = true)
    (h : wpQuiet P ops (fun w' => ∃ n, w' = w.drewN n) (fun a' => ∀ w', (∃ n, w' = w.drewN n) → Q .normal a' w') l a) : wpAny P md ops Q n listed a w := by
  subst hn
  refine wpAny_of_quiet (C := fun w' => ∃ n, w' = w.drewN n) (Q := fun a' => ∀ w', (∃ n, w' = w.drewN n) → Q .normal a' w') (fun _ w' hw' h => h w' hw') _ _ _ _ ⟨0, rfl⟩ (wpAnyQ_lex hs l k listed a (fun j => ?_) hB h)
  rw [← hl, List.getElem?_drop, Array.getElem?_toList]
theorem Bo.same {w wr w' : World} {d r f : Nat} {a : Option Addr} {c : Nat} {st : St} (h : Bo w wr d r f a c st) (hk : Kept None wr w') : Bo w w' d r f a c st := ⟨h.own.same hk, h.ref.same hk, h.lo⟩
/-- what was read, new, is spoilt -/
theorem Bo.spoil {w w5 w6 w7 w8 : World} {d r f : Nat} {a : Option Addr} {c : Nat} {st : St} (h : Bo w w5 d r f a c st) (k6 : Kept None w5 w6) {b : Nat} {a6 : Option Addr} {c6 : Nat} {l : List Nat} (ho : OwnB 5 w6 b a6 c6 l) (hb : w5.heap.size ≤ b) (k7 : Kept None w6 w7) (k8 : Kept (Of a6 b) w7 w8) : Bo w w8 d r f a c st := by
  have k57 := k6.trans k7
  have s6 := k6.size
  have s7 := k7.size
  have s8 := k8.size
  have hz := h.own.kept.size
  have hr := lt_of_heap h.ref.heap
  have h7 : Own w w7 (fun k => RX r f st.file k ∨ Of a6 b k) d st := h.own.on k57 (fun _ h => h.elim) _ (fun k hk => by
    rcases hk with e | e
    · refine ⟨.inl e, ?_⟩
      rcases e with e | ⟨hn, e⟩
      · omega
      · have := h.ref.file.lt hn; omega
    · rw [e.2]; exact ⟨.inr hb, by have := ho.lt e.1; omega⟩)
  refine ⟨h7.on k8 (fun k e => ⟨.inr e, by rw [e.2]; omega⟩) _ (fun k e => ⟨.inl (.inl e), ?_⟩), (h.ref.same k57).kept k8 (fun e => by have := e.2; omega) (fun hn e => by have := h.ref.file.lt hn; have := e.2; omega), h.lo⟩
  rcases e with e | ⟨hn, e⟩
  · omega
  · have := h.ref.file.lt hn; omega
theorem bool_same (b : Bool) : (b != b) = false := by cases b <;> rfl
theorem agg_ok {w : World} {x : Ac} (h : x.ok w) : x.ok w := h
set_option maxHeartbeats 16000000 in
set_option maxRecDepth 100000 in
theorem DiskExact_any (room : Int) (a : Option Addr) (cap : Nat) (L : List Ac) (w : World) (h : Acts w a L) (hr0 : -9223372036854775808 ≤ room) (hr1 : room ≤ 9223372036854775807) :
    Calls Try.prog 3 #[.int .i64 room, .slice a L.length cap] w fun e w' => e = .returned (.bool true) ∧ Kept None w w' := by
  have HL := Lib.hid h
  have hLl := h.2.1
  have HH := Lib.hid (heavy_any a cap L w h)
  clear h
  cases hh : heavyB L with
  | true =>
    rw [hh] at HH
    clear hh
    go_enter Try.func3, Try.ntmps3
    go_wp2_with fail
    refine HH.out.mono ?_
    rintro x w' ⟨rfl, rfl⟩
    go_wp2
    go_ret
    exact ⟨rfl, Kept.refl _ _⟩
  | false =>
    obtain ⟨hl1, hl2⟩ := heavy_no hh
    have HL2 := Lib.hid hl2
    rw [hh] at HH
    clear hh hl2
    by_cases hbad : room < 0 ∨ 65536 < room
    · have hb : (decide (room < 0) = true) ∨ (decide (room < 0) = false ∧ decide (65536 < room) = true) := by
        by_cases h0 : room < 0
        · exact .inl (decide_eq_true h0)
        · exact .inr ⟨decide_eq_false h0, decide_eq_true (hbad.resolve_left h0)⟩
      have HN := Lib.hid (New_bad room hbad w)
      clear hbad
      rcases hb with d1 | ⟨d1, d2⟩
      all_goals
        go_enter Try.func3, Try.ntmps3
        go_wp2_with fail
        refine HH.out.mono ?_
        rintro x w' ⟨rfl, rfl⟩
        go_wp2_with fail
        refine HN.out.mono ?_
        rintro x w1 ⟨rfl, hk1⟩
        have HK1 := Lib.hid hk1
        clear hk1
        go_wp2_with fail
        refine (wakes_any _).mono ?_
        rintro x w12 ⟨rfl, hk12⟩
        have HK := Lib.hid (HK1.out.trans hk12)
        clear hk12
        go_wp2
        go_ret
        exact ⟨rfl, HK.out⟩
    · obtain ⟨m, rfl⟩ : ∃ m : Nat, room = (m : Int) := ⟨room.toNat, by omega⟩
      have hm : m ≤ 65536 := by omega
      have d1 : decide ((m : Int) < 0) = false := decide_eq_false (by omega)
      have d2 : decide ((65536 : Int) < (m : Int)) = false := decide_eq_false (by omega)
      have d2' : decide (65536 < m) = false := decide_eq_false (by omega)
      clear hbad hr0 hr1
      go_enter Try.func3, Try.ntmps3
      go_wp2_with fail
      refine HH.out.mono ?_
      rintro x w' ⟨rfl, rfl⟩
      go_wp2_with fail
      refine (New_own w w (Kept.refl _ _) m hm None none_lt).mono ?_
      rintro x w1 ⟨d, rfl, h1, _⟩
      have hz1 := h1.kept.size
      obtain ⟨w2, hw2⟩ : ∃ W, W = w1.alloc (.cells #[.int .i64 (m : Int), .slice none 0 0, .int .i64 0, .bool false, .int .i64 0, .int .i64 0] 32) := ⟨_, rfl⟩
      have H2 : Hid (Bo w w2 d w1.heap.size 0 none 0 (St.new m)) := by
        have k12 : Kept None w1 w2 := by rw [hw2]; exact (Kept.refl _ _).alloc _
        have hh : w2.heap[w1.heap.size]? = some (.cells (rcells (St.new m) none 0) 32 (0, 0)) := by rw [hw2]; exact heap_alloc_new w1 _
        refine ⟨(h1.add k12 w1.heap.size (Nat.le_refl _) (lt_of_heap hh)).drop (fun k hk => ?_), ⟨hh, .inl ⟨Nat.le_refl _, by decide, .inl ⟨rfl, rfl, rfl⟩⟩, fun hn => absurd rfl hn⟩, hz1⟩
        rcases hk with e | ⟨hn, _⟩
        · exact .inr e
        · exact absurd rfl hn
      clear h1 hz1
      go_wp2
      rw [← hw2]
      clear hw2
      go_loopw [8] (fun i wr => ∃ (k f c : Nat) (a : Option Addr) (st : St), k ≤ L.length ∧ k ≤ 300 ∧ i = .int .i64 k ∧ Hid (Bo w wr d w1.heap.size f a c st)) (fun i _ => 300 - (intOf i).toNat)
      case atStart => exact ⟨0, 0, 0, none, _, by omega, by omega, rfl, H2.out⟩
      case round =>
        obtain ⟨k, f, c, af, st, hk, hk3, rfl, hw⟩ := hrel
        by_cases hlt : k < L.length ∧ k < 300
        · obtain ⟨hlt, hlt3⟩ := hlt
          obtain ⟨b, off, rfl, hc⟩ := HL.out.2.2 (by omega)
          obtain ⟨c0, c1, c2, c3⟩ := (hc k hlt).kept hw.out.own.kept
          have hok := HL.out.get hlt
          have htl := HL2.out k hlt3 hlt
          clear hc
          generalize L.getD k Ac.none = x at *
          obtain ⟨D, N, K, tb, ta, tc, t⟩ := x
          have HX := Lib.hid hok
          simp only at c0 c1 c2 c3 htl
          have f1 : decide ((k : Int) < (L.length : Int)) = true := decide_eq_true (by omega)
          have f1' : decide (k < L.length) = true := decide_eq_true hlt
          have f2 : decide ((k : Int) < 300) = true := decide_eq_true (by omega)
          have f2' : decide (k < 300) = true := decide_eq_true hlt3
          have hdo : ∀ v : World, Kept None wr v → Calls Try.prog 13 #[.pointer (some ⟨d, 0, none⟩), .pointer (some ⟨w1.heap.size, 0, none⟩), .agg #[.int .i64 D, .int .i64 N, .int .i64 K, .slice ta t.length tc]] v fun e w' => e = .returned (.bool true) ∧ ∃ f' a' c' st', Bo w w' d w1.heap.size f' a' c' st' := fun v hv => do_any w v d w1.heap.size f af c st (hw.out.same hv) ⟨D, N, K, tb, ta, tc, t⟩ HX.out htl
          have HDO := Lib.hid hdo
          clear hok hdo hw
          go_wp2
          refine wp_region_any (by kernel_rfl) ?_
          change wpAny _ _ _ _ _ _ _ (World.drew _)
          refine wpAny_take (i := 0) (v := ?_) rfl (by kernel_rfl) (by kernel_rfl) (by kernel_rfl) (fun _ _ _ h => h) (Or.inl ⟨by rfl, ?_⟩) ?_
          rotate_left
          · intro w
            go_simp
            try with_reducible rfl
          refine wpAny_take (i := 1) (v := ?_) rfl (by kernel_rfl) (by kernel_rfl) (by kernel_rfl) (fun _ _ _ h => h) (Or.inl ⟨by rfl, ?_⟩) ?_
          rotate_left
          · intro w
            go_simp
            try with_reducible rfl
          refine wpAny_take (i := 2) (v := ?_) rfl (by kernel_rfl) (by kernel_rfl) (by kernel_rfl) (fun _ _ _ h => h) (Or.inl ⟨by rfl, ?_⟩) ?_
          rotate_left
          · intro w
            go_simp
            try with_reducible rfl
          refine wpAny_take (i := 3) (v := ?_) rfl (by kernel_rfl) (by kernel_rfl) (by kernel_rfl) (fun _ _ _ h => h) (Or.inl ⟨by rfl, ?_⟩) ?_
          rotate_left
          · intro w
            go_simp
            try with_reducible rfl
          go_simp
          refine wpAny_ready (rs := [4]) (by kernel_rfl) (by simp) ?_
          refine AllReady.cons rfl (fun K hK => ?_) AllReady.nil
          go_simp
          refine hK _ _ ?_
          clear hK K
          refine wpAny_ready (rs := [5]) (by kernel_rfl) (by simp) ?_
          refine AllReady.cons rfl (fun K hK => ?_) AllReady.nil
          go_simp
          refine hK _ _ ?_
          clear hK K
          refine wpAny_ready (rs := [6]) (by kernel_rfl) (by simp) ?_
          refine AllReady.cons rfl (fun K hK => ?_) AllReady.nil
          go_simp
          refine Calls.mono (HDO.out _ (by exact (Kept.refl _ _).drew)) ?_
          rintro x w5 ⟨rfl, f', a', c', st', hbo⟩
          have HBO := Lib.hid hbo
          refine hK _ _ ?_
          clear hK K hbo c0 c1 c2 c3 HDO HX
          obtain ⟨⟨_, e1, _, e3, _, _⟩, _⟩ := HBO.out.ref.cells
          have hoff : ∀ n : Nat, Calls Try.prog 14 #[.pointer (some ⟨d, 0, none⟩)] (w5.drewN n) fun x w' => x = .returned (.bool st'.off) ∧ w' = w5.drewN n := fun n => (Off_own w _ _ d st' (HBO.out.own.same ((Kept.refl _ _).drewN n))).mono fun _ _ ⟨h1, h2⟩ => ⟨h1, h2.symm⟩
          have hsize : ∀ n : Nat, Calls Try.prog 15 #[.pointer (some ⟨d, 0, none⟩)] (w5.drewN n) fun x w' => x = .returned (.int .i64 st'.file.length) ∧ w' = w5.drewN n := fun n => (Size_own w _ _ d st' (HBO.out.own.same ((Kept.refl _ _).drewN n))).mono fun _ _ ⟨h1, h2⟩ => ⟨h1, h2.symm⟩
          have HOFF := Lib.hid hoff
          have HSIZE := Lib.hid hsize
          have hfl : st'.file.length ≤ 65536 := by have := HBO.out.own.ok.fits; have := HBO.out.own.ok.room; omega
          obtain ⟨so, hso⟩ : ∃ so, so = st'.off := ⟨_, rfl⟩
          obtain ⟨n, hn⟩ : ∃ n, n = st'.file.length := ⟨_, rfl⟩
          rw [← hso] at e3 hoff HOFF
          rw [← hn] at e1 hsize HSIZE hfl
          have HSO := Lib.hid hso
          have HN := Lib.hid hn
          have hbb := bool_same so
          have hnn := same_ne (n : Int)
          clear hoff hsize hso hn
          refine wpAny_rest _ 7 20 rfl rfl (by kernel_rfl) (by kernel_rfl) ?_
          simp only [List.drop_succ_cons, List.drop_zero]
          repeat (quiet_step ((first | (go_at_call 14; exact Calls.quiet_of_same (HOFF.out _)) | (go_at_call 15; exact Calls.quiet_of_same (HSIZE.out _)))))
          refine wpQuiet_nil ?_
          intro _ hw'
          obtain ⟨nq, rfl⟩ := hw'
          obtain ⟨w6, hW⟩ : ∃ W, W = w5.drewN nq := ⟨_, rfl⟩
          rw [← hW]
          have k56 : Kept None w5 w6 := by rw [hW]; exact (Kept.refl _ _).drewN nq
          have HB6 := Lib.hid (HBO.out.same k56)
          obtain ⟨⟨_, g1, _, g3, _, _⟩, _⟩ := HB6.out.ref.cells
          rw [← HSO.out] at g3
          rw [← HN.out] at g1
          clear hW k56 e1 e3 HOFF HSIZE
          cases so
          · go_wp2_with fail
            refine (Read_own w w6 _ d st' HB6.out.own HSO.out.symm).mono ?_
            rintro x w7 ⟨b7, a7, c7, rfl, ho7, hb7, _, hk7⟩
            have HO7 := Lib.hid ho7
            have HB7 := Lib.hid (HB6.out.same hk7)
            have HK7 := Lib.hid hk7
            obtain ⟨⟨_, q1, _, q3, _, _⟩, _⟩ := HB7.out.ref.cells
            rw [← HSO.out] at q3
            rw [← HN.out] at q1
            rw [← HN.out]
            clear ho7 hk7 g1 g3
            go_wp2_with fail
            have hcmp := KBytes_any b7 a7 c7 st'.file f' a' c' st'.file w7 HO7.out.src HB7.out.ref.file (by rw [← HN.out]; omega) (by rw [← HN.out]; omega)
            rw [← HN.out] at hcmp
            refine hcmp.mono ?_
            clear hcmp
            rintro x w8 ⟨rfl, n8, rfl⟩
            rw [same_refl]
            obtain ⟨w8, hW⟩ : ∃ W, W = w7.drewN n8 := ⟨_, rfl⟩
            rw [← hW]
            have k78 : Kept None w7 w8 := by rw [hW]; exact (Kept.refl _ _).drewN n8
            have HK8 := Lib.hid k78
            have HO8 : Hid (OwnB 5 w8 b7 a7 c7 st'.file) := HO7.out.kept k78 (fun _ h => h)
            clear hW k78
            go_wp2_with fail
            have hsp := Spoil_any b7 a7 c7 st'.file w8 HO8.out (by rw [← HN.out]; omega)
            rw [← HN.out] at hsp
            refine hsp.mono ?_
            clear hsp
            rintro x w9 ⟨rfl, l', _, _, hk9⟩
            have HB9 := Lib.hid (HB6.out.spoil HK7.out HO7.out hb7 HK8.out hk9)
            clear hk9
            go_wp2
            go_roundw
            case rel => exact ⟨k + 1, f', c', a', st', by omega, by omega, by go_num, HB9.out⟩
            case measure => simp [intOf]; omega
          · go_wp2_with fail
            refine (Read_own_off w w6 _ d st' HB6.out.own HSO.out.symm).mono ?_
            rintro x w7 ⟨rfl, _, hk7⟩
            have HB7 := Lib.hid (HB6.out.same hk7)
            obtain ⟨⟨_, q1, _, q3, _, _⟩, _⟩ := HB7.out.ref.cells
            rw [← HSO.out] at q3
            clear hk7 g1 g3
            go_wp2
            go_roundw
            case rel => exact ⟨k + 1, f', c', a', st', by omega, by omega, by go_num, HB7.out⟩
            case measure => simp [intOf]; omega
        · have hstop : (decide ((k : Int) < (L.length : Int)) = false ∧ decide (k < L.length) = false) ∨ (decide ((k : Int) < (L.length : Int)) = true ∧ decide (k < L.length) = true ∧ decide ((k : Int) < 300) = false ∧ decide (k < 300) = false) := by
            by_cases h1 : k < L.length
            · exact .inr ⟨decide_eq_true (by omega), decide_eq_true h1, decide_eq_false (by omega), decide_eq_false (by omega)⟩
            · exact .inl ⟨decide_eq_false (by omega), decide_eq_false h1⟩
          clear hlt
          have HK := Lib.hid hw.out.own.kept
          clear hw
          rcases hstop with ⟨e1, e2⟩ | ⟨e1, e2, e3, e4⟩
          all_goals
            go_wp2_with fail
            refine (wakes_any _).mono ?_
            rintro x w12 ⟨rfl, hk12⟩
            have HKE := Lib.hid (HK.out.trans hk12)
            clear hk12
            go_wp2
            go_ret
            exact ⟨rfl, HKE.out⟩
end Go.Proofs.Ytaogpchjkbcjoaa.Dk
