/- DiskReads' walk. -/
import Derived.Test.YtaogpchjkbcjoaaFull4
import Derived.Test.YtaogpchjkbcjoaaOpenF
namespace Go.Proofs.Ytaogpchjkbcjoaa.Dk
open Go Go.RowKit Mem Kp
/-- what is to be read so far -/
structure Rd (w wr : World) (d : Nat) (b : Nat) (a : Option Addr) (cap : Nat) (W : List Nat) (sf : Nat) : Prop where
  disk : Own w wr (Of a b) d ⟨65536, W, sf, false, 0, 0⟩
  want : OwnB 5 wr b a cap W
  lo : w.heap.size ≤ b
theorem Rd.b8 {w wr : World} {d b : Nat} {a : Option Addr} {cap : Nat} {W : List Nat} {sf : Nat} (h : Rd w wr d b a cap W sf) : B8 W := h.disk.ok.b8
theorem Rd.same {w wr w' : World} {d b : Nat} {a : Option Addr} {cap : Nat} {W : List Nat} {sf : Nat} (h : Rd w wr d b a cap W sf) (hk : Kept None wr w') : Rd w w' d b a cap W sf := ⟨h.disk.same hk, h.want.kept hk (fun _ h => h), h.lo⟩
theorem Rd.append {w w3 w4 : World} {d b b4 : Nat} {a a4 : Option Addr} {c4 : Nat} {W2 l : List Nat} {sf : Nat} (h : Own w w3 (Of a b) d ⟨65536, W2, sf, false, 0, 0⟩) (lo : w.heap.size ≤ b) (e : l = W2) (h2 : OwnB 5 w4 b4 a4 c4 l) (h3 : Kept (Of a b) w3 w4) (h4 : (b4 = b ∧ (a4 = none ∨ a ≠ none)) ∨ w3.heap.size ≤ b4) : ∃ b5, Rd w w4 d b5 a4 c4 W2 sf := by
  subst e
  have hsz := h.kept.size
  by_cases hn : a4 = none
  · subst hn
    exact ⟨w.heap.size, h.on h3 (fun k hk => ⟨hk, by rw [hk.2]; exact lo⟩) _ (fun k hk => absurd rfl hk.1), h2.move _, Nat.le_refl _⟩
  · have hlt := h2.lt hn
    refine ⟨b4, h.on h3 (fun k hk => ⟨hk, by rw [hk.2]; exact lo⟩) _ (fun k hk => ⟨?_, by rw [hk.2]; exact hlt⟩), h2, ?_⟩
    · rw [hk.2]
      rcases h4 with ⟨rfl, h4⟩ | h4
      · exact .inl ⟨h4.resolve_left hn, rfl⟩
      · exact .inr h4
    · rcases h4 with ⟨rfl, _⟩ | h4
      · exact lo
      · omega
theorem Rd.anew {w w3 w4 : World} {d b4 : Nat} {X : Nat → Prop} {a4 : Option Addr} {c4 : Nat} {W2 : List Nat} {sf : Nat} (h : Own w w3 X d ⟨65536, W2, sf, false, 0, 0⟩) (h2 : OwnB 5 w4 b4 a4 c4 W2) (h3 : Kept None w3 w4) (h4 : w3.heap.size ≤ b4) : Rd w w4 d b4 a4 c4 W2 sf :=
  ⟨h.on h3 (fun _ h => h.elim) _ (fun k hk => by rw [hk.2]; exact ⟨.inr h4, h2.lt hk.1⟩), h2, Nat.le_trans h.kept.size h4⟩
theorem Rd.read {w wr : World} {d b n : Nat} {a : Option Addr} {cap : Nat} {W : List Nat} {sf : Nat} (h : Rd w wr d b a cap W sf) (hl : W.length = n) :
    Calls Try.prog 16 #[.pointer (some ⟨d, 0, none⟩)] wr fun x w' => ∃ b6 a6 c6, x = .returned (.tuple #[.slice a6 n c6, .int .i64 0]) ∧ OwnB 5 w' b6 a6 c6 W ∧ Rd w w' d b a cap W sf := by
  subst hl
  exact (Read_own w wr _ d _ h.disk rfl).mono fun x w' ⟨b6, a6, c6, hx, ho, _, _, hk⟩ => ⟨b6, a6, c6, hx, ho, h.same hk⟩
theorem Rd.size {w wr : World} {d b n : Nat} {a : Option Addr} {cap : Nat} {W : List Nat} {sf : Nat} (h : Rd w wr d b a cap W sf) (hl : W.length = n) :
    Calls Try.prog 15 #[.pointer (some ⟨d, 0, none⟩)] wr fun x w' => x = .returned (.int .i64 n) ∧ wr = w' := by
  subst hl
  exact Size_own w wr _ d _ h.disk
theorem Rd.still {w wr : World} {d b : Nat} {a : Option Addr} {cap : Nat} {W : List Nat} {sf : Nat} (h : Rd w wr d b a cap W sf) :
    Calls Try.prog 14 #[.pointer (some ⟨d, 0, none⟩)] wr fun x w' => x = .returned (.bool false) ∧ wr = w' := Off_own w wr _ d _ h.disk
theorem not_of {a : Option Addr} {b : Nat} : a ≠ none → ¬ Not (Of a b) b := fun h e => e ⟨h, rfl⟩
set_option maxHeartbeats 16000000 in
set_option maxRecDepth 100000 in
theorem DiskReads_any (a : Option Addr) (cap : Nat) (R : List Row) (aa : Option Addr) (ca : Nat) (A : List Bool) (as_ : Option Addr) (cs : Nat) (S : List Bool) (w : World) (h : RowsAt w a cap R) (hR : R.length ≤ 9223372036854775807) (hrl : ∀ l ∈ bytesOf R, l.length ≤ 9223372036854775807) (hr8 : ∀ l ∈ bytesOf R, B8 l)
    (hA : BoolsAt w aa ca A) (hAl : A.length ≤ 9223372036854775807) (hS : BoolsAt w as_ cs S) (hSl : S.length ≤ 9223372036854775807) :
    Calls Try.prog 9 #[.slice a R.length cap, .slice aa A.length ca, .slice as_ S.length cs] w fun e w' => e = .returned (.bool true) ∧ Kept None w w' := by
  obtain ⟨i0, hi, hz0, hz1, hz2⟩ := info_parts infoU8
  have HR := Lib.hid h
  have HR8 := Lib.hid hr8
  have HRL := Lib.hid hrl
  have HA := Lib.hid hA
  have HS := Lib.hid hS
  have BL : Hid ((bytesOf R).length = R.length) := by show _ = _; simp [bytesOf]
  clear h hr8 hrl hA hS
  by_cases hb1 : 300 < R.length
  · have d1 : decide (300 < R.length) = true := by simpa using hb1
    have d1' : decide ((300 : Int) < (R.length : Int)) = true := decide_eq_true (by omega)
    go_enter Try.func9, Try.ntmps9
    go_wp2
    go_ret
    exact ⟨rfl, Kept.refl _ _⟩
  · have d1 : decide (300 < R.length) = false := by simpa using hb1
    have d1' : decide ((300 : Int) < (R.length : Int)) = false := decide_eq_false (by omega)
    by_cases hb2 : 300 < A.length
    · have d2 : decide (300 < A.length) = true := by simpa using hb2
      have d2' : decide ((300 : Int) < (A.length : Int)) = true := decide_eq_true (by omega)
      go_enter Try.func9, Try.ntmps9
      go_wp2
      go_ret
      exact ⟨rfl, Kept.refl _ _⟩
    · have d2 : decide (300 < A.length) = false := by simpa using hb2
      have d2' : decide ((300 : Int) < (A.length : Int)) = false := decide_eq_false (by omega)
      by_cases hb3 : 300 < S.length
      · have d3 : decide (300 < S.length) = true := by simpa using hb3
        have d3' : decide ((300 : Int) < (S.length : Int)) = true := decide_eq_true (by omega)
        go_enter Try.func9, Try.ntmps9
        go_wp2
        go_ret
        exact ⟨rfl, Kept.refl _ _⟩
      · have d3 : decide (300 < S.length) = false := by simpa using hb3
        have d3' : decide ((300 : Int) < (S.length : Int)) = false := decide_eq_false (by omega)
        have hRl : R.length ≤ 300 := by omega
        have hAl' : A.length ≤ 300 := by omega
        have hSl' : S.length ≤ 300 := by omega
        clear hb1 hb2 hb3
        go_enter Try.func9, Try.ntmps9
        go_wp2_with fail
        refine (New_own w w (Kept.refl _ _) 65536 (by decide) None none_lt).mono ?_
        rintro x w1 ⟨d, rfl, h1, _⟩
        have H1 : Hid (Rd w w1 d w.heap.size none 0 [] 0) := ⟨h1.drop (fun _ h => absurd rfl h.1), OwnB.nil _ _ _, Nat.le_refl _⟩
        clear h1
        go_wp2
        go_loopw [9, 10] (fun v i wr => ∃ (k b n c : Nat) (a : Option Addr) (W : List Nat) (sf : Nat), k ≤ R.length ∧ n ≤ 200 * k ∧ i = .int .i64 k ∧ v = .slice a n c ∧ Hid (W.length = n ∧ Rd w wr d b a c W sf)) (fun _ i _ => R.length - (intOf i).toNat)
        case atStart => exact ⟨0, w.heap.size, 0, 0, none, [], 0, by omega, by omega, rfl, rfl, rfl, H1.out⟩
        case round =>
          obtain ⟨k, b, n, c, aw, W, sf, hk, hn, rfl, rfl, hw⟩ := hrel
          by_cases hlt : k < R.length
          · obtain ⟨br, o1, bi, ai, ci, rfl, dc, s1⟩ := HR.out.at_ k hlt
            have dcr : wr.cell? ⟨br, o1 + k, none⟩ = some (.slice ai ((bytesOf R).getD k []).length ci) := (hw.out.2.disk.kept.cell (p := ⟨br, o1 + k, none⟩) (World.block_lt_of_cell? w _ dc) (fun h => h)).trans dc
            have hmem : (bytesOf R).getD k [] ∈ bytesOf R := by
              have hkL : k < (bytesOf R).length := by rw [BL.out]; exact hlt
              have e : (bytesOf R).getD k [] = (bytesOf R)[k] := by simp [hkL]
              rw [e]; exact List.getElem_mem hkL
            have h8y := Lib.hid (HR8.out _ hmem)
            have hyl := HRL.out _ hmem
            have S0 := Lib.hid s1
            have DC := Lib.hid dc
            clear s1 hmem dc
            generalize (bytesOf R).getD k [] = y at *
            by_cases hlong : 200 < y.length
            · have d4 : decide (200 < y.length) = true := by simpa using hlong
              have d4' : decide ((200 : Int) < (y.length : Int)) = true := decide_eq_true (by omega)
              clear hlong
              go_wp2
              go_ret
              exact ⟨rfl, hw.out.2.disk.kept⟩
            · have d4 : decide (200 < y.length) = false := by simpa using hlong
              have d4' : decide ((200 : Int) < (y.length : Int)) = false := decide_eq_false (by omega)
              have hy2 : y.length ≤ 200 := by omega
              clear hlong
              -- put anew, or appended
              have hanew : (decide (k < A.length) = false ∧ decide ((k : Int) < (A.length : Int)) = false) ∨ (k < A.length ∧ ∃ b o q, aa = some ⟨b, o, none⟩ ∧ wr.cell? ⟨b, o + k, none⟩ = some (.bool q)) := by
                by_cases hA : k < A.length
                · obtain ⟨b, o, e1, e2⟩ := (HA.out.kept hw.out.2.disk.kept).at_ k hA
                  exact .inr ⟨hA, b, o, _, e1, e2⟩
                · exact .inl ⟨decide_eq_false hA, decide_eq_false (by omega)⟩
              have hsync : (decide (k < S.length) = false ∧ decide ((k : Int) < (S.length : Int)) = false) ∨ (k < S.length ∧ ∃ b o q, as_ = some ⟨b, o, none⟩ ∧ w.cell? ⟨b, o + k, none⟩ = some (.bool q)) := by
                by_cases hS : k < S.length
                · obtain ⟨b, o, e1, e2⟩ := HS.out.at_ k hS
                  exact .inr ⟨hS, b, o, _, e1, e2⟩
                · exact .inl ⟨decide_eq_false hS, decide_eq_false (by omega)⟩
              have HSY := Lib.hid hsync
              clear hsync
              have hk1 : n + y.length ≤ 200 * (k + 1) := by omega
              have hk2 : y.length ≤ 200 * (k + 1) := by omega
              rcases hanew with ⟨p1, p2⟩ | ⟨p1, ba, oa, q, rfl, hq⟩
              case' inr => cases q
              case' inr.true =>
                go_wp2_with fail
                refine (Replace_own w wr _ d _ hw.out.2.disk bi ai ci y (S0.out.kept hw.out.2.disk.kept (fun _ h => h)) (fun h => .inl (S0.out.lt h)) h8y.out (by omega)).mono ?_
                rw [st_replace (by omega)]
                rintro x w3 ⟨rfl, h3, _⟩
                have H3 := Lib.hid h3
                clear h3
                have dc3 : w3.cell? ⟨br, o1 + k, none⟩ = some (.slice ai y.length ci) := (H3.out.kept.cell (p := ⟨br, o1 + k, none⟩) (World.block_lt_of_cell? w _ DC.out) (fun h => h)).trans DC.out
                go_wp2_with fail
                refine (Twin_any bi ai ci y w3 (S0.out.kept H3.out.kept (fun _ h => h)) (by omega)).mono ?_
                rintro x w4 ⟨b4, a4, c4, rfl, ho4, hb4, hk4, _⟩
                obtain ⟨W2, hW2⟩ : ∃ W2, W2 = y := ⟨_, rfl⟩
                obtain ⟨n2, hn2⟩ : ∃ n2, n2 = y.length := ⟨_, rfl⟩
                obtain ⟨sf2, hn3⟩ : ∃ sf2, sf2 = y.length := ⟨_, rfl⟩
                have HRD : Hid (Rd w w4 d b4 a4 c4 W2 sf2) := by rw [hW2, hn3]; exact Rd.anew H3.out ho4 hk4 hb4
                have HL2 : Hid (W2.length = n2) := by show _ = _; rw [hW2, hn2]
                have hk3 : n2 ≤ 200 * (k + 1) := by rw [hn2]; exact hk2
                clear ho4 hb4 hk4
                rw [← hn2]
              case' inl | inr.false =>
                go_wp2_with fail
                refine (Append_own w wr _ d _ hw.out.2.disk bi ai ci y (S0.out.kept hw.out.2.disk.kept (fun _ h => h)) (fun h => .inl (S0.out.lt h)) h8y.out (by omega)).mono ?_
                rw [st_append (by rw [hw.out.1]; omega)]
                rintro x w3 ⟨rfl, h3, hk3'⟩
                have H3 := Lib.hid h3
                have HW3 := Lib.hid (hw.out.2.want.kept hk3' not_of)
                clear h3 hk3'
                have dc3 : w3.cell? ⟨br, o1 + k, none⟩ = some (.slice ai y.length ci) := (H3.out.kept.cell (p := ⟨br, o1 + k, none⟩) (World.block_lt_of_cell? w _ DC.out) (fun h => h)).trans DC.out
                go_wp2_with (at_builtin; refine wpList_append_bytes rfl _ _ 30 rfl 5 i0 Try.underlying30 hi hz0 hz1 hz2 b aw c W n rfl HW3.out hw.out.1 bi ai ci y y.length rfl (S0.out.kept H3.out.kept (fun _ h => h)) rfl (by omega) ?_)
                intro b4' a4 c4 w4 h2 h3' h4 h5
                obtain ⟨b4, hrd⟩ := Rd.append H3.out hw.out.2.lo rfl h2 h3' h4
                have HRD := Lib.hid hrd
                have HL2 : Hid ((W ++ y).length = n + y.length) := by show _ = _; rw [List.length_append, hw.out.1]
                have hk3 := hk1
                clear h2 h3' h4 h5 hrd
                rw [hw.out.1]
                generalize hW2 : W ++ y = W2 at HRD HL2
                generalize hn2 : sf = sf2 at HRD
                generalize hn3 : n + y.length = n2 at HL2 hk3 ⊢
              all_goals
                clear hW2 hn2 hn3
                rcases HSY.out with ⟨q1, q2⟩ | ⟨q1, bs, os, sq, rfl, hsq⟩
                case' inr =>
                  have hsq4 : w4.cell? ⟨bs, os + k, none⟩ = some (.bool sq) := (HRD.out.disk.kept.cell (p := ⟨bs, os + k, none⟩) (World.block_lt_of_cell? w _ hsq) (fun h => h)).trans hsq
                  clear hsq
                  cases sq
                case' inr.true =>
                  go_wp2_with fail
                  refine (Sync_own w w4 _ d _ HRD.out.disk).mono ?_
                  rw [st_sync]
                  rintro x w5 ⟨rfl, h5, hk5⟩
                  have HRD5 : Hid (Rd w w5 d b4 a4 c4 W2 W2.length) := ⟨h5, HRD.out.want.kept hk5 not_of, HRD.out.lo⟩
                  clear h5 hk5 hsq4
                case' inl | inr.false =>
                  obtain ⟨w5, rfl⟩ : ∃ w5 : World, w5 = w4 := ⟨_, rfl⟩
                  have HRD5 := HRD
                all_goals
                  go_wp2_with fail
                  refine (HRD5.out.read HL2.out).mono ?_
                  rintro x w6 ⟨b6, a6, c6, rfl, ho6, hrd6⟩
                  have HO6 := Lib.hid ho6
                  have HRD6 := Lib.hid hrd6
                  clear ho6 hrd6
                  go_wp2_with fail
                  have hcmp := KBytes_any b6 a6 c6 W2 b4 a4 c4 W2 w6 HO6.out.src HRD6.out.want.src (by rw [HL2.out]; omega) (by rw [HL2.out]; omega)
                  rw [HL2.out] at hcmp
                  refine hcmp.mono ?_
                  clear hcmp
                  rintro x w7 ⟨rfl, n7, rfl⟩
                  rw [same_refl]
                  obtain ⟨w7, hW⟩ : ∃ W, W = w6.drewN n7 := ⟨_, rfl⟩
                  rw [← hW]
                  have HRD7 := Lib.hid (HRD6.out.same (w' := w7) (by rw [hW]; exact (Kept.refl _ _).drewN n7))
                  clear hW
                  go_wp2_with fail
                  refine (HRD7.out.size HL2.out).mono ?_
                  rintro x w8 ⟨rfl, rfl⟩
                  have hnn := same_ne (n2 : Int)
                  go_wp2_with fail
                  refine HRD7.out.still.mono ?_
                  rintro x w8 ⟨rfl, rfl⟩
                  go_wp2
                  go_roundw
                  case rel => exact ⟨k + 1, b4, n2, c4, a4, W2, _, by omega, hk3, by go_num, rfl, HL2.out, HRD7.out⟩
                  case measure => simp [intOf]; omega
          · obtain rfl : k = R.length := by omega
            go_wp2_with fail
            refine (wakes_any _).mono ?_
            rintro x w12 ⟨rfl, hk12⟩
            have HK := Lib.hid (hw.out.2.disk.kept.trans hk12)
            clear hk12
            go_wp2
            go_ret
            exact ⟨rfl, HK.out⟩
end Go.Proofs.Ytaogpchjkbcjoaa.Dk
