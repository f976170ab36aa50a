import Derived.Test.YtaengjgmchpabaaGreatMergeWr26
import Derived.StillTailTactics
/- The landed reader of package wire: message. -/
namespace Go.Proofs.YtaengjgmchpabaaGreat.Wr
open Go Go.RowKit Vl Kv Ss Cn Mem Lg Nm
attribute [local go_sem] Nm.run_bits Nm.run_frombits run_store_float
variable {w w' : World} {rb br bs : Nat} {l : List Nat}
variable {g k b cap : Nat} {a : Option Addr} {t : List Nat} {W W' : World}
theorem cInner_len (x : Fl) : 2 ≤ (cInner.enc x).length := by
  show 2 ≤ (cHead.enc x ++ Pk.intB 0).length
  rw [List.length_append]
  have h1 := (Pk.intB_len 0).1
  have h2 : 1 ≤ (cHead.enc x).length := by
    show 1 ≤ (Pk.intB x.kind ++ _).length
    rw [List.length_append]
    have := (Pk.intB_len x.kind).1
    omega
  omega
set_option maxHeartbeats 12800000 in
set_option maxRecDepth 100000 in
theorem rmessage_any (h : Rs w rb br bs l) {most : Int} (HI : 0 < most → ∀ (W : World) (q : List Nat), Rs W rb br bs q → Calls Tryz.prog 25 #[.pointer (some ⟨rb, 0, none⟩), .int .i64 0] W (Igot rb br bs q W)) (hmost : most ≤ 16) :
    Calls Tryz.prog 25 #[.pointer (some ⟨rb, 0, none⟩), .int .i64 most] w (Mgot most rb br bs l w) := by
  have HF := Lib.hid (Fr1.start h Mr.zero.obj)
  have HII := Lib.hid HI
  have hb8 := h.b8
  clear h HI
  go_enter Tryz.func25, Tryz.ntmps25
  have HC1 := Lib.hid (number_any HF.out.rs)
  have hb81 := HF.out.rs.b8
  cases hd1 : cInt.rd l with
  | none =>
    go_wp2_with fail
    refine HC1.out.mono ?_
    rintro e wq hx
    obtain ⟨rfl, hk⟩ := hx.none hd1
    go_wp2_with fail
    exact ⟨rfl, Mgot.no (seq_no1 (as_no (seq_no1 hd1))) (HF.out.kept.trans hk)⟩
  | some p1 =>
    obtain ⟨n1, r1⟩ := p1
    go_wp2_with fail
    refine HC1.out.mono ?_
    rintro e wq hx
    obtain ⟨rfl, hs, hk⟩ := hx.some hd1
    have HF := Lib.hid (HF.out.call hs hk (rd_le cInt hb81 hd1))
    clear hx hs hk HC1 hb81
    have HC2 := Lib.hid (number_any HF.out.rs)
    have hb82 := HF.out.rs.b8
    cases hd2 : cInt.rd r1 with
    | none =>
      go_wp2_with fail
      refine HC2.out.mono ?_
      rintro e wq hx
      obtain ⟨rfl, hk⟩ := hx.none hd2
      go_wp2_with fail
      exact ⟨rfl, Mgot.no (seq_no1 (as_no (seq_no2 hd1 (seq_no1 hd2)))) (HF.out.kept.trans hk)⟩
    | some p2 =>
      obtain ⟨n2, r2⟩ := p2
      go_wp2_with fail
      refine HC2.out.mono ?_
      rintro e wq hx
      obtain ⟨rfl, hs, hk⟩ := hx.some hd2
      have HF := Lib.hid (HF.out.call hs hk (rd_le cInt hb82 hd2))
      clear hx hs hk HC2 hb82
      have HC3 := Lib.hid (number_any HF.out.rs)
      have hb83 := HF.out.rs.b8
      cases hd3 : cInt.rd r2 with
      | none =>
        go_wp2_with fail
        refine HC3.out.mono ?_
        rintro e wq hx
        obtain ⟨rfl, hk⟩ := hx.none hd3
        go_wp2_with fail
        exact ⟨rfl, Mgot.no (seq_no1 (as_no (seq_no2 hd1 (seq_no2 hd2 (seq_no1 hd3))))) (HF.out.kept.trans hk)⟩
      | some p3 =>
        obtain ⟨n3, r3⟩ := p3
        go_wp2_with fail
        refine HC3.out.mono ?_
        rintro e wq hx
        obtain ⟨rfl, hs, hk⟩ := hx.some hd3
        have HF := Lib.hid (HF.out.call hs hk (rd_le cInt hb83 hd3))
        clear hx hs hk HC3 hb83
        have HC4 := Lib.hid (number_any HF.out.rs)
        have hb84 := HF.out.rs.b8
        cases hd4 : cInt.rd r3 with
        | none =>
          go_wp2_with fail
          refine HC4.out.mono ?_
          rintro e wq hx
          obtain ⟨rfl, hk⟩ := hx.none hd4
          go_wp2_with fail
          exact ⟨rfl, Mgot.no (seq_no1 (as_no (seq_no2 hd1 (seq_no2 hd2 (seq_no2 hd3 (seq_no1 hd4)))))) (HF.out.kept.trans hk)⟩
        | some p4 =>
          obtain ⟨n4, r4⟩ := p4
          go_wp2_with fail
          refine HC4.out.mono ?_
          rintro e wq hx
          obtain ⟨rfl, hs, hk⟩ := hx.some hd4
          have HF := Lib.hid (HF.out.call hs hk (rd_le cInt hb84 hd4))
          clear hx hs hk HC4 hb84
          have HC5 := Lib.hid (number_any HF.out.rs)
          have hb85 := HF.out.rs.b8
          cases hd5 : cInt.rd r4 with
          | none =>
            go_wp2_with fail
            refine HC5.out.mono ?_
            rintro e wq hx
            obtain ⟨rfl, hk⟩ := hx.none hd5
            go_wp2_with fail
            exact ⟨rfl, Mgot.no (seq_no1 (as_no (seq_no2 hd1 (seq_no2 hd2 (seq_no2 hd3 (seq_no2 hd4 (seq_no1 hd5))))))) (HF.out.kept.trans hk)⟩
          | some p5 =>
            obtain ⟨n5, r5⟩ := p5
            go_wp2_with fail
            refine HC5.out.mono ?_
            rintro e wq hx
            obtain ⟨rfl, hs, hk⟩ := hx.some hd5
            have HF := Lib.hid (HF.out.call hs hk (rd_le cInt hb85 hd5))
            clear hx hs hk HC5 hb85
            have HC6 := Lib.hid (number_any HF.out.rs)
            have hb86 := HF.out.rs.b8
            cases hd6 : cInt.rd r5 with
            | none =>
              go_wp2_with fail
              refine HC6.out.mono ?_
              rintro e wq hx
              obtain ⟨rfl, hk⟩ := hx.none hd6
              go_wp2_with fail
              exact ⟨rfl, Mgot.no (seq_no1 (as_no (seq_no2 hd1 (seq_no2 hd2 (seq_no2 hd3 (seq_no2 hd4 (seq_no2 hd5 (seq_no1 hd6)))))))) (HF.out.kept.trans hk)⟩
            | some p6 =>
              obtain ⟨n6, r6⟩ := p6
              go_wp2_with fail
              refine HC6.out.mono ?_
              rintro e wq hx
              obtain ⟨rfl, hs, hk⟩ := hx.some hd6
              have HF := Lib.hid (HF.out.call hs hk (rd_le cInt hb86 hd6))
              clear hx hs hk HC6 hb86
              have HX := Lib.hid (HF.out.more Mr.zero.obj)
              have hgrx := HX.out.lo
              go_wp2_with (first | (apply store_g 16 HX.out.xbox; rfl; rfl; rfl; rfl; rfl; kernel_rfl; rfl; rfl; intro wz hz he; have HX := Lib.hid (HX.out.setX hz he); clear hz he))
              have hgl : w.heap.size < wq.heap.size := by have := heap_lt HF.out.box; omega
              clear HF hgrx
              generalize wq.heap.size = gx at *
              have HC7 := Lib.hid (number_any HX.out.rs)
              have hb87 := HX.out.rs.b8
              cases hd7 : cInt.rd r6 with
              | none =>
                refine HC7.out.mono ?_
                rintro e wq hx
                obtain ⟨rfl, hk⟩ := hx.none hd7
                go_wp2_with fail
                exact ⟨rfl, Mgot.no (seq_no1 (as_no (seq_no2 hd1 (seq_no2 hd2 (seq_no2 hd3 (seq_no2 hd4 (seq_no2 hd5 (seq_no2 hd6 (seq_no1 hd7))))))))) (HX.out.kept.trans hk)⟩
              | some p7 =>
                obtain ⟨n7, r7⟩ := p7
                refine HC7.out.mono ?_
                rintro e wq hx
                obtain ⟨rfl, hs, hk⟩ := hx.some hd7
                have HX := Lib.hid (HX.out.callx hs hk (rd_le cInt hb87 hd7))
                clear hx hs hk HC7 hb87
                go_wp2_with (first | (apply store_g1 HX.out.xbox; rfl; rfl; rfl; rfl; rfl; rfl; kernel_rfl; rfl; intro wz hz he; (try simp only [List.setIfInBounds_toArray, List.set_cons_succ, List.set_cons_zero] at hz); have HX := Lib.hid (HX.out.setX hz he); clear hz he))
                have HC8 := Lib.hid (number_any HX.out.rs)
                have hb88 := HX.out.rs.b8
                cases hd8 : cInt.rd r7 with
                | none =>
                  refine HC8.out.mono ?_
                  rintro e wq hx
                  obtain ⟨rfl, hk⟩ := hx.none hd8
                  go_wp2_with fail
                  exact ⟨rfl, Mgot.no (seq_no1 (as_no (seq_no2 hd1 (seq_no2 hd2 (seq_no2 hd3 (seq_no2 hd4 (seq_no2 hd5 (seq_no2 hd6 (seq_no2 hd7 (seq_no1 hd8)))))))))) (HX.out.kept.trans hk)⟩
                | some p8 =>
                  obtain ⟨n8, r8⟩ := p8
                  refine HC8.out.mono ?_
                  rintro e wq hx
                  obtain ⟨rfl, hs, hk⟩ := hx.some hd8
                  have HX := Lib.hid (HX.out.callx hs hk (rd_le cInt hb88 hd8))
                  clear hx hs hk HC8 hb88
                  go_wp2_with (first | (apply store_g1 HX.out.xbox; rfl; rfl; rfl; rfl; rfl; rfl; kernel_rfl; rfl; intro wz hz he; (try simp only [List.setIfInBounds_toArray, List.set_cons_succ, List.set_cons_zero] at hz); have HX := Lib.hid (HX.out.setX hz he); clear hz he))
                  have HC9 := Lib.hid (mark_any HX.out.rs)
                  have hb89 := HX.out.rs.b8
                  cases hd9 : cMark.rd r8 with
                  | none =>
                    refine HC9.out.mono ?_
                    rintro e wq hx
                    obtain ⟨rfl, hk⟩ := hx.none hd9
                    go_wp2_with fail
                    exact ⟨rfl, Mgot.no (seq_no1 (as_no (seq_no2 hd1 (seq_no2 hd2 (seq_no2 hd3 (seq_no2 hd4 (seq_no2 hd5 (seq_no2 hd6 (seq_no2 hd7 (seq_no2 hd8 (seq_no1 hd9))))))))))) (HX.out.kept.trans hk)⟩
                  | some p9 =>
                    obtain ⟨n9, r9⟩ := p9
                    refine HC9.out.mono ?_
                    rintro e wq hx
                    obtain ⟨rfl, hs, hk⟩ := hx.some hd9
                    have HX := Lib.hid (HX.out.callx hs hk (rd_le cMark hb89 hd9))
                    clear hx hs hk HC9 hb89
                    go_wp2_with (first | (apply store_g1 HX.out.xbox; rfl; rfl; rfl; rfl; rfl; rfl; kernel_rfl; rfl; intro wz hz he; (try simp only [List.setIfInBounds_toArray, List.set_cons_succ, List.set_cons_zero] at hz); have HX := Lib.hid (HX.out.setX hz he); clear hz he))
                    have HC10 := Lib.hid (rentries_any HX.out.rs 8)
                    have hb810 := HX.out.rs.b8
                    cases hd10 : (cLi cEnt 8).rd r9 with
                    | none =>
                      refine HC10.out.mono ?_
                      rintro e wq hx
                      obtain ⟨rfl, hk⟩ := hx.none hd10
                      go_wp2_with fail
                      exact ⟨rfl, Mgot.no (seq_no1 (as_no (seq_no2 hd1 (seq_no2 hd2 (seq_no2 hd3 (seq_no2 hd4 (seq_no2 hd5 (seq_no2 hd6 (seq_no2 hd7 (seq_no2 hd8 (seq_no2 hd9 (seq_no1 hd10)))))))))))) (HX.out.kept.trans hk)⟩
                    | some p10 =>
                      obtain ⟨n10, r10⟩ := p10
                      have hle10 := rd_le (cLi cEnt 8) hb810 hd10
                      refine HC10.out.mono ?_
                      rintro e wq hx
                      obtain ⟨⟨be, ae, ce, rfl, ho, hn10⟩, hs, hk⟩ := hx.some hd10
                      have HEE := Lib.hid (Pe.mk ho (Nat.lt_of_lt_of_le (heap_lt HX.out.xbox) hn10))
                      have HX := Lib.hid (HX.out.callx hs hk hle10)
                      clear hx hs hk HC10 ho hn10 hb810
                      go_wp2_with (first | (apply store_g1 HX.out.xbox; rfl; rfl; rfl; rfl; rfl; rfl; kernel_rfl; rfl; intro wz hz he; (try simp only [List.setIfInBounds_toArray, List.set_cons_succ, List.set_cons_zero] at hz); have HX := Lib.hid (HX.out.setX hz he); (have HEE := Lib.hid (HEE.out.els he (Nat.le_refl _))); clear hz he))
                      have hbrx := Lib.hid (show br ≤ _ from Nat.le_trans (Nat.le_of_lt HX.out.lbr) HX.out.xlo)
                      have HC11 := Lib.hid (rconf_any HX.out.rs)
                      have hb811 := HX.out.rs.b8
                      cases hd11 : cConf.rd r10 with
                      | none =>
                        refine HC11.out.mono ?_
                        rintro e wq hx
                        obtain ⟨rfl, hk⟩ := hx.none hd11
                        go_wp2_with fail
                        exact ⟨rfl, Mgot.no (seq_no1 (as_no (seq_no2 hd1 (seq_no2 hd2 (seq_no2 hd3 (seq_no2 hd4 (seq_no2 hd5 (seq_no2 hd6 (seq_no2 hd7 (seq_no2 hd8 (seq_no2 hd9 (seq_no2 hd10 (seq_no1 hd11))))))))))))) (HX.out.kept.trans hk)⟩
                      | some p11 =>
                        obtain ⟨n11, r11⟩ := p11
                        refine HC11.out.mono ?_
                        rintro e wq hx
                        obtain ⟨rfl, hs, hk⟩ := hx.some hd11
                        have HEE := Lib.hid (HEE.out.call hk hbrx.out)
                        have HX := Lib.hid (HX.out.callx hs hk (rd_le cConf hb811 hd11))
                        clear hx hs hk HC11 hb811
                        go_wp2_with (first | (apply store_gm HX.out.xbox; rfl; rfl; rfl; rfl; rfl; kernel_rfl; rfl; rfl; intro wz hz he; (try simp only [splice, List.setIfInBounds_toArray, List.set_cons_succ, List.set_cons_zero, Nat.reduceAdd] at hz); have HX := Lib.hid (HX.out.setX hz he); (have HEE := Lib.hid (HEE.out.els he (Nat.le_refl _))); clear hz he))
                        have HXB := Lib.hid HX.out.xbox
                        have HC12 := Lib.hid (text_any HX.out.rs)
                        have hb812 := HX.out.rs.b8
                        cases hd12 : rdT r11 with
                        | none =>
                          refine HC12.out.mono ?_
                          rintro e wq hx
                          obtain ⟨rfl, hk⟩ := hx.none hd12
                          go_wp2_with fail
                          exact ⟨rfl, Mgot.no (seq_no1 (as_no (seq_no2 hd1 (seq_no2 hd2 (seq_no2 hd3 (seq_no2 hd4 (seq_no2 hd5 (seq_no2 hd6 (seq_no2 hd7 (seq_no2 hd8 (seq_no2 hd9 (seq_no2 hd10 (seq_no2 hd11 (hd12)))))))))))))) (HX.out.kept.trans hk)⟩
                        | some p12 =>
                          obtain ⟨n12, r12⟩ := p12
                          refine HC12.out.mono ?_
                          rintro e wq hx
                          obtain ⟨⟨bt, at_, ct, rfl, ho, hn12⟩, hs, hk⟩ := hx.some hd12
                          have HT := Lib.hid (Pc.mk ho (Nat.lt_of_lt_of_le (heap_lt HXB.out) hn12))
                          have HEE := Lib.hid (HEE.out.call hk hbrx.out)
                          have HX := Lib.hid (HX.out.callx hs hk (rd_le cText hb812 hd12))
                          clear hx hs hk HC12 hb812 ho hn12 HXB
                          go_wp2_with (first | (apply store_g1 HX.out.xbox; rfl; rfl; rfl; rfl; rfl; rfl; kernel_rfl; rfl; intro wz hz he; (try simp only [List.setIfInBounds_toArray, List.set_cons_succ, List.set_cons_zero] at hz); have HX := Lib.hid (HX.out.setX hz he); (have HT := Lib.hid (HT.out.els he (Nat.le_refl _))); (have HEE := Lib.hid (HEE.out.els he (Nat.le_refl _))); clear hz he))
                          have HHD := Lib.hid (show cHead.rd l = some (⟨n1, n2, n3, n4, n5, n6, n7, n8, n9, n10, n11, n12⟩, r12) from as_yes (seq_yes hd1 (seq_yes hd2 (seq_yes hd3 (seq_yes hd4 (seq_yes hd5 (seq_yes hd6 (seq_yes hd7 (seq_yes hd8 (seq_yes hd9 (seq_yes hd10 (seq_yes hd11 hd12))))))))))))
                          clear hd1 hd2 hd3 hd4 hd5 hd6 hd7 hd8 hd9 hd10 hd11 hd12
                          have HCU := Lib.hid (rupTo_any HX.out.rs most)
                          have hb8u := HX.out.rs.b8
                          cases hdu : rdUp most r12 with
                          | none =>
                            refine HCU.out.mono ?_
                            rintro e wq hx
                            obtain ⟨rfl, hk⟩ := hx.none hdu
                            go_wp2_with fail
                            exact ⟨rfl, Mgot.no (seq_no2 HHD.out (cLi_no1 hdu)) (HX.out.kept.trans hk)⟩
                          | some pu =>
                            obtain ⟨n, q0⟩ := pu
                            have hleu := rdUp_le hb8u hdu
                            have hr8 := rd_b8 cInt hb8u (rdUp_int hdu).1
                            have hn0 := (rdUp_int hdu).2
                            refine HCU.out.mono ?_
                            rintro e wq hx
                            obtain ⟨rfl, hs, hk⟩ := hx.some hdu
                            have HT := Lib.hid (HT.out.call hk hbrx.out)
                            have HEE := Lib.hid (HEE.out.call hk hbrx.out)
                            have HX := Lib.hid (HX.out.callx hs hk hleu)
                            have HDU := Lib.hid hdu
                            clear hx hs hk HCU hb8u hdu
                            have HM := Lib.hid (Rm.start (f := ⟨n1, n2, n3, n4, n5, n6, n7, n8, n9, n10, n11, n12⟩) (p := ⟨ae, ce, bt, at_, ct, none, 0, 0⟩) HX.out HT.out ⟨be, HEE.out⟩)
                            generalize (⟨n1, n2, n3, n4, n5, n6, n7, n8, n9, n10, n11, n12⟩ : Fl) = f at *
                            generalize (⟨ae, ce, bt, at_, ct, none, 0, 0⟩ : Mp) = pp at *
                            clear HX HT HEE
                            obtain ⟨N, hN⟩ : ∃ N : Nat, n = (N : Int) := ⟨n.toNat, by omega⟩
                            subst hN
                            go_wp2_with fail
                            go_loopw [40] (fun i wr => ∃ (k : Nat) (q : List Nat) (LM : List Mr) (b : Nat) (a : Option Addr) (cap : Nat), k ≤ N ∧ LM.length = k ∧ i = .int .i64 k ∧ Hid (Rm w rb br bs q0 w.heap.size Mr.zero.obj gx f pp q LM b a cap wr)) (fun i _ => N - (intOf i).toNat)
                            case atStart => exact ⟨0, q0, [], _, none, 0, by omega, rfl, rfl, HM.out⟩
                            case round =>
                              clear HM
                              obtain ⟨k, q, LM, b, a, cap, hk, hL, rfl, HM⟩ := hrel
                              by_cases hlt : k < N
                              · have HC := Lib.hid (HII.out (by omega) _ _ HM.out.fr.rs)
                                have hq8 := rd_b8 (cInner.rep LM.length) hr8 HM.out.got
                                have hkle := rep_le (m := 2) hr8 HM.out.got cInner_len
                                have hlenq := HM.out.fr.rs.len
                                have hq0l := hleu
                                subst hL
                                cases hd : cInner.rd q with
                                | none =>
                                  have HE := Lib.hid (seq_no2 HHD.out (cLi_no2 (A := cInner) HDU.out (rep_stop HM.out.got hd (by simpa using hlt))))
                                  go_wp2_with fail
                                  refine wp_region_held_drew (S := fun _ => True) (by kernel_rfl) trivial (fun hS => ?_)
                                  have hdr : Beh wr wr.drew := (Beh.start _).drew
                                  have hS0 : wr.drew.heap[gx]? = some (.cells #[.int .i64 f.kind, .int .i64 f.from_, .int .i64 f.to, .int .i64 f.term, .int .i64 f.index, .int .i64 f.logt, .int .i64 f.commit, .int .i64 f.round, .bool f.yes, .slice pp.ea f.ents.length pp.ec, .int .i64 f.conf.f, .int .i64 f.conf.w, .int .i64 f.conf.l, .int .i64 f.conf.x, .slice pp.sa f.snap.length pp.sc, .slice a LM.length cap] 28) := HM.out.fr.xbox
                                  have HC2 := Lib.hid (HII.out (by omega) _ _ (HM.out.fr.rs.on hdr))
                                  generalize World.drew wr = wd at HC2 hS0 hdr ⊢
                                  clear HC
                                  (try simp only [Act.put, List.getElem_toArray, List.getElem_cons_succ, List.getElem_cons_zero, List.setIfInBounds_toArray, List.set_cons_zero, List.set_cons_succ])
                                  refine wpAnyH_take (i := 0) (v := ?_) rfl (by kernel_rfl) (by kernel_rfl) (by kernel_rfl) (fun _ _ _ h => h) (Or.inl ⟨by rfl, ?_⟩) hS ?_
                                  rotate_left
                                  · intro W hW; go_simp; try with_reducible rfl
                                  (try simp only [Act.put, List.getElem_toArray, List.getElem_cons_zero, List.setIfInBounds_toArray, List.set_cons_zero, List.set_cons_succ])
                                  refine wpAnyH_take (i := 2) (v := ?_) rfl (by kernel_rfl) (by kernel_rfl) (by kernel_rfl) (fun _ _ _ h => h) (Or.inl ⟨by rfl, ?_⟩) hS ?_
                                  rotate_left
                                  · intro W hW; go_simp; try with_reducible rfl
                                  (try simp only [Act.put, List.getElem_toArray, List.getElem_cons_succ, List.getElem_cons_zero, List.setIfInBounds_toArray, List.set_cons_zero, List.set_cons_succ])
                                  refine wpAnyH_ready (rs := [1, 3]) (by kernel_rfl) (by simp) ?_
                                  refine AllReadyH.cons rfl (fun K hK => ?_) (AllReadyH.cons rfl (fun K hK => ?_) (AllReadyH.nil))
                                  all_goals (try simp only [List.getElem_toArray, List.getElem_cons_succ, List.getElem_cons_zero])
                                  · have x15 := Bh.cell15 hS0
                                    go_simp
                                    refine hK.out _ _ (trivial) (fun hS => ?_)
                                    clear hK K
                                    (try simp only [Act.put, List.getElem_toArray, List.getElem_cons_succ, List.getElem_cons_zero, List.setIfInBounds_toArray, List.set_cons_zero, List.set_cons_succ])
                                    clear x15
                                    refine wpAnyH_ready (rs := [3]) (by kernel_rfl) (by simp) ?_
                                    refine AllReadyH.cons rfl (fun K hK => ?_) (AllReadyH.nil)
                                    all_goals (try simp only [List.getElem_toArray, List.getElem_cons_succ, List.getElem_cons_zero])
                                    go_simp
                                    go_at_call 25
                                    refine HC2.out.mono ?_
                                    rintro e w1 hx
                                    obtain ⟨rfl, hk⟩ := hx.none hd
                                    exact ⟨rfl, Mgot.no HE.out (HM.out.fr.kept.trans ((kept_beh hdr).ofNone.trans hk))⟩
                                  · go_simp
                                    go_at_call 25
                                    refine HC2.out.mono ?_
                                    rintro e w1 hx
                                    obtain ⟨rfl, hk⟩ := hx.none hd
                                    exact ⟨rfl, Mgot.no HE.out (HM.out.fr.kept.trans ((kept_beh hdr).ofNone.trans hk))⟩
                                | some py =>
                                  obtain ⟨y, q2⟩ := py
                                  have hle2 := rd_le cInner hq8 hd
                                  go_wp2_with fail
                                  refine wp_region_held_drew (S := fun _ => True) (by kernel_rfl) trivial (fun hS => ?_)
                                  have hdr : Beh wr wr.drew := (Beh.start _).drew
                                  have hS0 : wr.drew.heap[gx]? = some (.cells #[.int .i64 f.kind, .int .i64 f.from_, .int .i64 f.to, .int .i64 f.term, .int .i64 f.index, .int .i64 f.logt, .int .i64 f.commit, .int .i64 f.round, .bool f.yes, .slice pp.ea f.ents.length pp.ec, .int .i64 f.conf.f, .int .i64 f.conf.w, .int .i64 f.conf.l, .int .i64 f.conf.x, .slice pp.sa f.snap.length pp.sc, .slice a LM.length cap] 28) := HM.out.fr.xbox
                                  have HC2 := Lib.hid (HII.out (by omega) _ _ (HM.out.fr.rs.on hdr))
                                  generalize World.drew wr = wd at HC2 hS0 hdr ⊢
                                  clear HC
                                  (try simp only [Act.put, List.getElem_toArray, List.getElem_cons_succ, List.getElem_cons_zero, List.setIfInBounds_toArray, List.set_cons_zero, List.set_cons_succ])
                                  refine wpAnyH_take (i := 0) (v := ?_) rfl (by kernel_rfl) (by kernel_rfl) (by kernel_rfl) (fun _ _ _ h => h) (Or.inl ⟨by rfl, ?_⟩) hS ?_
                                  rotate_left
                                  · intro W hW; go_simp; try with_reducible rfl
                                  (try simp only [Act.put, List.getElem_toArray, List.getElem_cons_zero, List.setIfInBounds_toArray, List.set_cons_zero, List.set_cons_succ])
                                  refine wpAnyH_take (i := 2) (v := ?_) rfl (by kernel_rfl) (by kernel_rfl) (by kernel_rfl) (fun _ _ _ h => h) (Or.inl ⟨by rfl, ?_⟩) hS ?_
                                  rotate_left
                                  · intro W hW; go_simp; try with_reducible rfl
                                  (try simp only [Act.put, List.getElem_toArray, List.getElem_cons_succ, List.getElem_cons_zero, List.setIfInBounds_toArray, List.set_cons_zero, List.set_cons_succ])
                                  refine wpAnyH_ready (rs := [1, 3]) (by kernel_rfl) (by simp) ?_
                                  refine AllReadyH.cons rfl (fun K hK => ?_) (AllReadyH.cons rfl (fun K hK => ?_) (AllReadyH.nil))
                                  all_goals (try simp only [List.getElem_toArray, List.getElem_cons_succ, List.getElem_cons_zero])
                                  · have x15 := Bh.cell15 hS0
                                    go_simp
                                    refine hK.out _ _ (trivial) (fun hS => ?_)
                                    clear hK K
                                    (try simp only [Act.put, List.getElem_toArray, List.getElem_cons_succ, List.getElem_cons_zero, List.setIfInBounds_toArray, List.set_cons_zero, List.set_cons_succ])
                                    clear x15
                                    refine wpAnyH_ready (rs := [3]) (by kernel_rfl) (by simp) ?_
                                    refine AllReadyH.cons rfl (fun K hK => ?_) (AllReadyH.nil)
                                    all_goals (try simp only [List.getElem_toArray, List.getElem_cons_succ, List.getElem_cons_zero])
                                    go_simp
                                    go_at_call 25
                                    refine HC2.out.mono ?_
                                    rintro e w1 hx
                                    obtain ⟨⟨pm, rfl, hz, hy⟩, hs, hk⟩ := hx.some hd
                                    have HZ := Lib.hid hz
                                    clear hz hx
                                    have hS1 : w1.heap[gx]? = some (.cells #[.int .i64 f.kind, .int .i64 f.from_, .int .i64 f.to, .int .i64 f.term, .int .i64 f.index, .int .i64 f.logt, .int .i64 f.commit, .int .i64 f.round, .bool f.yes, .slice pp.ea f.ents.length pp.ec, .int .i64 f.conf.f, .int .i64 f.conf.w, .int .i64 f.conf.l, .int .i64 f.conf.x, .slice pp.sa f.snap.length pp.sc, .slice a LM.length cap] 28) := keptO hk hS0 (by have := HM.out.fr.lbr; have := HM.out.fr.xlo; omega)
                                    refine hK.out _ _ (trivial) (fun hS => ?_)
                                    clear hK K
                                    (try simp only [Act.put, List.getElem_toArray, List.getElem_cons_succ, List.getElem_cons_zero, List.setIfInBounds_toArray, List.set_cons_zero, List.set_cons_succ])
                                    refine wpAnyH_ready (rs := [4]) (by kernel_rfl) (by simp) ?_
                                    refine AllReadyH.cons rfl (fun K hK => ?_) (AllReadyH.nil)
                                    all_goals (try simp only [List.getElem_toArray, List.getElem_cons_succ, List.getElem_cons_zero])
                                    refine step_alloc_b (v := .slice (some ⟨w1.heap.size, 0, none⟩) 1 1) rfl (Mr.obj (y, pm)) (by go_simp; rfl) ?_
                                    intro w2 hb2 hnew2
                                    have hS2 : w2.heap[gx]? = some (.cells #[.int .i64 f.kind, .int .i64 f.from_, .int .i64 f.to, .int .i64 f.term, .int .i64 f.index, .int .i64 f.logt, .int .i64 f.commit, .int .i64 f.round, .bool f.yes, .slice pp.ea f.ents.length pp.ec, .int .i64 f.conf.f, .int .i64 f.conf.w, .int .i64 f.conf.l, .int .i64 f.conf.x, .slice pp.sa f.snap.length pp.sc, .slice a LM.length cap] 28) := hb2.box hS1
                                    refine hK.out _ _ (trivial) (fun hS => ?_)
                                    clear hK K
                                    (try simp only [Act.put, List.setIfInBounds_toArray, List.set_cons_zero, List.set_cons_succ])
                                    refine wpAnyH_ready (rs := [5]) (by kernel_rfl) (by simp) ?_
                                    refine AllReadyH.cons rfl (fun K hK => ?_) (AllReadyH.nil)
                                    all_goals (try simp only [List.getElem_toArray, List.getElem_cons_succ, List.getElem_cons_zero])
                                    refine step_append_y rfl (.tmp 43) (.tmp 46) 26 rfl 28 16 _ _ 176 Tryz.underlying26 rfl rfl rfl rfl rfl b a cap LM.length (Li.flat LM) (by simp [Act.eval]) (OwnC.kept (OwnC.kept HM.out.own ((kept_beh hdr).ofNone.trans hk) (fun _ e => by have e : b = br := e; have := HM.out.hi; have := HM.out.fr.lbr; have := HM.out.fr.xlo; omega)) (kept_beh hb2) (fun _ h => h)) _ 1 1 _ (by simp [Act.eval]) (Li.ListAt.src (Li.lit_list (L := [((y, pm) : Mr)]) hnew2 rfl (by simp))) Li.flat_one (by omega) (by omega) ?_
                                    intro b' a' cap' w3 h2 h3 h4 h5
                                    have hS3 : w3.heap[gx]? = some (.cells #[.int .i64 f.kind, .int .i64 f.from_, .int .i64 f.to, .int .i64 f.term, .int .i64 f.index, .int .i64 f.logt, .int .i64 f.commit, .int .i64 f.round, .bool f.yes, .slice pp.ea f.ents.length pp.ec, .int .i64 f.conf.f, .int .i64 f.conf.w, .int .i64 f.conf.l, .int .i64 f.conf.x, .slice pp.sa f.snap.length pp.sc, .slice a LM.length cap] 28) := h3.heap hS2 (fun e => by have := e.2; have := HM.out.hi; omega)
                                    refine hK.out _ _ (trivial) (fun hS => ?_)
                                    clear hK K
                                    (try simp only [Act.put, List.setIfInBounds_toArray, List.set_cons_zero, List.set_cons_succ])
                                    refine wpAnyH_take (i := 6) (v := ?_) rfl (by kernel_rfl) (by kernel_rfl) (by kernel_rfl) (fun _ _ _ h => h) (Or.inl ⟨by rfl, ?_⟩) hS ?_
                                    rotate_left
                                    · intro W hW; go_simp; try with_reducible rfl
                                    (try simp only [Act.put, List.getElem_toArray, List.getElem_cons_succ, List.getElem_cons_zero, List.setIfInBounds_toArray, List.set_cons_zero, List.set_cons_succ])
                                    refine wpAnyH_ready (rs := [7]) (by kernel_rfl) (by simp) ?_
                                    refine AllReadyH.cons rfl (fun K hK => ?_) (AllReadyH.nil)
                                    all_goals (try simp only [List.getElem_toArray, List.getElem_cons_succ, List.getElem_cons_zero])
                                    (apply step_store_g1 hS3; rfl; rfl; rfl; rfl; rfl; rfl; kernel_rfl; rfl)
                                    intro w4 hx4 he4
                                    have HP := Lib.hid (HM.out.step hgl hdr hs hk hle2 hd hy HZ.out hb2 h2 h3 h4 hx4 he4)
                                    refine hK.out _ _ (trivial) (fun hS => ?_)
                                    clear hK K
                                    (try simp only [Act.put])
                                    refine wpAnyH_done (by kernel_rfl) ?_ _
                                    clear hS hx4 he4 h2 h3 h4 h5 hS3 hS2 hS1 hnew2 hb2 hs hk hy
                                    go_wp2_with fail
                                    go_roundw
                                    case rel => exact ⟨LM.length + 1, q2, LM ++ [(y, pm)], b', a', cap', by omega, by simp, by go_num, HP.out⟩
                                    case measure => simp [intOf]; omega
                                  · go_simp
                                    go_at_call 25
                                    refine HC2.out.mono ?_
                                    rintro e w1 hx
                                    obtain ⟨⟨pm, rfl, hz, hy⟩, hs, hk⟩ := hx.some hd
                                    have HZ := Lib.hid hz
                                    clear hz hx
                                    have hS1 : w1.heap[gx]? = some (.cells #[.int .i64 f.kind, .int .i64 f.from_, .int .i64 f.to, .int .i64 f.term, .int .i64 f.index, .int .i64 f.logt, .int .i64 f.commit, .int .i64 f.round, .bool f.yes, .slice pp.ea f.ents.length pp.ec, .int .i64 f.conf.f, .int .i64 f.conf.w, .int .i64 f.conf.l, .int .i64 f.conf.x, .slice pp.sa f.snap.length pp.sc, .slice a LM.length cap] 28) := keptO hk hS0 (by have := HM.out.fr.lbr; have := HM.out.fr.xlo; omega)
                                    refine hK.out _ _ (trivial) (fun hS => ?_)
                                    clear hK K
                                    (try simp only [Act.put, List.getElem_toArray, List.getElem_cons_succ, List.getElem_cons_zero, List.setIfInBounds_toArray, List.set_cons_zero, List.set_cons_succ])
                                    refine wpAnyH_ready (rs := [1, 4]) (by kernel_rfl) (by simp) ?_
                                    refine AllReadyH.cons rfl (fun K hK => ?_) (AllReadyH.cons rfl (fun K hK => ?_) (AllReadyH.nil))
                                    all_goals (try simp only [List.getElem_toArray, List.getElem_cons_succ, List.getElem_cons_zero])
                                    · have x15 := Bh.cell15 hS1
                                      go_simp
                                      refine hK.out _ _ (trivial) (fun hS => ?_)
                                      clear hK K
                                      (try simp only [Act.put, List.getElem_toArray, List.getElem_cons_succ, List.getElem_cons_zero, List.setIfInBounds_toArray, List.set_cons_zero, List.set_cons_succ])
                                      clear x15
                                      refine wpAnyH_ready (rs := [4]) (by kernel_rfl) (by simp) ?_
                                      refine AllReadyH.cons rfl (fun K hK => ?_) (AllReadyH.nil)
                                      all_goals (try simp only [List.getElem_toArray, List.getElem_cons_succ, List.getElem_cons_zero])
                                      refine step_alloc_b (v := .slice (some ⟨w1.heap.size, 0, none⟩) 1 1) rfl (Mr.obj (y, pm)) (by go_simp; rfl) ?_
                                      intro w2 hb2 hnew2
                                      have hS2 : w2.heap[gx]? = some (.cells #[.int .i64 f.kind, .int .i64 f.from_, .int .i64 f.to, .int .i64 f.term, .int .i64 f.index, .int .i64 f.logt, .int .i64 f.commit, .int .i64 f.round, .bool f.yes, .slice pp.ea f.ents.length pp.ec, .int .i64 f.conf.f, .int .i64 f.conf.w, .int .i64 f.conf.l, .int .i64 f.conf.x, .slice pp.sa f.snap.length pp.sc, .slice a LM.length cap] 28) := hb2.box hS1
                                      refine hK.out _ _ (trivial) (fun hS => ?_)
                                      clear hK K
                                      (try simp only [Act.put, List.setIfInBounds_toArray, List.set_cons_zero, List.set_cons_succ])
                                      refine wpAnyH_ready (rs := [5]) (by kernel_rfl) (by simp) ?_
                                      refine AllReadyH.cons rfl (fun K hK => ?_) (AllReadyH.nil)
                                      all_goals (try simp only [List.getElem_toArray, List.getElem_cons_succ, List.getElem_cons_zero])
                                      refine step_append_y rfl (.tmp 43) (.tmp 46) 26 rfl 28 16 _ _ 176 Tryz.underlying26 rfl rfl rfl rfl rfl b a cap LM.length (Li.flat LM) (by simp [Act.eval]) (OwnC.kept (OwnC.kept HM.out.own ((kept_beh hdr).ofNone.trans hk) (fun _ e => by have e : b = br := e; have := HM.out.hi; have := HM.out.fr.lbr; have := HM.out.fr.xlo; omega)) (kept_beh hb2) (fun _ h => h)) _ 1 1 _ (by simp [Act.eval]) (Li.ListAt.src (Li.lit_list (L := [((y, pm) : Mr)]) hnew2 rfl (by simp))) Li.flat_one (by omega) (by omega) ?_
                                      intro b' a' cap' w3 h2 h3 h4 h5
                                      have hS3 : w3.heap[gx]? = some (.cells #[.int .i64 f.kind, .int .i64 f.from_, .int .i64 f.to, .int .i64 f.term, .int .i64 f.index, .int .i64 f.logt, .int .i64 f.commit, .int .i64 f.round, .bool f.yes, .slice pp.ea f.ents.length pp.ec, .int .i64 f.conf.f, .int .i64 f.conf.w, .int .i64 f.conf.l, .int .i64 f.conf.x, .slice pp.sa f.snap.length pp.sc, .slice a LM.length cap] 28) := h3.heap hS2 (fun e => by have := e.2; have := HM.out.hi; omega)
                                      refine hK.out _ _ (trivial) (fun hS => ?_)
                                      clear hK K
                                      (try simp only [Act.put, List.setIfInBounds_toArray, List.set_cons_zero, List.set_cons_succ])
                                      refine wpAnyH_take (i := 6) (v := ?_) rfl (by kernel_rfl) (by kernel_rfl) (by kernel_rfl) (fun _ _ _ h => h) (Or.inl ⟨by rfl, ?_⟩) hS ?_
                                      rotate_left
                                      · intro W hW; go_simp; try with_reducible rfl
                                      (try simp only [Act.put, List.getElem_toArray, List.getElem_cons_succ, List.getElem_cons_zero, List.setIfInBounds_toArray, List.set_cons_zero, List.set_cons_succ])
                                      refine wpAnyH_ready (rs := [7]) (by kernel_rfl) (by simp) ?_
                                      refine AllReadyH.cons rfl (fun K hK => ?_) (AllReadyH.nil)
                                      all_goals (try simp only [List.getElem_toArray, List.getElem_cons_succ, List.getElem_cons_zero])
                                      (apply step_store_g1 hS3; rfl; rfl; rfl; rfl; rfl; rfl; kernel_rfl; rfl)
                                      intro w4 hx4 he4
                                      have HP := Lib.hid (HM.out.step hgl hdr hs hk hle2 hd hy HZ.out hb2 h2 h3 h4 hx4 he4)
                                      refine hK.out _ _ (trivial) (fun hS => ?_)
                                      clear hK K
                                      (try simp only [Act.put])
                                      refine wpAnyH_done (by kernel_rfl) ?_ _
                                      clear hS hx4 he4 h2 h3 h4 h5 hS3 hS2 hS1 hnew2 hb2 hs hk hy
                                      go_wp2_with fail
                                      go_roundw
                                      case rel => exact ⟨LM.length + 1, q2, LM ++ [(y, pm)], b', a', cap', by omega, by simp, by go_num, HP.out⟩
                                      case measure => simp [intOf]; omega
                                    · refine step_alloc_b (v := .slice (some ⟨w1.heap.size, 0, none⟩) 1 1) rfl (Mr.obj (y, pm)) (by go_simp; rfl) ?_
                                      intro w2 hb2 hnew2
                                      have hS2 : w2.heap[gx]? = some (.cells #[.int .i64 f.kind, .int .i64 f.from_, .int .i64 f.to, .int .i64 f.term, .int .i64 f.index, .int .i64 f.logt, .int .i64 f.commit, .int .i64 f.round, .bool f.yes, .slice pp.ea f.ents.length pp.ec, .int .i64 f.conf.f, .int .i64 f.conf.w, .int .i64 f.conf.l, .int .i64 f.conf.x, .slice pp.sa f.snap.length pp.sc, .slice a LM.length cap] 28) := hb2.box hS1
                                      refine hK.out _ _ (trivial) (fun hS => ?_)
                                      clear hK K
                                      (try simp only [Act.put, List.setIfInBounds_toArray, List.set_cons_zero, List.set_cons_succ])
                                      refine wpAnyH_ready (rs := [1]) (by kernel_rfl) (by simp) ?_
                                      refine AllReadyH.cons rfl (fun K hK => ?_) (AllReadyH.nil)
                                      all_goals (try simp only [List.getElem_toArray, List.getElem_cons_succ, List.getElem_cons_zero])
                                      have x15 := Bh.cell15 hS2
                                      go_simp
                                      refine hK.out _ _ (trivial) (fun hS => ?_)
                                      clear hK K
                                      (try simp only [Act.put, List.getElem_toArray, List.getElem_cons_succ, List.getElem_cons_zero, List.setIfInBounds_toArray, List.set_cons_zero, List.set_cons_succ])
                                      clear x15
                                      refine wpAnyH_ready (rs := [5]) (by kernel_rfl) (by simp) ?_
                                      refine AllReadyH.cons rfl (fun K hK => ?_) (AllReadyH.nil)
                                      all_goals (try simp only [List.getElem_toArray, List.getElem_cons_succ, List.getElem_cons_zero])
                                      refine step_append_y rfl (.tmp 43) (.tmp 46) 26 rfl 28 16 _ _ 176 Tryz.underlying26 rfl rfl rfl rfl rfl b a cap LM.length (Li.flat LM) (by simp [Act.eval]) (OwnC.kept (OwnC.kept HM.out.own ((kept_beh hdr).ofNone.trans hk) (fun _ e => by have e : b = br := e; have := HM.out.hi; have := HM.out.fr.lbr; have := HM.out.fr.xlo; omega)) (kept_beh hb2) (fun _ h => h)) _ 1 1 _ (by simp [Act.eval]) (Li.ListAt.src (Li.lit_list (L := [((y, pm) : Mr)]) hnew2 rfl (by simp))) Li.flat_one (by omega) (by omega) ?_
                                      intro b' a' cap' w3 h2 h3 h4 h5
                                      have hS3 : w3.heap[gx]? = some (.cells #[.int .i64 f.kind, .int .i64 f.from_, .int .i64 f.to, .int .i64 f.term, .int .i64 f.index, .int .i64 f.logt, .int .i64 f.commit, .int .i64 f.round, .bool f.yes, .slice pp.ea f.ents.length pp.ec, .int .i64 f.conf.f, .int .i64 f.conf.w, .int .i64 f.conf.l, .int .i64 f.conf.x, .slice pp.sa f.snap.length pp.sc, .slice a LM.length cap] 28) := h3.heap hS2 (fun e => by have := e.2; have := HM.out.hi; omega)
                                      refine hK.out _ _ (trivial) (fun hS => ?_)
                                      clear hK K
                                      (try simp only [Act.put, List.setIfInBounds_toArray, List.set_cons_zero, List.set_cons_succ])
                                      refine wpAnyH_take (i := 6) (v := ?_) rfl (by kernel_rfl) (by kernel_rfl) (by kernel_rfl) (fun _ _ _ h => h) (Or.inl ⟨by rfl, ?_⟩) hS ?_
                                      rotate_left
                                      · intro W hW; go_simp; try with_reducible rfl
                                      (try simp only [Act.put, List.getElem_toArray, List.getElem_cons_succ, List.getElem_cons_zero, List.setIfInBounds_toArray, List.set_cons_zero, List.set_cons_succ])
                                      refine wpAnyH_ready (rs := [7]) (by kernel_rfl) (by simp) ?_
                                      refine AllReadyH.cons rfl (fun K hK => ?_) (AllReadyH.nil)
                                      all_goals (try simp only [List.getElem_toArray, List.getElem_cons_succ, List.getElem_cons_zero])
                                      (apply step_store_g1 hS3; rfl; rfl; rfl; rfl; rfl; rfl; kernel_rfl; rfl)
                                      intro w4 hx4 he4
                                      have HP := Lib.hid (HM.out.step hgl hdr hs hk hle2 hd hy HZ.out hb2 h2 h3 h4 hx4 he4)
                                      refine hK.out _ _ (trivial) (fun hS => ?_)
                                      clear hK K
                                      (try simp only [Act.put])
                                      refine wpAnyH_done (by kernel_rfl) ?_ _
                                      clear hS hx4 he4 h2 h3 h4 h5 hS3 hS2 hS1 hnew2 hb2 hs hk hy
                                      go_wp2_with fail
                                      go_roundw
                                      case rel => exact ⟨LM.length + 1, q2, LM ++ [(y, pm)], b', a', cap', by omega, by simp, by go_num, HP.out⟩
                                      case measure => simp [intOf]; omega
                              · obtain rfl : k = N := by omega
                                subst hL
                                have HE := Lib.hid (seq_yes HHD.out (cLi_yes (A := cInner) HDU.out HM.out.got))
                                have hlo := HM.out.fr.xlo
                                go_wp2_with (first | (apply load_g HM.out.fr.xbox Tryz.underlying28; rfl; rfl; rfl; rfl; kernel_rfl) | (apply store_g 16 HM.out.fr.box; rfl; rfl; rfl; rfl; rfl; kernel_rfl; rfl; rfl; intro wz hz he; have HZ := Lib.hid (HM.out.fr.setR hz he); have HEL := Lib.hid (else_kept he); clear hz he))
                                (try simp only [Exit.inBlock, Exit.then])
                                refine bodyPost_ret (v := Mr.val (f, { pp with ia := a, n := LM.length, ic := cap })) (Bh.results_cell_row1 rfl _ _ _ _ _ _ _ rfl HZ.out.box Tryz.underlying28 rfl (by kernel_rfl)) rfl ?_
                                have hN : ∀ k, Nb gx wr a b k → ¬ Only w.heap.size k := fun k e e2 => by have := e.1; have e2 : k = w.heap.size := e2; omega
                                refine ⟨HZ.out.kept, ?_⟩
                                rw [HE.out]
                                refine ⟨⟨_, LM, rfl, rfl, ⟨?_, fun y hy => ?_, HM.out.zero, rfl, ⟨b, OwnC.kept HM.out.own HEL.out (fun _ e => by have e : b = w.heap.size := e; have := HM.out.hi; omega), fun _ => by have := HM.out.hi; omega⟩⟩⟩, HZ.out.rs⟩
                                · exact (((HM.out.self.kept HEL.out hN).mono fun k e => by have := e.1; omega).with a LM.length cap)
                                · exact ((HM.out.all y hy).kept HEL.out hN).mono fun k e => by have := e.1; omega
end Go.Proofs.YtaengjgmchpabaaGreat.Wr
