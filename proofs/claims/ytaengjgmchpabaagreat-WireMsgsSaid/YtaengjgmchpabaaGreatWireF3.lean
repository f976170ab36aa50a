import Derived.Test.YtaengjgmchpabaaGreatMergeWr29
import Derived.Test.YtaengjgmchpabaaGreatMergeWr30
/- The reference's writers: values, numbers, configurations. -/
namespace Go.Proofs.YtaengjgmchpabaaGreat.Wr
open Go Go.RowKit Vl Kv Ss Cn Mem Lg Nm
attribute [local go_sem] Nm.run_bits Nm.run_frombits run_store_float
set_option maxHeartbeats 800000 in
set_option maxRecDepth 100000 in
theorem refValueW (v : V) (hk : v.kind = 0 ∨ v.kind = 1 ∨ v.kind = 2) (h32 : v.text.size ≤ 16384) (w : World) : Calls Tryz.prog 83 #[v.val] w (Pk.NewB (valB v) w) := by
  obtain ⟨i0, hi0, hz0, hz1, hz2⟩ := info_parts Pk.infoU8
  have HV := Lib.hid (show valB v = Pk.intB v.kind ++ (if v.kind = 1 then Pk.fltB v.num else if v.kind = 2 then Pk.textB (bl v.text) else []) from rfl)
  have hi := (Pk.intB_len v.kind).2
  have hfl : (Pk.fltB v.num).length = 8 := rfl
  have htl := textB_len (bl v.text)
  have hbl := bl_length v.text
  have HA := Lib.hid (alloc_here (w := w) (Vobj v) rfl)
  have HK0 : Hid (Kept Mem.None w (w.alloc (Vobj v))) := (Kept.refl _ _).alloc _
  obtain ⟨k, n, t⟩ := v
  unfold Vobj at HA HK0
  dsimp only at HA HK0 hk HV h32 hi hfl htl hbl
  have kc := fun (w : World) (s : ByteArray) => run_bl w s
  rcases hk with rfl | rfl | rfl
  · go_enter Tryz.func83, Tryz.ntmps83
    go_wp2_with fail
    refine (Pk.refInt_any 0 _ (by omega) (by omega)).mono ?_
    rintro x w1 ⟨b, a, cap, rfl, ho, hb, hk, hb2⟩
    have hlen : (valB ⟨0, n, t⟩).length = (Pk.intB 0).length := by rw [HV.out]; simp
    have HO := Lib.hid (show OwnB 5 w1 b a cap (valB ⟨0, n, t⟩) by rw [HV.out]; simpa using ho)
    have HK := Lib.hid (HK0.out.trans hk)
    obtain ⟨c0, c1, c2, _⟩ := cells3 (hk.heap HA.out (fun h => h))
    have hs := HK0.out.size
    clear ho hk
    go_wp2_with fail
    go_ret
    exact ⟨b, a, cap, by rw [hlen]; rfl, HO.out, by omega, HK.out, hb2⟩
  · go_enter Tryz.func83, Tryz.ntmps83
    go_wp2_with fail
    refine (Pk.refInt_any 1 _ (by omega) (by omega)).mono ?_
    rintro x w1 ⟨b, a, cap, rfl, ho, hb, hk, hb2⟩
    have HO := Lib.hid ho
    have HK := Lib.hid (HK0.out.trans hk)
    obtain ⟨c0, c1, c2, _⟩ := cells3 (hk.heap HA.out (fun h => h))
    have hs := HK0.out.size
    clear ho hk
    go_wp2_with fail
    refine (Pk.refFloat_any n _).mono ?_
    rintro x w2 ⟨b2, a2, cap2, rfl, ho2, _, hk2, _⟩
    have HO1 := Lib.hid (HO.out.kept hk2 (fun _ h => h))
    have HO2 := Lib.hid ho2
    have HK2 := Lib.hid (HK.out.trans hk2)
    clear ho2 hk2 c0 c1 c2
    go_wp2_with (at_builtin; refine wpList_append_bytes rfl _ _ 25 rfl 5 i0 Tryz.underlying25 hi0 hz0 hz1 hz2 b a cap (Pk.intB 1) _ rfl HO1.out rfl b2 a2 cap2 (Pk.fltB n) _ rfl HO2.out.src rfl (by omega) ?_)
    intro b' a' cap' w' h2 h3 h4 h5
    have HM := Lib.hid (Pk.mine_append' (n := (Pk.intB 1).length + (Pk.fltB n).length) (l2 := valB ⟨1, n, t⟩) (by rw [HV.out]; rfl) (by simp) (show w.heap.size ≤ b by omega) HK2.out (Kept.refl _ _) h2 h3 (by simpa using h4))
    clear h2 h3 h4 h5
    go_wp2_with fail
    go_ret
    obtain ⟨b3, a3, cap3, e3, ho3, hb3, hb4, hk3⟩ := HM.out
    exact ⟨b3, a3, cap3, congrArg Ending.returned e3, ho3, hb3, hk3, hb4⟩
  · go_enter Tryz.func83, Tryz.ntmps83
    go_wp2_with fail
    refine (Pk.refInt_any 2 _ (by omega) (by omega)).mono ?_
    rintro x w1 ⟨b, a, cap, rfl, ho, hb, hk, hb2⟩
    have HO := Lib.hid ho
    have HK := Lib.hid (HK0.out.trans hk)
    obtain ⟨c0, c1, c2, _⟩ := cells3 (hk.heap HA.out (fun h => h))
    have hs := HK0.out.size
    clear ho hk
    go_wp2_with fail
    have HT := Lib.hid (Pk.refText_any w1.heap.size (some ⟨w1.heap.size, 0, none⟩) (grownCap w1 t.size 0 5) (bl t) (Lib.bytesWorld w1 5 t) (bytesW_src w1 t (by omega)).src (by omega))
    rw [hbl] at HT
    refine HT.out.mono ?_
    rintro x w2 ⟨b2, a2, cap2, rfl, ho2, _, hk2, _⟩
    have HO1 := Lib.hid (HO.out.kept ((kept_beh (bytesW_beh w1 t)).trans hk2) (fun _ h => h))
    have HO2 := Lib.hid ho2
    have HK2 := Lib.hid (HK.out.trans ((kept_beh (bytesW_beh w1 t)).trans hk2))
    clear ho2 hk2 c0 c1 c2
    go_wp2_with (at_builtin; refine wpList_append_bytes rfl _ _ 25 rfl 5 i0 Tryz.underlying25 hi0 hz0 hz1 hz2 b a cap (Pk.intB 2) _ rfl HO1.out rfl b2 a2 cap2 (Pk.textB (bl t)) _ rfl HO2.out.src rfl (by omega) ?_)
    intro b' a' cap' w' h2 h3 h4 h5
    have HM := Lib.hid (Pk.mine_append' (n := (Pk.intB 2).length + (Pk.textB (bl t)).length) (l2 := valB ⟨2, n, t⟩) (by rw [HV.out]; rfl) (by simp) (show w.heap.size ≤ b by omega) HK2.out (Kept.refl _ _) h2 h3 (by simpa using h4))
    clear h2 h3 h4 h5
    go_wp2_with fail
    go_ret
    obtain ⟨b3, a3, cap3, e3, ho3, hb3, hb4, hk3⟩ := HM.out
    exact ⟨b3, a3, cap3, congrArg Ending.returned e3, ho3, hb3, hk3, hb4⟩
/-- numbers in a block of their own -/
theorem intsLit (L : List Int) (w : World) (kb : Nat) (hkb : kb = w.heap.size) (cs : Array Value) (hc : cs = (L.map (Value.int .i64)).toArray) (n : Nat) (hn : n = L.length) (hL : ∀ x ∈ L, In64 x) (hl : L.length ≤ 1000) (B : List Nat) (hB : B = L.flatMap Pk.intB) :
    Calls Tryz.prog 42 #[.slice (some ⟨kb, 0, none⟩) n n] (w.alloc (.cells cs 3)) (Pk.NewB B (w.alloc (.cells cs 3))) := by
  subst hc hn hB hkb
  have hb := Bh.alloc_here (w := w) (.cells (L.map (Value.int .i64)).toArray 3) rfl
  refine refInts_any w.heap.size L.length L _ (fun i hi => ?_) (fun i hi => ?_) hl
  · have e : L.getD i 0 = L[i] := by simp [hi]
    rw [e, cell_of_row _ _ _ _ _ _ hb]
    simp [hi]
  · have e : L.getD i 0 = L[i] := by simp [hi]
    rw [e]
    exact hL _ (List.getElem_mem hi)
theorem cConf_ints (c : C) : cConf.enc c = [c.f, c.w, c.l, c.x].flatMap Pk.intB := by
  show Pk.intB c.f ++ (Pk.intB c.w ++ (Pk.intB c.l ++ Pk.intB c.x)) = _
  simp
set_option maxHeartbeats 3200000 in
set_option maxRecDepth 100000 in
theorem refConfW (c : C) (hf : FitC c) (w : World) : Calls Tryz.prog 45 #[c.val] w (Pk.NewB (cConf.enc c) w) := by
  have HB := Lib.hid (Bh.Bx.one w (Lg.C.obj c))
  have HI := Lib.hid (intsLit [c.f, c.w, c.l, c.x] (w.alloc (Lg.C.obj c)) (w.heap.size + 1) (by rw [size_alloc]) #[.int .i64 c.f, .int .i64 c.w, .int .i64 c.l, .int .i64 c.x] (by simp only [List.map_cons, List.map_nil]) 4 (by simp) (fun x hx => by
    simp only [List.mem_cons, List.not_mem_nil, or_false] at hx
    rcases hx with rfl | rfl | rfl | rfl
    · exact hf.f
    · exact hf.w
    · exact hf.l
    · exact hf.x) (by simp) (cConf.enc c) (cConf_ints c))
  generalize cConf.enc c = E at *
  unfold Lg.C.obj at HB HI
  obtain ⟨c0, c1, c2, c3⟩ := Bh.cells4 HB.out.b0
  go_enter Tryz.func45, Tryz.ntmps45
  go_wp2_with fail
  refine Calls.mono HI.out ?_
  rintro e w1 ⟨b, a, cap, rfl, ho, hb, hk, hb2⟩
  have HO := Lib.hid ho
  have HK := Lib.hid hk
  clear ho hk
  go_wp2_with fail
  go_ret
  exact ⟨b, a, cap, rfl, HO.out, by rw [size_alloc, size_alloc] at hb; omega, (((Kept.refl _ _).alloc _).alloc _).trans HK.out, hb2⟩
end Go.Proofs.YtaengjgmchpabaaGreat.Wr
