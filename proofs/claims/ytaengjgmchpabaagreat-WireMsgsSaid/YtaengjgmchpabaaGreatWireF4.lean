import Derived.Test.YtaengjgmchpabaaGreatWireF3
import Derived.Test.YtaengjgmchpabaaGreatWireW6
import Derived.Test.YtaengjgmchpabaaGreatMergeWr25
/- The reference's writers: an entry's bytes. -/
namespace Go.Proofs.YtaengjgmchpabaaGreat.Wr
open Go Go.RowKit Vl Kv Ss Cn Mem Lg Nm
attribute [local go_sem] Nm.run_bits Nm.run_frombits run_store_float
set_option maxHeartbeats 6400000 in
set_option maxRecDepth 100000 in
theorem refBytes0 (tm : Int) (cl sq ck : Int) (ky : ByteArray) (ok : Int) (on : Nat) (os : ByteArray) (vk : Int) (vn : Nat) (vs : ByteArray) (f wt l xx : Int) (w : World) (hf : FitE ⟨tm, 0, ⟨cl, sq, ⟨ck, ky, ⟨ok, on, os⟩, ⟨vk, vn, vs⟩⟩⟩, ⟨f, wt, l, xx⟩⟩) :
    Calls Tryz.prog 72 #[E.agg ⟨tm, 0, ⟨cl, sq, ⟨ck, ky, ⟨ok, on, os⟩, ⟨vk, vn, vs⟩⟩⟩, ⟨f, wt, l, xx⟩⟩] w (Pk.NewB (cEnt.enc ⟨tm, 0, ⟨cl, sq, ⟨ck, ky, ⟨ok, on, os⟩, ⟨vk, vn, vs⟩⟩⟩, ⟨f, wt, l, xx⟩⟩) w) := by
  obtain ⟨i0, hi0, hz0, hz1, hz2⟩ := info_parts Pk.infoU8
  have HF := Lib.hid hf
  obtain ⟨L1, hL1⟩ : ∃ L1, L1 = Pk.intB tm ++ Pk.intB 0 := ⟨_, rfl⟩
  have hl1 : L1.length ≤ 20 := by rw [hL1, List.length_append]; have := (Pk.intB_len tm).2; have := (Pk.intB_len 0).2; omega
  have HE : Hid (cEnt.enc ⟨tm, 0, ⟨cl, sq, ⟨ck, ky, ⟨ok, on, os⟩, ⟨vk, vn, vs⟩⟩⟩, ⟨f, wt, l, xx⟩⟩ = L1) := Lib.hid (by rw [hL1]; exact cEnt_enc0 tm _ _)
  rw [HE.out]
  have HI1 : Hid (Calls Tryz.prog 42 #[.slice (some ⟨w.heap.size + 1, 0, none⟩) 2 2] ((w.alloc (.cells #[.int .i64 tm, .int .i64 0, .int .i64 cl, .int .i64 sq, .int .i64 ck, .string ky, .int .i64 ok, .float .f64 on, .string os, .int .i64 vk, .float .f64 vn, .string vs, .int .i64 f, .int .i64 wt, .int .i64 l, .int .i64 xx] 70)).alloc (.cells #[.int .i64 tm, .int .i64 0] 3)) (Pk.NewB L1 ((w.alloc (.cells #[.int .i64 tm, .int .i64 0, .int .i64 cl, .int .i64 sq, .int .i64 ck, .string ky, .int .i64 ok, .float .f64 on, .string os, .int .i64 vk, .float .f64 vn, .string vs, .int .i64 f, .int .i64 wt, .int .i64 l, .int .i64 xx] 70)).alloc (.cells #[.int .i64 tm, .int .i64 0] 3)))) := intsLit [tm, 0] (w.alloc (.cells #[.int .i64 tm, .int .i64 0, .int .i64 cl, .int .i64 sq, .int .i64 ck, .string ky, .int .i64 ok, .float .f64 on, .string os, .int .i64 vk, .float .f64 vn, .string vs, .int .i64 f, .int .i64 wt, .int .i64 l, .int .i64 xx] 70)) (w.heap.size + 1) (by rw [size_alloc]) _ (by simp only [List.map_cons, List.map_nil]) 2 (by simp) (fun x hx => by
    simp only [List.mem_cons, List.not_mem_nil, or_false] at hx
    rcases hx with rfl | rfl
    · exact HF.out.term
    · exact HF.out.kind) (by simp) L1 (by rw [hL1]; simp)
  clear hL1 hf
  go_enter Tryz.func72, Tryz.ntmps72
  go_wp2_with fail
  refine Calls.mono HI1.out ?_
  rintro e w1 ⟨b1, a1, u1, rfl, ho, hb, hk, hb2⟩
  have HA := Lib.hid (Ac.start (w0 := w.alloc (.cells #[.int .i64 tm, .int .i64 0, .int .i64 cl, .int .i64 sq, .int .i64 ck, .string ky, .int .i64 ok, .float .f64 on, .string os, .int .i64 vk, .float .f64 vn, .string vs, .int .i64 f, .int .i64 wt, .int .i64 l, .int .i64 xx] 70)) ho (by rw [size_alloc] at hb ⊢; rw [size_alloc] at hb; omega) (((Kept.refl _ _).alloc _).trans hk) hb2 [(w.heap.size, (.cells #[.int .i64 tm, .int .i64 0, .int .i64 cl, .int .i64 sq, .int .i64 ck, .string ky, .int .i64 ok, .float .f64 on, .string os, .int .i64 vk, .float .f64 vn, .string vs, .int .i64 f, .int .i64 wt, .int .i64 l, .int .i64 xx] 70))] (fun n o hn => by
    rw [List.mem_singleton] at hn
    injection hn with h1 h2
    subst h1 h2
    exact Bh.alloc_here _ rfl))
  clear ho hb hk hb2 HI1
  have hx := (HA.out.box w.heap.size (.cells #[.int .i64 tm, .int .i64 0, .int .i64 cl, .int .i64 sq, .int .i64 ck, .string ky, .int .i64 ok, .float .f64 on, .string os, .int .i64 vk, .float .f64 vn, .string vs, .int .i64 f, .int .i64 wt, .int .i64 l, .int .i64 xx] 70) (List.mem_cons_self ..)).1
  obtain ⟨c0, c1, c2, c3, c4, c5, c6, c7, c8, c9, c10, c11, c12, c13, c14, c15⟩ := Lg.cells16 hx
  clear hx
  go_wp2_with fail
  go_ret
  have hn := HA.out.new ((Kept.refl Mem.None w).alloc (.cells #[.int .i64 tm, .int .i64 0, .int .i64 cl, .int .i64 sq, .int .i64 ck, .string ky, .int .i64 ok, .float .f64 on, .string os, .int .i64 vk, .float .f64 vn, .string vs, .int .i64 f, .int .i64 wt, .int .i64 l, .int .i64 xx] 70))
  exact hn
set_option maxHeartbeats 6400000 in
set_option maxRecDepth 100000 in
theorem refBytes2 (tm : Int) (cl sq ck : Int) (ky : ByteArray) (ok : Int) (on : Nat) (os : ByteArray) (vk : Int) (vn : Nat) (vs : ByteArray) (f wt l xx : Int) (w : World) (hf : FitE ⟨tm, 2, ⟨cl, sq, ⟨ck, ky, ⟨ok, on, os⟩, ⟨vk, vn, vs⟩⟩⟩, ⟨f, wt, l, xx⟩⟩) :
    Calls Tryz.prog 72 #[E.agg ⟨tm, 2, ⟨cl, sq, ⟨ck, ky, ⟨ok, on, os⟩, ⟨vk, vn, vs⟩⟩⟩, ⟨f, wt, l, xx⟩⟩] w (Pk.NewB (cEnt.enc ⟨tm, 2, ⟨cl, sq, ⟨ck, ky, ⟨ok, on, os⟩, ⟨vk, vn, vs⟩⟩⟩, ⟨f, wt, l, xx⟩⟩) w) := by
  obtain ⟨i0, hi0, hz0, hz1, hz2⟩ := info_parts Pk.infoU8
  have HF := Lib.hid hf
  obtain ⟨L1, hL1⟩ : ∃ L1, L1 = Pk.intB tm ++ Pk.intB 2 := ⟨_, rfl⟩
  have hl1 : L1.length ≤ 20 := by rw [hL1, List.length_append]; have := (Pk.intB_len tm).2; have := (Pk.intB_len 2).2; omega
  obtain ⟨L2, hL2⟩ : ∃ L2, L2 = cConf.enc ⟨f, wt, l, xx⟩ := ⟨_, rfl⟩
  have hl2 : L2.length ≤ 40 := by
    rw [hL2]
    show (Pk.intB f ++ (Pk.intB wt ++ (Pk.intB l ++ Pk.intB xx))).length ≤ 40
    simp only [List.length_append]
    have := (Pk.intB_len f).2; have := (Pk.intB_len wt).2; have := (Pk.intB_len l).2; have := (Pk.intB_len xx).2
    omega
  have HE : Hid (cEnt.enc ⟨tm, 2, ⟨cl, sq, ⟨ck, ky, ⟨ok, on, os⟩, ⟨vk, vn, vs⟩⟩⟩, ⟨f, wt, l, xx⟩⟩ = L1 ++ L2) := Lib.hid (by rw [hL1, hL2, cEnt_enc2]; simp only [List.append_assoc])
  have HC : Hid (∀ W, Calls Tryz.prog 45 #[C.val ⟨f, wt, l, xx⟩] W (Pk.NewB L2 W)) := fun W => by rw [hL2]; exact refConfW _ HF.out.conf W
  have HI1 : Hid (Calls Tryz.prog 42 #[.slice (some ⟨w.heap.size + 1, 0, none⟩) 2 2] ((w.alloc (.cells #[.int .i64 tm, .int .i64 2, .int .i64 cl, .int .i64 sq, .int .i64 ck, .string ky, .int .i64 ok, .float .f64 on, .string os, .int .i64 vk, .float .f64 vn, .string vs, .int .i64 f, .int .i64 wt, .int .i64 l, .int .i64 xx] 70)).alloc (.cells #[.int .i64 tm, .int .i64 2] 3)) (Pk.NewB L1 ((w.alloc (.cells #[.int .i64 tm, .int .i64 2, .int .i64 cl, .int .i64 sq, .int .i64 ck, .string ky, .int .i64 ok, .float .f64 on, .string os, .int .i64 vk, .float .f64 vn, .string vs, .int .i64 f, .int .i64 wt, .int .i64 l, .int .i64 xx] 70)).alloc (.cells #[.int .i64 tm, .int .i64 2] 3)))) := intsLit [tm, 2] (w.alloc (.cells #[.int .i64 tm, .int .i64 2, .int .i64 cl, .int .i64 sq, .int .i64 ck, .string ky, .int .i64 ok, .float .f64 on, .string os, .int .i64 vk, .float .f64 vn, .string vs, .int .i64 f, .int .i64 wt, .int .i64 l, .int .i64 xx] 70)) (w.heap.size + 1) (by rw [size_alloc]) _ (by simp only [List.map_cons, List.map_nil]) 2 (by simp) (fun x hx => by
    simp only [List.mem_cons, List.not_mem_nil, or_false] at hx
    rcases hx with rfl | rfl
    · exact HF.out.term
    · exact HF.out.kind) (by simp) L1 (by rw [hL1]; simp)
  clear hL1 hL2 hf
  go_enter Tryz.func72, Tryz.ntmps72
  go_wp2_with fail
  refine Calls.mono HI1.out ?_
  rintro e w1 ⟨b1, a1, u1, rfl, ho, hb, hk, hb2⟩
  have HA := Lib.hid (Ac.start (w0 := w.alloc (.cells #[.int .i64 tm, .int .i64 2, .int .i64 cl, .int .i64 sq, .int .i64 ck, .string ky, .int .i64 ok, .float .f64 on, .string os, .int .i64 vk, .float .f64 vn, .string vs, .int .i64 f, .int .i64 wt, .int .i64 l, .int .i64 xx] 70)) ho (by rw [size_alloc] at hb ⊢; rw [size_alloc] at hb; omega) (((Kept.refl _ _).alloc _).trans hk) hb2 [(w.heap.size, (.cells #[.int .i64 tm, .int .i64 2, .int .i64 cl, .int .i64 sq, .int .i64 ck, .string ky, .int .i64 ok, .float .f64 on, .string os, .int .i64 vk, .float .f64 vn, .string vs, .int .i64 f, .int .i64 wt, .int .i64 l, .int .i64 xx] 70))] (fun n o hn => by
    rw [List.mem_singleton] at hn
    injection hn with h1 h2
    subst h1 h2
    exact Bh.alloc_here _ rfl))
  clear ho hb hk hb2 HI1
  have hx := (HA.out.box w.heap.size (.cells #[.int .i64 tm, .int .i64 2, .int .i64 cl, .int .i64 sq, .int .i64 ck, .string ky, .int .i64 ok, .float .f64 on, .string os, .int .i64 vk, .float .f64 vn, .string vs, .int .i64 f, .int .i64 wt, .int .i64 l, .int .i64 xx] 70) (List.mem_cons_self ..)).1
  obtain ⟨c0, c1, c2, c3, c4, c5, c6, c7, c8, c9, c10, c11, c12, c13, c14, c15⟩ := Lg.cells16 hx
  clear hx
  go_wp2_with fail
  refine Calls.mono (HC.out _) ?_
  rintro e w2 ⟨b2, a2, u2, rfl, ho, hb, hk, hb2⟩
  have HA := Lib.hid (HA.out.on (beh_kept hk))
  have HO := Lib.hid ho
  clear ho hb hk hb2 c0 c1 c2 c3 c4 c5 c6 c7 c8 c9 c10 c11 c12 c13 c14 c15
  go_wp2_with ((at_builtin; refine wpList_append_bytes rfl _ _ 25 rfl 5 i0 Tryz.underlying25 hi0 hz0 hz1 hz2 b1 a1 u1 _ _ rfl (HA.out).own (by first | rfl | simp only [List.length_append]) b2 a2 u2 _ _ rfl HO.out.src rfl (by first | omega | (simp only [List.length_append]; omega)) ?_); (intro b3 a3 u3 w3 h2 h3 h4 h9); (obtain ⟨b4, h5⟩ := HA.out.app h2 h3 h4); (have HA := Lib.hid h5); (clear h2 h3 h4 h5 h9); (generalize hP : L1 ++ L2 = P2 at HA ⊢); (have HP2 := Lib.hid hP); (have hp2l : P2.length ≤ 60 := by rw [← hP, List.length_append]; omega); (clear hP))
  go_wp2_with fail
  go_ret
  have hn := HA.out.new ((Kept.refl Mem.None w).alloc (.cells #[.int .i64 tm, .int .i64 2, .int .i64 cl, .int .i64 sq, .int .i64 ck, .string ky, .int .i64 ok, .float .f64 on, .string os, .int .i64 vk, .float .f64 vn, .string vs, .int .i64 f, .int .i64 wt, .int .i64 l, .int .i64 xx] 70))
  rw [HE.out, HP2.out]
  exact hn
set_option maxHeartbeats 6400000 in
set_option maxRecDepth 100000 in
theorem refBytes1 (tm : Int) (cl sq ck : Int) (ky : ByteArray) (ok : Int) (on : Nat) (os : ByteArray) (vk : Int) (vn : Nat) (vs : ByteArray) (f wt l xx : Int) (w : World) (hf : FitE ⟨tm, 1, ⟨cl, sq, ⟨ck, ky, ⟨ok, on, os⟩, ⟨vk, vn, vs⟩⟩⟩, ⟨f, wt, l, xx⟩⟩) (ho : okE ⟨tm, 1, ⟨cl, sq, ⟨ck, ky, ⟨ok, on, os⟩, ⟨vk, vn, vs⟩⟩⟩, ⟨f, wt, l, xx⟩⟩ = true) :
    Calls Tryz.prog 72 #[E.agg ⟨tm, 1, ⟨cl, sq, ⟨ck, ky, ⟨ok, on, os⟩, ⟨vk, vn, vs⟩⟩⟩, ⟨f, wt, l, xx⟩⟩] w (Pk.NewB (cEnt.enc ⟨tm, 1, ⟨cl, sq, ⟨ck, ky, ⟨ok, on, os⟩, ⟨vk, vn, vs⟩⟩⟩, ⟨f, wt, l, xx⟩⟩) w) := by
  obtain ⟨i0, hi0, hz0, hz1, hz2⟩ := info_parts Pk.infoU8
  have HF := Lib.hid hf
  obtain ⟨L1, hL1⟩ : ∃ L1, L1 = Pk.intB tm ++ Pk.intB 1 := ⟨_, rfl⟩
  have hl1 : L1.length ≤ 20 := by rw [hL1, List.length_append]; have := (Pk.intB_len tm).2; have := (Pk.intB_len 1).2; omega
  have hov : okV ⟨ok, on, os⟩ = true ∧ okV ⟨vk, vn, vs⟩ = true := by
    unfold okE at ho
    rw [Bool.and_eq_true] at ho
    have h2 := ho.2
    simpa using h2
  have kind3 : ∀ v : V, okV v = true → v.kind = 0 ∨ v.kind = 1 ∨ v.kind = 2 := fun v h => by
    unfold okV at h
    rw [Bool.and_eq_true, Bool.and_eq_true, Bool.and_eq_true, decide_eq_true_eq, decide_eq_true_eq] at h
    omega
  obtain ⟨L2, hL2⟩ : ∃ L2, L2 = Pk.intB cl ++ (Pk.intB sq ++ Pk.intB ck) := ⟨_, rfl⟩
  obtain ⟨L3, hL3⟩ : ∃ L3, L3 = Pk.textB (bl ky) := ⟨_, rfl⟩
  obtain ⟨L4, hL4⟩ : ∃ L4, L4 = valB ⟨ok, on, os⟩ := ⟨_, rfl⟩
  obtain ⟨L5, hL5⟩ : ∃ L5, L5 = valB ⟨vk, vn, vs⟩ := ⟨_, rfl⟩
  have hl2 : L2.length ≤ 30 := by
    rw [hL2]
    simp only [List.length_append]
    have := (Pk.intB_len cl).2; have := (Pk.intB_len sq).2; have := (Pk.intB_len ck).2
    omega
  have hky := HF.out.call.key
  have hbl := bl_length ky
  have hl3 : L3.length ≤ 16400 := by rw [hL3]; have := textB_len (bl ky); rw [bl_length] at this; have h2 : ky.size ≤ 16384 := hky; omega
  have hl4 : L4.length ≤ 16410 := by rw [hL4]; exact valB_le ⟨ok, on, os⟩ HF.out.call.old.text
  have hl5 : L5.length ≤ 16410 := by rw [hL5]; exact valB_le ⟨vk, vn, vs⟩ HF.out.call.val.text
  have HE : Hid (cEnt.enc ⟨tm, 1, ⟨cl, sq, ⟨ck, ky, ⟨ok, on, os⟩, ⟨vk, vn, vs⟩⟩⟩, ⟨f, wt, l, xx⟩⟩ = L1 ++ L2 ++ L3 ++ L4 ++ L5) := Lib.hid (by
    rw [hL1, hL2, hL3, hL4, hL5, cEnt_enc1]
    show _ ++ (_ ++ (Pk.intB cl ++ (Pk.intB sq ++ (Pk.intB ck ++ (Pk.textB (bl ky) ++ (cVal.enc ⟨ok, on, os⟩ ++ cVal.enc ⟨vk, vn, vs⟩)))))) = _
    rw [cVal_enc, cVal_enc]
    simp only [List.append_assoc])
  have HV1 : Hid (∀ W, Calls Tryz.prog 83 #[V.val ⟨ok, on, os⟩] W (Pk.NewB L4 W)) := fun W => by rw [hL4]; exact refValueW _ (kind3 _ hov.1) HF.out.call.old.text W
  have HV2 : Hid (∀ W, Calls Tryz.prog 83 #[V.val ⟨vk, vn, vs⟩] W (Pk.NewB L5 W)) := fun W => by rw [hL5]; exact refValueW _ (kind3 _ hov.2) HF.out.call.val.text W
  have kc := fun (w : World) (s : ByteArray) => run_bl w s
  have HTX : ∀ W : World, Hid (Calls Tryz.prog 46 #[.slice (some ⟨W.heap.size, 0, none⟩) ky.size (grownCap W ky.size 0 5)] (Lib.bytesWorld W 5 ky) (Pk.NewB L3 (Lib.bytesWorld W 5 ky))) := fun W => by
    have h2 : ky.size ≤ 16384 := hky
    have := Pk.refText_any W.heap.size (some ⟨W.heap.size, 0, none⟩) (grownCap W ky.size 0 5) (bl ky) (Lib.bytesWorld W 5 ky) (bytesW_src W ky (by omega)).src (by omega)
    rw [hL3]
    rwa [hbl] at this
  have HI2 : Hid (∀ (W : World) (kb : Nat), kb = W.heap.size → Calls Tryz.prog 42 #[.slice (some ⟨kb, 0, none⟩) 3 3] (W.alloc (.cells #[.int .i64 cl, .int .i64 sq, .int .i64 ck] 3)) (Pk.NewB L2 (W.alloc (.cells #[.int .i64 cl, .int .i64 sq, .int .i64 ck] 3)))) := fun W kb hkb => intsLit [cl, sq, ck] W kb hkb _ (by simp only [List.map_cons, List.map_nil]) 3 (by simp) (fun x hx => by
    simp only [List.mem_cons, List.not_mem_nil, or_false] at hx
    rcases hx with rfl | rfl | rfl
    · exact HF.out.call.client
    · exact HF.out.call.seq
    · exact HF.out.call.kind) (by simp) L2 (by rw [hL2]; simp)
  have HI1 : Hid (Calls Tryz.prog 42 #[.slice (some ⟨w.heap.size + 1, 0, none⟩) 2 2] ((w.alloc (.cells #[.int .i64 tm, .int .i64 1, .int .i64 cl, .int .i64 sq, .int .i64 ck, .string ky, .int .i64 ok, .float .f64 on, .string os, .int .i64 vk, .float .f64 vn, .string vs, .int .i64 f, .int .i64 wt, .int .i64 l, .int .i64 xx] 70)).alloc (.cells #[.int .i64 tm, .int .i64 1] 3)) (Pk.NewB L1 ((w.alloc (.cells #[.int .i64 tm, .int .i64 1, .int .i64 cl, .int .i64 sq, .int .i64 ck, .string ky, .int .i64 ok, .float .f64 on, .string os, .int .i64 vk, .float .f64 vn, .string vs, .int .i64 f, .int .i64 wt, .int .i64 l, .int .i64 xx] 70)).alloc (.cells #[.int .i64 tm, .int .i64 1] 3)))) := intsLit [tm, 1] (w.alloc (.cells #[.int .i64 tm, .int .i64 1, .int .i64 cl, .int .i64 sq, .int .i64 ck, .string ky, .int .i64 ok, .float .f64 on, .string os, .int .i64 vk, .float .f64 vn, .string vs, .int .i64 f, .int .i64 wt, .int .i64 l, .int .i64 xx] 70)) (w.heap.size + 1) (by rw [size_alloc]) _ (by simp only [List.map_cons, List.map_nil]) 2 (by simp) (fun x hx => by
    simp only [List.mem_cons, List.not_mem_nil, or_false] at hx
    rcases hx with rfl | rfl
    · exact HF.out.term
    · exact HF.out.kind) (by simp) L1 (by rw [hL1]; simp)
  clear hL1 hL2 hL3 hL4 hL5 hf ho hov kind3 hbl hky
  go_enter Tryz.func72, Tryz.ntmps72
  go_wp2_with fail
  refine Calls.mono HI1.out ?_
  rintro e w1 ⟨b1, a1, u1, rfl, ho, hb, hk, hb2⟩
  have HA := Lib.hid (Ac.start (w0 := w.alloc (.cells #[.int .i64 tm, .int .i64 1, .int .i64 cl, .int .i64 sq, .int .i64 ck, .string ky, .int .i64 ok, .float .f64 on, .string os, .int .i64 vk, .float .f64 vn, .string vs, .int .i64 f, .int .i64 wt, .int .i64 l, .int .i64 xx] 70)) ho (by rw [size_alloc] at hb ⊢; rw [size_alloc] at hb; omega) (((Kept.refl _ _).alloc _).trans hk) hb2 [(w.heap.size, (.cells #[.int .i64 tm, .int .i64 1, .int .i64 cl, .int .i64 sq, .int .i64 ck, .string ky, .int .i64 ok, .float .f64 on, .string os, .int .i64 vk, .float .f64 vn, .string vs, .int .i64 f, .int .i64 wt, .int .i64 l, .int .i64 xx] 70))] (fun n o hn => by
    rw [List.mem_singleton] at hn
    injection hn with h1 h2
    subst h1 h2
    exact Bh.alloc_here _ rfl))
  clear ho hb hk hb2 HI1
  have hx := (HA.out.box w.heap.size (.cells #[.int .i64 tm, .int .i64 1, .int .i64 cl, .int .i64 sq, .int .i64 ck, .string ky, .int .i64 ok, .float .f64 on, .string os, .int .i64 vk, .float .f64 vn, .string vs, .int .i64 f, .int .i64 wt, .int .i64 l, .int .i64 xx] 70) (List.mem_cons_self ..)).1
  obtain ⟨c0, c1, c2, c3, c4, c5, c6, c7, c8, c9, c10, c11, c12, c13, c14, c15⟩ := Lg.cells16 hx
  clear hx
  go_wp2_with fail
  refine Calls.mono (HI2.out (w1.alloc (.cells #[.int .i64 cl, .int .i64 sq, .int .i64 ck, .string ky, .int .i64 ok, .float .f64 on, .string os, .int .i64 vk, .float .f64 vn, .string vs] 68)) (w1.heap.size + 1) (by rw [size_alloc])) ?_
  rintro e w2 ⟨b2, a2, u2, rfl, ho, hb, hk, hb2⟩
  have HA := Lib.hid (((HA.out.add (.cells #[.int .i64 cl, .int .i64 sq, .int .i64 ck, .string ky, .int .i64 ok, .float .f64 on, .string os, .int .i64 vk, .float .f64 vn, .string vs] 68)).on (below_alloc _ _)).on (beh_kept hk))
  have HO := Lib.hid ho
  clear ho hb hk hb2 c0 c1 c2 c3 c4 c5 c6 c7 c8 c9 c10 c11 c12 c13 c14 c15 HI2
  go_wp2_with ((at_builtin; refine wpList_append_bytes rfl _ _ 25 rfl 5 i0 Tryz.underlying25 hi0 hz0 hz1 hz2 b1 a1 u1 _ _ rfl (HA.out).own (by first | rfl | simp only [List.length_append]) b2 a2 u2 _ _ rfl HO.out.src rfl (by first | omega | (simp only [List.length_append]; omega)) ?_); (intro b3 a3 u3 w3 h2 h3 h4 h9); (obtain ⟨b4, h5⟩ := HA.out.app h2 h3 h4); (have HA := Lib.hid h5); (clear h2 h3 h4 h5 h9); (generalize hP : L1 ++ L2 = P2 at HA ⊢); (have HP2 := Lib.hid hP); (have hp2l : P2.length ≤ 60 := by rw [← hP, List.length_append]; omega); (clear hP); (have hx := (HA.out.box w1.heap.size (.cells #[.int .i64 cl, .int .i64 sq, .int .i64 ck, .string ky, .int .i64 ok, .float .f64 on, .string os, .int .i64 vk, .float .f64 vn, .string vs] 68) (List.mem_cons_self ..)).1); (obtain ⟨d0, d1, d2, d3, d4, d5, d6, d7, d8, d9⟩ := Lg.cells10c (c := ⟨cl, sq, ⟨ck, ky, ⟨ok, on, os⟩, ⟨vk, vn, vs⟩⟩⟩) hx); (clear hx))
  refine Calls.mono (HTX _).out ?_
  rintro e w4 ⟨b5, a5, u5, rfl, ho, hb, hk, hb2⟩
  have HA := Lib.hid ((HA.out.on (bytesW_beh w3 ky)).on (beh_kept hk))
  have HO := Lib.hid ho
  clear ho hb hk hb2 HTX d0 d1 d2 d3 d4 d5 d6 d7 d8 d9
  go_wp2_with ((at_builtin; refine wpList_append_bytes rfl _ _ 25 rfl 5 i0 Tryz.underlying25 hi0 hz0 hz1 hz2 b4 a3 u3 _ _ rfl (HA.out).own (by first | rfl | simp only [List.length_append]) b5 a5 u5 _ _ rfl HO.out.src rfl (by first | omega | (simp only [List.length_append]; omega)) ?_); (intro b6' a6 u6 w6 h2 h3 h4 h9); (obtain ⟨b6, h5⟩ := HA.out.app h2 h3 h4); (have HA := Lib.hid h5); (clear h2 h3 h4 h5 h9); (generalize hP : P2 ++ L3 = P3 at HA ⊢); (have HP3 := Lib.hid hP); (have hp3l : P3.length ≤ 17000 := by rw [← hP, List.length_append]; omega); (clear hP))
  go_wp2_with fail
  have HA := Lib.hid (HA.out.on (Beh.start _).drew)
  refine wp_region_held_drew (S := fun W => W.heap[w1.heap.size]? = some (.cells #[.int .i64 cl, .int .i64 sq, .int .i64 ck, .string ky, .int .i64 ok, .float .f64 on, .string os, .int .i64 vk, .float .f64 vn, .string vs] 68)) (by kernel_rfl) ((HA.out.box _ _ (List.mem_cons_self ..)).1) (fun hS => ?_)
  generalize World.drew w6 = wd at HA hS ⊢
  (try simp only [Act.put, List.getElem_toArray, List.getElem_cons_succ, List.getElem_cons_zero, List.setIfInBounds_toArray, List.set_cons_zero, List.set_cons_succ])
  refine wpAnyH_take (i := 0) (v := ?_) rfl (by kernel_rfl) (by kernel_rfl) (by kernel_rfl) (fun _ _ _ h => h) (Or.inl ⟨by rfl, ?_⟩) hS ?_
  rotate_left
  · intro W hW; go_simp; try with_reducible rfl
  (try simp only [Act.put, List.getElem_toArray, List.getElem_cons_zero, List.setIfInBounds_toArray, List.set_cons_zero, List.set_cons_succ])
  refine wpAnyH_take (i := 1) (v := ?_) rfl (by kernel_rfl) (by kernel_rfl) (by kernel_rfl) (fun _ _ _ h => h) (Or.inl ⟨by rfl, ?_⟩) hS ?_
  rotate_left
  · intro W hW; go_simp; try with_reducible rfl
  (try simp only [Act.put, List.getElem_toArray, List.getElem_cons_succ, List.getElem_cons_zero, List.setIfInBounds_toArray, List.set_cons_zero, List.set_cons_succ])
  refine wpAnyH_take (i := 2) (v := ?_) rfl (by kernel_rfl) (by kernel_rfl) (by kernel_rfl) (fun _ _ _ h => h) (Or.inl ⟨by rfl, ?_⟩) hS ?_
  rotate_left
  · intro W hW; go_simp; try with_reducible rfl
  (try simp only [Act.put, List.getElem_toArray, List.getElem_cons_succ, List.getElem_cons_zero, List.setIfInBounds_toArray, List.set_cons_zero, List.set_cons_succ])
  refine wpAnyH_take (i := 3) (v := ?_) rfl (by kernel_rfl) (by kernel_rfl) (by kernel_rfl) (fun _ _ _ h => h) (Or.inl ⟨by rfl, ?_⟩) hS ?_
  rotate_left
  · intro W hW; (obtain ⟨d0, d1, d2, d3, d4, d5, d6, d7, d8, d9⟩ := Lg.cells10c (c := ⟨cl, sq, ⟨ck, ky, ⟨ok, on, os⟩, ⟨vk, vn, vs⟩⟩⟩) hW); go_simp; try with_reducible rfl
  (try simp only [Act.put, List.getElem_toArray, List.getElem_cons_succ, List.getElem_cons_zero, List.setIfInBounds_toArray, List.set_cons_zero, List.set_cons_succ])
  refine wpAnyH_take (i := 6) (v := ?_) rfl (by kernel_rfl) (by kernel_rfl) (by kernel_rfl) (fun _ _ _ h => h) (Or.inl ⟨by rfl, ?_⟩) hS ?_
  rotate_left
  · intro W hW; go_simp; try with_reducible rfl
  (try simp only [Act.put, List.getElem_toArray, List.getElem_cons_succ, List.getElem_cons_zero, List.setIfInBounds_toArray, List.set_cons_zero, List.set_cons_succ])
  refine wpAnyH_take (i := 7) (v := ?_) rfl (by kernel_rfl) (by kernel_rfl) (by kernel_rfl) (fun _ _ _ h => h) (Or.inl ⟨by rfl, ?_⟩) hS ?_
  rotate_left
  · intro W hW; go_simp; try with_reducible rfl
  (try simp only [Act.put, List.getElem_toArray, List.getElem_cons_succ, List.getElem_cons_zero, List.setIfInBounds_toArray, List.set_cons_zero, List.set_cons_succ])
  refine wpAnyH_take (i := 8) (v := ?_) rfl (by kernel_rfl) (by kernel_rfl) (by kernel_rfl) (fun _ _ _ h => h) (Or.inl ⟨by rfl, ?_⟩) hS ?_
  rotate_left
  · intro W hW; (obtain ⟨d0, d1, d2, d3, d4, d5, d6, d7, d8, d9⟩ := Lg.cells10c (c := ⟨cl, sq, ⟨ck, ky, ⟨ok, on, os⟩, ⟨vk, vn, vs⟩⟩⟩) hW); go_simp; try with_reducible rfl
  (try simp only [Act.put, List.getElem_toArray, List.getElem_cons_succ, List.getElem_cons_zero, List.setIfInBounds_toArray, List.set_cons_zero, List.set_cons_succ])
  refine wpAnyH_ready (rs := [4]) (by kernel_rfl) (by simp) ?_
  refine AllReadyH.cons rfl (fun K hK => ?_) (AllReadyH.nil)
  all_goals (try simp only [List.getElem_toArray, List.getElem_cons_succ, List.getElem_cons_zero])
  go_simp
  go_at_call 83
  refine Calls.mono (HV1.out _) ?_
  rintro x w7 ⟨b7, a7, u7, rfl, ho7, _, hk7, _⟩
  have HA := Lib.hid (HA.out.on (beh_kept hk7))
  have HO7 := Lib.hid ho7
  refine hK.out _ _ (hk7.heap hS (fun h => h)) (fun hS => ?_)
  clear hK K
  (try simp only [Act.put, List.getElem_toArray, List.getElem_cons_succ, List.getElem_cons_zero, List.setIfInBounds_toArray, List.set_cons_zero, List.set_cons_succ])
  clear ho7 hk7
  refine wpAnyH_ready (rs := [5]) (by kernel_rfl) (by simp) ?_
  refine AllReadyH.cons rfl (fun K hK => ?_) (AllReadyH.nil)
  all_goals (try simp only [List.getElem_toArray, List.getElem_cons_succ, List.getElem_cons_zero])
  rw [if_pos (by rfl)]
  refine wp_append_bytes _ _ 25 rfl 5 i0 Tryz.underlying25 hi0 hz0 hz1 hz2 b6 a6 u6 P3 _ rfl (HA.out.own) (by first | rfl | simp only [List.length_append]) b7 a7 u7 L4 L4.length rfl HO7.out.src rfl (by first | omega | (simp only [List.length_append]; omega)) ?_
  intro b8 a8 u8 w8 h2 h3 h4 h9
  obtain ⟨b9, h8⟩ := HA.out.app h2 h3 h4
  have HA := Lib.hid h8
  clear h2 h3 h4 h8 h9
  generalize hP : P3 ++ L4 = P4 at HA ⊢
  have HP4 := Lib.hid hP
  have hp4l : P4.length ≤ 34000 := by rw [← hP, List.length_append]; omega
  clear hP
  refine hK.out _ _ ((HA.out.box _ _ (List.mem_cons_self ..)).1) (fun hS => ?_)
  clear hK K
  (try simp only [Act.put, List.setIfInBounds_toArray, List.set_cons_zero, List.set_cons_succ])
  clear HO7
  refine wpAnyH_ready (rs := [9]) (by kernel_rfl) (by simp) ?_
  refine AllReadyH.cons rfl (fun K hK => ?_) (AllReadyH.nil)
  all_goals (try simp only [List.getElem_toArray, List.getElem_cons_succ, List.getElem_cons_zero])
  go_simp
  go_at_call 83
  refine Calls.mono (HV2.out _) ?_
  rintro x w9 ⟨b10, a10, u10, rfl, ho10, _, hk10, _⟩
  have HA := Lib.hid (HA.out.on (beh_kept hk10))
  have HO10 := Lib.hid ho10
  refine hK.out _ _ (hk10.heap hS (fun h => h)) (fun hS => ?_)
  clear hK K
  (try simp only [Act.put, List.getElem_toArray, List.getElem_cons_succ, List.getElem_cons_zero, List.setIfInBounds_toArray, List.set_cons_zero, List.set_cons_succ])
  clear ho10 hk10
  refine wpAnyH_ready (rs := [10]) (by kernel_rfl) (by simp) ?_
  refine AllReadyH.cons rfl (fun K hK => ?_) (AllReadyH.nil)
  all_goals (try simp only [List.getElem_toArray, List.getElem_cons_succ, List.getElem_cons_zero])
  rw [if_pos (by rfl)]
  refine wp_append_bytes _ _ 25 rfl 5 i0 Tryz.underlying25 hi0 hz0 hz1 hz2 b9 a8 u8 P4 _ rfl (HA.out.own) (by first | rfl | simp only [List.length_append]) b10 a10 u10 L5 L5.length rfl HO10.out.src rfl (by first | omega | (simp only [List.length_append]; omega)) ?_
  intro b11 a11 u11 w11 h2 h3 h4 h9
  obtain ⟨b12, h8⟩ := HA.out.app h2 h3 h4
  have HA := Lib.hid h8
  clear h2 h3 h4 h8 h9
  generalize hP : P4 ++ L5 = P5 at HA ⊢
  have HP5 := Lib.hid hP
  have hp5l : P5.length ≤ 51000 := by rw [← hP, List.length_append]; omega
  clear hP
  refine hK.out _ _ ((HA.out.box _ _ (List.mem_cons_self ..)).1) (fun hS => ?_)
  clear hK K
  (try simp only [Act.put, List.setIfInBounds_toArray, List.set_cons_zero, List.set_cons_succ])
  clear HO10
  refine wpAnyH_take (i := 11) (v := ?_) rfl (by kernel_rfl) (by kernel_rfl) (by kernel_rfl) (fun _ _ _ h => h) (Or.inl ⟨by rfl, ?_⟩) hS ?_
  rotate_left
  · intro W hW; go_simp; try with_reducible rfl
  (try simp only [Act.put, List.getElem_toArray, List.getElem_cons_succ, List.getElem_cons_zero, List.setIfInBounds_toArray, List.set_cons_zero, List.set_cons_succ])
  refine wpAnyH_done (by kernel_rfl) ?_ _
  go_wp2_with fail
  go_ret
  have hn := HA.out.new ((Kept.refl Mem.None w).alloc (.cells #[.int .i64 tm, .int .i64 1, .int .i64 cl, .int .i64 sq, .int .i64 ck, .string ky, .int .i64 ok, .float .f64 on, .string os, .int .i64 vk, .float .f64 vn, .string vs, .int .i64 f, .int .i64 wt, .int .i64 l, .int .i64 xx] 70))
  rw [HE.out, HP2.out, HP3.out, HP4.out, HP5.out]
  exact hn
end Go.Proofs.YtaengjgmchpabaaGreat.Wr
