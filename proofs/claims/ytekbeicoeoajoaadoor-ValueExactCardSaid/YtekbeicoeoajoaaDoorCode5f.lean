/- Walks of the landed package value: read, Parse. -/
import Derived.Test.YtekbeicoeoajoaaDoorCode5e
import Derived.Laws.ResultCell
namespace Go.Proofs.YtekbeicoeoajoaaDoor.Vl
open Go Go.RowKit Go.Proofs.YtekbeicoeoajoaaDoor.Nm
attribute [local go_sem] run_bits run_frombits run_store_float

theorem results_cell_one {fn : Func} {p : Tmp} {ty : TypeId} (h : fn.results = #[.cell p ty]) (tmps : Array Value) (P : Program) (w : World) :
    (results fn tmps).run P w = ((asAddr (tmps.getD p undef)).run P w).andThen fun a w₁ => (loadVar ty a).run P w₁ := by
  simp only [results, h]
  simp [Sem.run_bind, Result.andThen]
theorem cut_has (s : ByteArray) (c : UInt8) (r : List UInt8) (h : s.data.toList = c :: r) (w : World) :
    Calls Tryd.prog 52 #[.string s, .string ⟨#[c]⟩] w fun e w' => e = .returned (.tuple #[.string ⟨r.toArray⟩, .bool true]) ∧ w = w' := by
  refine (Tryd.strings_CutPrefix _ _ w).mono ?_
  rintro e w' ⟨rfl, rfl⟩
  have e1 : Lib.hasPrefix (c :: r) [c] = true := by simp [Lib.hasPrefix]
  have e2 : Lib.trimPrefix (c :: r) [c] = r := by simp [Lib.trimPrefix, e1]
  refine ⟨?_, rfl⟩
  rw [h]
  show Ending.returned (.tuple #[.string ⟨(Lib.trimPrefix (c :: r) [c]).toArray⟩, .bool (Lib.hasPrefix (c :: r) [c])]) = _
  rw [e1, e2]
theorem cut_not (s : ByteArray) (c : UInt8) (h : ∀ r, s.data.toList ≠ c :: r) (w : World) :
    Calls Tryd.prog 52 #[.string s, .string ⟨#[c]⟩] w fun e w' => e = .returned (.tuple #[.string s, .bool false]) ∧ w = w' := by
  refine (Tryd.strings_CutPrefix _ _ w).mono ?_
  rintro e w' ⟨rfl, rfl⟩
  have e1 : Lib.hasPrefix s.data.toList [c] = false := by
    unfold Lib.hasPrefix
    cases hl : s.data.toList with
    | nil => rfl
    | cons a r =>
      have : a ≠ c := fun e => h r (by rw [hl, e])
      simp [List.isPrefixOf, Ne.symm this]
  have e2 : Lib.trimPrefix s.data.toList [c] = s.data.toList := by simp [Lib.trimPrefix, e1]
  refine ⟨?_, rfl⟩
  show Ending.returned (.tuple #[.string ⟨(Lib.trimPrefix s.data.toList [c]).toArray⟩, .bool (Lib.hasPrefix s.data.toList [c])]) = _
  rw [e1, e2, ← of_list (o := s) rfl]
/-- what read answers: what the text might be of -/
def ReadAs (l : List UInt8) (u : V) : Prop := u.num < 18446744073709551616 ∧ u.text.size ≤ 32 ∧ (0 ≤ u.kind ∧ u.kind ≤ 2) ∧ ∀ r : V, r.In → r.check = 0 → l = r.textL → r = u
theorem textL_num {r : V} {l : List UInt8} (h : 110 :: l = r.textL) : r.kind = 1 ∧ l = textF r.num := by
  unfold V.textL at h
  split at h
  · exact ⟨by assumption, (List.cons.inj h).2⟩
  · split at h
    · exact absurd (List.cons.inj h).1 (by decide)
    · exact absurd (List.cons.inj h).1 (by decide)
theorem textL_text {r : V} {l : List UInt8} (h : 116 :: l = r.textL) : r.kind = 2 ∧ l = hexOf r.text.data.toList := by
  unfold V.textL at h
  split at h
  · exact absurd (List.cons.inj h).1 (by decide)
  · split at h
    · exact ⟨by assumption, (List.cons.inj h).2⟩
    · exact absurd (List.cons.inj h).1 (by decide)
theorem read_num {l : List UInt8} {x : Nat} {ok : Bool} (h : Parsed l x ok) : ReadAs (110 :: l) ⟨1, x, (⟨#[]⟩ : ByteArray)⟩ := by
  refine ⟨?_, show (⟨#[]⟩ : ByteArray).size ≤ 32 by decide, by simp, fun r hr hc e => ?_⟩
  · rcases h with ⟨_, h, _⟩ | ⟨_, rfl, _⟩
    · exact h
    · decide
  · obtain ⟨hk, rfl⟩ := textL_num e
    obtain ⟨_, hs⟩ := h.back hr.num
    have c1 := (check_zero hc).2.2.2.2
    rcases h with ⟨_, hx, hl, cx⟩ | ⟨_, _, hn⟩
    · have : canon r.num = canon x := by unfold Nm.same at hs; exact of_decide_eq_true hs
      exact V.ext hk (by rw [← c1, this, cx]) (empty_of ((check_zero hc).2.2.1 (by omega)))
    · exact absurd rfl (hn _ hr.num)
theorem read_text {l o : List UInt8} (h : FewTold l o) : ReadAs (116 :: l) ⟨2, 0, (⟨o.toArray⟩ : ByteArray)⟩ := by
  refine ⟨show 0 < 18446744073709551616 by decide, ?_, by simp, fun r hr hc e => ?_⟩
  · show o.toArray.size ≤ 32
    rw [List.size_toArray]; exact h.1
  · obtain ⟨hk, rfl⟩ := textL_text e
    have c1 := check_zero hc
    have := h.2 r.text.data.toList (by rw [size_list]; exact c1.2.1 hk) rfl
    exact V.ext hk (c1.2.2.2.1 (by omega)) (of_list this)
theorem read_none {l : List UInt8} (h1 : ∀ r, l ≠ 110 :: r) (h2 : ∀ r, l ≠ 116 :: r) : ReadAs l V.zero := by
  refine ⟨by decide, by decide, by simp, fun r hr hc e => ?_⟩
  have hk : r.kind = 0 := by
    unfold V.textL at e
    split at e
    · exact absurd e (h1 _)
    · split at e
      · exact absurd e (h2 _)
      · have := (check_zero hc).1; omega
  have c1 := check_zero hc
  exact V.ext hk (c1.2.2.2.1 (by omega)) (empty_of (c1.2.2.1 (by omega)))

set_option maxHeartbeats 1600000 in
theorem read_any (s : ByteArray) (hs : s.size ≤ 1000000) (w : World) (h0 : Tab16 w) (hv : ErrVars w) :
    Calls Tryd.prog 41 #[.string s] w fun e w' => ∃ u : V, e = .returned u.val ∧ ReadAs s.data.toList u ∧ Below w.heap.size w w' := by
  have hlen := size_list s
  have HZ : ∀ o, (w.alloc o).heap[w.heap.size]? = some o := fun o => alloc_here o rfl
  by_cases hn : ∃ r, s.data.toList = 110 :: r
  · obtain ⟨r, hr⟩ := hn
    have hrs : (⟨r.toArray⟩ : ByteArray).size ≤ 1000000 := by
      show r.toArray.size ≤ _
      rw [List.size_toArray]
      rw [hr, List.length_cons] at hlen
      omega
    have HR := Lib.hid hr
    have HC := fun W => Lib.hid (cut_has s 110 r hr W)
    clear hr hlen
    go_enter Tryd.func41, Tryd.ntmps41
    go_wp2_with fail
    refine (HC _).out.mono ?_
    rintro e w1 ⟨rfl, rfl⟩
    go_wp2_with fail
    refine (Parse_any _ (by omega) _ (h0.alloc _) (hv.below (below_alloc _ _))).mono ?_
    rintro e w1 ⟨x, ok, rfl, hp, hb⟩
    generalize (if ok = true then (0 : Int) else 3) = n
    obtain ⟨A1, hb1, hz1⟩ := one_on hb
    obtain ⟨c0, c1, c2, f0, f1, f2⟩ := cells3 A1
    have HB := Lib.hid hb1
    have HP := Lib.hid (read_num hp)
    clear hb A1 hb1 hp
    go_wp2_with fail
    (try simp only [Exit.inBlock, Exit.then])
    refine bodyPost_ret (v := (V.mk 1 x (⟨#[]⟩ : ByteArray)).val) ?_ rfl ⟨V.mk 1 x (⟨#[]⟩ : ByteArray), rfl, by rw [HR.out]; exact HP.out, by repeat' (first | exact HB.out | refine Below.setCell ?_ (show w.heap.size ≤ w.heap.size by omega) _)⟩
    rw [results_cell_one rfl]
    go_simp
  · have hn' : ∀ r, s.data.toList ≠ 110 :: r := fun r e => hn ⟨r, e⟩
    have HN := fun W => Lib.hid (cut_not s 110 hn' W)
    by_cases ht : ∃ r, s.data.toList = 116 :: r
    · obtain ⟨r, hr⟩ := ht
      have hrs : (⟨r.toArray⟩ : ByteArray).size ≤ 1000000 := by
        show r.toArray.size ≤ _
        rw [List.size_toArray]
        rw [hr, List.length_cons] at hlen
        omega
      have HR := Lib.hid hr
      have HC := fun W => Lib.hid (cut_has s 116 r hr W)
      clear hr hlen hn hn'
      go_enter Tryd.func41, Tryd.ntmps41
      go_wp2_with fail
      refine (HN _).out.mono ?_
      rintro e w1 ⟨rfl, rfl⟩
      go_wp2_with fail
      refine (HC _).out.mono ?_
      rintro e w1 ⟨rfl, rfl⟩
      go_wp2_with fail
      refine (bytesOf_any _ hrs _).mono ?_
      rintro e w1 ⟨o, rfl, hp, hb⟩
      obtain ⟨A1, hb1, hz1⟩ := one_on hb
      obtain ⟨c0, c1, c2, f0, f1, f2⟩ := cells3 A1
      have HB := Lib.hid hb1
      have HP := Lib.hid (read_text hp)
      clear hb A1 hb1 hp
      go_wp2_with fail
      (try simp only [Exit.inBlock, Exit.then])
      refine bodyPost_ret (v := (V.mk 2 0 (⟨o.toArray⟩ : ByteArray)).val) ?_ rfl ⟨V.mk 2 0 (⟨o.toArray⟩ : ByteArray), rfl, by rw [HR.out]; exact HP.out, by repeat' (first | exact HB.out | refine Below.setCell ?_ (show w.heap.size ≤ w.heap.size by omega) _)⟩
      rw [results_cell_one rfl]
      go_simp
    · have ht' : ∀ r, s.data.toList ≠ 116 :: r := fun r e => ht ⟨r, e⟩
      have HC := fun W => Lib.hid (cut_not s 116 ht' W)
      have HP := Lib.hid (read_none hn' ht')
      clear hlen hn hn' ht ht'
      go_enter Tryd.func41, Tryd.ntmps41
      go_wp2_with fail
      refine (HN _).out.mono ?_
      rintro e w1 ⟨rfl, rfl⟩
      go_wp2_with fail
      refine (HC _).out.mono ?_
      rintro e w1 ⟨rfl, rfl⟩
      go_wp2_with fail
      (try simp only [Exit.inBlock, Exit.then])
      refine bodyPost_ret (v := V.zero.val) ?_ rfl ⟨V.zero, rfl, HP.out, by repeat' (first | exact below_alloc _ _ | refine Below.setCell ?_ (show w.heap.size ≤ w.heap.size by omega) _)⟩
      rw [results_cell_one rfl]
      go_simp
/-- of what a text is, once it is read and written again -/
theorem read_yes {s : ByteArray} {u : V} (h : ReadAs s.data.toList u) (hc : u.check = 0) (ht : u.told = s) : Read s.data.toList u true := by
  refine .inl ⟨rfl, hc, ⟨by have := h.2.2.1; omega, by have := h.2.2.1; omega, h.1, by have := h.2.1; omega⟩, ?_⟩
  rw [← ht, V.told, if_pos hc]
theorem read_no {s : ByteArray} {u : V} (h : ReadAs s.data.toList u) (hc : ¬ (u.check = 0 ∧ u.told = s)) : Read s.data.toList V.zero false := by
  refine .inr ⟨rfl, rfl, fun r hr c e => hc ?_⟩
  obtain rfl := h.2.2.2 r hr c e
  exact ⟨c, by rw [V.told, if_pos c, ← e]⟩
set_option maxHeartbeats 1600000 in
theorem Parse_v (s : ByteArray) (hs : s.size ≤ 1000000) (w : World) (h0 : Tab16 w) (hv : ErrVars w) :
    Calls Tryd.prog 22 #[.string s] w fun e w' => ∃ (v : V) (ok : Bool), e = .returned (.tuple #[v.val, .int .i64 (if ok = true then 0 else 3)]) ∧ Read s.data.toList v ok ∧ Below w.heap.size w w' := by
  go_enter Tryd.func22, Tryd.ntmps22
  go_wp2_with fail
  refine (read_any s hs _ (h0.alloc _) (hv.below (below_alloc _ _))).mono ?_
  rintro e w1 ⟨⟨k, x, t⟩, rfl, hr, hb⟩
  obtain ⟨A1, hb1, hz1⟩ := one_on hb
  have HA := Lib.hid A1
  have HB := Lib.hid hb1
  have T1 := h0.below hb1
  have hx : x < 18446744073709551616 := hr.1
  have HR := Lib.hid hr
  clear hb hb1 A1 hr
  go_wp2_with fail
  refine (Text_v ⟨k, x, t⟩ hx _ (T1.alloc _)).mono ?_
  rintro e w2 ⟨rfl, hb⟩
  obtain ⟨B2, hb2, hz2⟩ := one_on hb
  have A2 := box_on (old_alloc _ HA.out) hb
  have HB2 : Hid (Below w.heap.size w w2) := HB.out.trans (hb2.mono (by omega))
  obtain ⟨a0, a1, a2, e0, e1, e2⟩ := cells3 A2
  obtain ⟨b0, b1, b2, g0, g1, g2⟩ := cells3 B2
  clear hb hb2 A2 B2
  by_cases hc : (V.mk k x t).check = 0
  · have q1 := int_bne hc
    by_cases ht : (V.mk k x t).told = s
    · have HF := Lib.hid (read_yes HR.out hc ht)
      have q2 : ((V.mk k x t).told.toList == s.toList) = true := by simp [ht]
      clear hc ht
      go_wp2_with fail
      (try simp only [Exit.inBlock, Exit.then])
      refine bodyPost_ret (v := .tuple #[(V.mk k x t).val, .int .i64 0]) ?_ rfl ⟨V.mk k x t, true, rfl, HF.out, by repeat' (first | exact HB2.out | refine Below.setCell ?_ (show w.heap.size ≤ w.heap.size by omega) _)⟩
      rw [results_cell_tmp rfl]
      go_simp
    · have HF := Lib.hid (read_no HR.out (fun h => ht h.2))
      have q2 : ((V.mk k x t).told.toList == s.toList) = false := by
        rw [beq_eq_false_iff_ne]; intro e; apply ht
        rw [toList_data, toList_data] at e
        exact (of_list e).trans (of_list rfl).symm
      clear hc ht
      go_wp2_with fail
      (try simp only [Exit.inBlock, Exit.then])
      refine bodyPost_ret (v := .tuple #[V.zero.val, .int .i64 3]) ?_ rfl ⟨V.zero, false, rfl, HF.out, by repeat' (first | exact HB2.out | refine Below.setCell ?_ (show w.heap.size ≤ w.heap.size by omega) _)⟩
      rw [results_cell_tmp rfl]
      go_simp
  · have q1 := int_nbne hc
    have HF := Lib.hid (read_no HR.out (fun h => hc h.1))
    clear hc
    go_wp2_with fail
    (try simp only [Exit.inBlock, Exit.then])
    refine bodyPost_ret (v := .tuple #[V.zero.val, .int .i64 3]) ?_ rfl ⟨V.zero, false, rfl, HF.out, by repeat' (first | exact HB2.out | refine Below.setCell ?_ (show w.heap.size ≤ w.heap.size by omega) _)⟩
    rw [results_cell_tmp rfl]
    go_simp
end Go.Proofs.YtekbeicoeoajoaaDoor.Vl
