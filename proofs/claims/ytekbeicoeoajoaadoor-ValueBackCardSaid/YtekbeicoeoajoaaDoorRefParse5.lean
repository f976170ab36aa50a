/- The reference's value of a text. -/
import Derived.Test.YtekbeicoeoajoaaDoorUnhexW
import Derived.Test.YtekbeicoeoajoaaDoorValLaw
import Derived.Test.YtekbeicoeoajoaaDoorBoxes
import Derived.Laws.ResultCell
namespace Go.Proofs.YtekbeicoeoajoaaDoor.Vl
open Go Go.RowKit Go.Proofs.YtekbeicoeoajoaaDoor.Nm
attribute [local go_sem] run_bits run_frombits run_store_float

theorem first_num {r : V} {c : UInt8} {l : List UInt8} (h : c :: l = r.textL) : (c = 110 ∧ r.kind = 1 ∧ l = textF r.num) ∨ (c = 116 ∧ r.kind = 2 ∧ l = hexOf r.text.data.toList) ∨ (c = 45 ∧ l = []) := by
  unfold V.textL at h
  split at h
  · exact .inl ⟨(List.cons.inj h).1, by assumption, (List.cons.inj h).2⟩
  · split at h
    · exact .inr (.inl ⟨(List.cons.inj h).1, by assumption, (List.cons.inj h).2⟩)
    · exact .inr (.inr ⟨(List.cons.inj h).1, (List.cons.inj h).2⟩)
theorem textL_ne (r : V) : r.textL ≠ [] := by
  unfold V.textL
  split
  · simp
  · split <;> simp
theorem told_zero : Read [45] V.zero true := .inl ⟨rfl, by kernel_rfl, zero_In, rfl⟩
theorem told_nil : Read [] V.zero false := .inr ⟨rfl, rfl, fun u _ _ e => textL_ne u e.symm⟩
theorem told_num {l : List UInt8} {x : Nat} (h : Parsed l x true) : Read (110 :: l) ⟨1, x, (⟨#[]⟩ : ByteArray)⟩ true := by
  rcases h with ⟨_, hx, hl, cx⟩ | ⟨h, _⟩
  · exact .inl ⟨rfl, num_check cx, ⟨show -9223372036854775808 ≤ (1 : Int) by decide, show (1 : Int) ≤ 9223372036854775807 by decide, hx, show (⟨#[]⟩ : ByteArray).size ≤ 2000 by decide⟩, by rw [hl]; rfl⟩
  · cases h
theorem told_nonum {l : List UInt8} {x : Nat} (h : Parsed l x false) : Read (110 :: l) V.zero false := by
  rcases h with ⟨h, _⟩ | ⟨_, _, hn⟩
  · cases h
  · refine .inr ⟨rfl, rfl, fun u hu _ e => ?_⟩
    rcases first_num e with ⟨_, _, h⟩ | ⟨h, _⟩ | ⟨h, _⟩
    · exact hn _ hu.num h
    · cases h
    · cases h
theorem told_other {c : UInt8} {l : List UInt8} (h1 : c ≠ 110) (h2 : c ≠ 116) (h3 : ¬ (c = 45 ∧ l = [])) : Read (c :: l) V.zero false := by
  refine .inr ⟨rfl, rfl, fun u _ _ e => ?_⟩
  rcases first_num e with ⟨h, _⟩ | ⟨h, _⟩ | h
  · exact h1 h
  · exact h2 h
  · exact h3 h
theorem told_text {l o : List UInt8} (h : UnTold l o true) (ho : o.length ≤ 32) : Read (116 :: l) ⟨2, 0, (⟨o.toArray⟩ : ByteArray)⟩ true := by
  have hsz : (⟨o.toArray⟩ : ByteArray).size = o.length := by show o.toArray.size = _; rw [List.size_toArray]
  rcases h with ⟨_, hl⟩ | ⟨h, _⟩
  · refine .inl ⟨rfl, ?_, ⟨show -9223372036854775808 ≤ (2 : Int) by decide, show (2 : Int) ≤ 9223372036854775807 by decide, show 0 < 18446744073709551616 by decide, by rw [hsz]; omega⟩, by rw [hl]; rfl⟩
    simp only [V.check, hsz, canon_zero]
    rw [if_neg (by omega), if_neg (by omega), if_neg (by omega), if_neg (by omega)]
  · cases h
theorem told_long {l o : List UInt8} {ok : Bool} (h : UnTold l o ok) (ho : ok = false ∨ 32 < o.length) : Read (116 :: l) V.zero false := by
  refine .inr ⟨rfl, rfl, fun u hu hc e => ?_⟩
  rcases first_num e with ⟨h, _⟩ | ⟨_, hk, hl⟩ | ⟨h, _⟩
  · cases h
  · rcases h with ⟨rfl, hl2⟩ | ⟨_, _, hn⟩
    · have := hexOf_inj _ _ (hl.symm.trans hl2)
      rcases ho with h | h
      · cases h
      · rw [← this, size_list] at h
        have := (check_zero hc).2.1 hk
        omega
    · exact hn _ hl
  · cases h
theorem cut_one {s : ByteArray} {c : UInt8} {l : List UInt8} (h : s.data.toList = c :: l) : (s.extract 1 s.size).data.toList = l := by
  rw [ByteArray.data_extract, Array.toList_extract, List.extract_eq_take_drop, h]
  have := size_list s
  rw [h, List.length_cons] at this
  rw [← this, List.drop_one, List.tail_cons]
  exact List.take_of_length_le (by omega)
theorem byte_zero {s : ByteArray} {c : UInt8} {l : List UInt8} (h : s.data.toList = c :: l) (hz : 0 < s.size) : s[0].toNat = c.toNat := by
  have hj : 0 < s.data.toList.length := by rw [size_list]; exact hz
  have e : s[0] = s.data.toList[0] := by rw [Array.getElem_toList]; rfl
  rw [e]
  congr 1
  simp [h]
set_option maxHeartbeats 1600000 in
theorem refParse_v (s : ByteArray) (hs : s.size ≤ 1000000) (w : World) (h0 : Tab16 w) :
    Calls Tryd.prog 23 #[.string s] w fun e w' => ∃ (v : V) (ok : Bool), e = .returned (.tuple #[v.val, .bool ok]) ∧ Read s.data.toList v ok ∧ Below w.heap.size w w' := by
  have hlen := size_list s
  cases hl : s.data.toList with
  | nil =>
    rw [hl] at hlen
    have hz : s.size = 0 := hlen.symm
    have q1 : (s.toList == [45]) = false := by rw [toList_data, hl]; rfl
    clear hlen hl
    go_enter Tryd.func23, Tryd.ntmps23
    go_wp2_with fail
    (try simp only [Exit.inBlock, Exit.then])
    refine bodyPost_ret (v := .tuple #[V.zero.val, .bool false]) ?_ rfl ⟨V.zero, false, rfl, told_nil, by repeat' (first | exact below_alloc _ _ | refine Below.setCell ?_ (show w.heap.size ≤ w.heap.size by omega) _)⟩
    rw [results_cell_tmp rfl]
    go_simp
  | cons c l =>
    rw [hl, List.length_cons] at hlen
    have hpos : 0 < s.size := by omega
    have hb := byte_zero hl hpos
    by_cases h45 : c = 45 ∧ l = []
    · obtain ⟨rfl, rfl⟩ := h45
      have q1 : (s.toList == [45]) = true := by rw [toList_data, hl]; rfl
      clear hlen hl hb
      go_enter Tryd.func23, Tryd.ntmps23
      go_wp2_with fail
      (try simp only [Exit.inBlock, Exit.then])
      refine bodyPost_ret (v := .tuple #[V.zero.val, .bool true]) ?_ rfl ⟨V.zero, true, rfl, told_zero, by repeat' (first | exact below_alloc _ _ | refine Below.setCell ?_ (show w.heap.size ≤ w.heap.size by omega) _)⟩
      rw [results_cell_tmp rfl]
      go_simp
    · have q1 : (s.toList == [45]) = false := by
        rw [toList_data, hl, beq_eq_false_iff_ne]
        intro e; exact h45 ⟨(List.cons.inj e).1, (List.cons.inj e).2⟩
      have hcl := cut_one hl
      have hsz : (s.extract 1 s.size).size ≤ 1000000 := by rw [ByteArray.size_extract]; omega
      have hz : ¬ s.size < 1 := by omega
      by_cases hc : c = 110
      · subst hc
        have hb : s[0].toNat = 110 := hb
        have HP := fun w h => Lib.hid (refParse_any (s.extract 1 s.size) w h)
        rw [hcl] at HP
        clear hlen hl h45 hcl
        go_enter Tryd.func23, Tryd.ntmps23
        go_wp2_with fail
        refine (HP _ (h0.alloc _)).out.mono ?_
        rintro e w1 ⟨x, ok, rfl, hp, hb⟩
        obtain ⟨A1, hb1, hz1⟩ := one_on hb
        obtain ⟨c0, c1, c2, f0, f1, f2⟩ := cells3 A1
        have HB := Lib.hid hb1
        clear hb A1 hb1
        cases ok
        · have HF := Lib.hid (told_nonum hp)
          clear hp
          go_wp2_with fail
          (try simp only [Exit.inBlock, Exit.then])
          refine bodyPost_ret (v := .tuple #[V.zero.val, .bool false]) ?_ rfl ⟨V.zero, false, rfl, HF.out, by repeat' (first | exact HB.out | refine Below.setCell ?_ (show w.heap.size ≤ w.heap.size by omega) _)⟩
          rw [results_cell_tmp rfl]
          go_simp
        · have HF := Lib.hid (told_num hp)
          clear hp
          go_wp2_with fail
          (try simp only [Exit.inBlock, Exit.then])
          refine bodyPost_ret (v := .tuple #[(V.mk 1 x (⟨#[]⟩ : ByteArray)).val, .bool true]) ?_ rfl ⟨V.mk 1 x (⟨#[]⟩ : ByteArray), true, rfl, HF.out, by repeat' (first | exact HB.out | refine Below.setCell ?_ (show w.heap.size ≤ w.heap.size by omega) _)⟩
          rw [results_cell_tmp rfl]
          go_simp
      · have hcn : c.toNat ≠ 110 := fun e => hc (UInt8.toNat_inj.1 e)
        have HU := fun w => Lib.hid (Unhex_any (s.extract 1 s.size) hsz w)
        rw [hcl] at HU
        have HO := fun h2 => Lib.hid (told_other (l := l) hc h2 h45)
        obtain ⟨n, hn⟩ : ∃ n, n = c.toNat := ⟨_, rfl⟩
        have hn116 : c = 116 ↔ n = 116 := by rw [hn]; exact ⟨fun e => by rw [e]; rfl, fun e => UInt8.toNat_inj.1 e⟩
        rw [← hn] at hb hcn
        have n1 : ((n : Int) == 110) = false := by rw [beq_eq_false_iff_ne]; omega
        clear hlen hl h45 hcl hn hc
        go_enter Tryd.func23, Tryd.ntmps23
        go_wp2_with fail
        refine (HU _).out.mono ?_
        rintro e w1 ⟨o, ok, rfl, hp, hb'⟩
        obtain ⟨A1, hb1, hz1⟩ := one_on hb'
        obtain ⟨c0, c1, c2, f0, f1, f2⟩ := cells3 A1
        have HB := Lib.hid hb1
        clear hb' A1 hb1
        have hosz : (⟨o.toArray⟩ : ByteArray).size = o.length := by show o.toArray.size = _; rw [List.size_toArray]
        by_cases h2 : c = 116
        · subst h2
          have n2 : n = 116 := hn116.1 rfl
          subst n2
          cases ok
          · have HF := Lib.hid (told_long hp (.inl rfl))
            clear hp
            go_wp2_with fail
            (try simp only [Exit.inBlock, Exit.then])
            refine bodyPost_ret (v := .tuple #[V.zero.val, .bool false]) ?_ rfl ⟨V.zero, false, rfl, HF.out, by repeat' (first | exact HB.out | refine Below.setCell ?_ (show w.heap.size ≤ w.heap.size by omega) _)⟩
            rw [results_cell_tmp rfl]
            go_simp
          · by_cases hlo : 32 < o.length
            · have HF := Lib.hid (told_long hp (.inr hlo))
              have q2 : decide ((32 : Int) < (o.length : Int)) = true := decide_eq_true (by omega)
              clear hp
              go_wp2_with fail
              (try simp only [Exit.inBlock, Exit.then])
              refine bodyPost_ret (v := .tuple #[V.zero.val, .bool false]) ?_ rfl ⟨V.zero, false, rfl, HF.out, by repeat' (first | exact HB.out | refine Below.setCell ?_ (show w.heap.size ≤ w.heap.size by omega) _)⟩
              rw [results_cell_tmp rfl]
              go_simp
            · have HF := Lib.hid (told_text hp (by omega))
              have q2 : decide ((32 : Int) < (o.length : Int)) = false := decide_eq_false (by omega)
              clear hp
              go_wp2_with fail
              (try simp only [Exit.inBlock, Exit.then])
              refine bodyPost_ret (v := .tuple #[(V.mk 2 0 (⟨o.toArray⟩ : ByteArray)).val, .bool true]) ?_ rfl ⟨V.mk 2 0 (⟨o.toArray⟩ : ByteArray), true, rfl, HF.out, by repeat' (first | exact HB.out | refine Below.setCell ?_ (show w.heap.size ≤ w.heap.size by omega) _)⟩
              rw [results_cell_tmp rfl]
              go_simp
        · have HF := HO h2
          have n2 : ¬ n = 116 := fun e => h2 (hn116.2 e)
          have n3 : ((n : Int) == 116) = false := by rw [beq_eq_false_iff_ne]; omega
          clear hp hn116 HO h2
          go_wp2_with fail
          (try simp only [Exit.inBlock, Exit.then])
          refine bodyPost_ret (v := .tuple #[V.zero.val, .bool false]) ?_ rfl ⟨V.zero, false, rfl, HF.out, by repeat' (first | exact HB.out | refine Below.setCell ?_ (show w.heap.size ≤ w.heap.size by omega) _)⟩
          rw [results_cell_tmp rfl]
          go_simp
end Go.Proofs.YtekbeicoeoajoaaDoor.Vl
