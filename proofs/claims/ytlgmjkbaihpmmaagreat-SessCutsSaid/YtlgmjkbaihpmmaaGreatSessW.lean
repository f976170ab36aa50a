/- The landed mayBe, isRight, writeValue. -/
import Derived.Test.YtlgmjkbaihpmmaaGreatSessStr
import Derived.Test.YtlgmjkbaihpmmaaGreatCode5a
namespace Go.Proofs.YtlgmjkbaihpmmaaGreat.Ss
open Go Go.RowKit Vl Kv Mem Nm
attribute [local go_sem] run_bits run_frombits run_store_float

theorem ge_one (n : Int) : decide (1 ≤ n) = decide ((1 : Int) ≤ n) := rfl
theorem mayBe_any (c s : Int) (w : World) : Calls Tryz.prog 69 #[.int .i64 c, .int .i64 s] w fun e w' => e = .returned (.bool (mayBe c s)) ∧ w = w' := by
  have HC := Lib.hid (show mayBe c s = (decide (1 ≤ c) && decide (c ≤ 4) && decide (1 ≤ s) && decide (s ≤ 1099511627776)) from rfl)
  cases h1 : decide (1 ≤ c) <;> cases h2 : decide (c ≤ 4) <;> cases h3 : decide (1 ≤ s)
  all_goals
    go_enter Tryz.func69, Tryz.ntmps69
    go_wp2
    go_ret
    exact ⟨ret_bool (by rw [HC.out, h1, h2, h3]; simp), rfl⟩
set_option maxHeartbeats 800000 in
theorem isRight_any (s : Se) (w : World) : Calls Tryz.prog 43 #[s.agg] w fun e w' => e = .returned (.bool s.right) ∧ Beh w w' := by
  have HC := Lib.hid (show s.right = (mayBe s.client s.seq && decide (0 ≤ s.code) && decide (s.code ≤ 16) && (s.val.check == 0)) by
    unfold Se.right; rw [Bool.eq_iff_iff]; simp)
  have HA := Lib.hid (alloc_here (w := w) s.obj rfl)
  have HB := Lib.hid ((Beh.start w).alloc s.obj)
  obtain ⟨c, q, d, ⟨vk, vn, vs⟩⟩ := s
  unfold Se.obj at HA HB
  dsimp only at HA HB HC
  have HM := fun w => Lib.hid (mayBe_any c q w)
  cases h1 : mayBe c q <;> cases h2 : decide (0 ≤ d) <;> cases h3 : decide (d ≤ 16)
  all_goals
    simp only [h1] at HM
    go_enter Tryz.func43, Tryz.ntmps43
    go_wp2_with (first | (go_at_call 69; refine ((HM _).out).mono ?_; rintro e w' ⟨rfl, rfl⟩) | (go_at_call 70; refine (Check_any ⟨_, _, _⟩ _).mono ?_; rintro e w' ⟨rfl, hb⟩; (have HA := Lib.hid (box_on HA.out hb)); (have HB := Lib.hid (HB.out.on hb)); clear hb))
    go_ret
    exact ⟨ret_bool (by rw [HC.out, h1, h2, h3]; simp), HB.out⟩
set_option maxHeartbeats 800000 in
theorem writeValue_any {w0 wr : World} {bw : Nat} {l : List Nat} {F : List (Nat × Obj)} (h : OwnX w0 wr bw l F) (v : V) (hv : v.check = 0) (hl : l.length ≤ 90000) :
    Calls Tryz.prog 22 #[.pointer (some ⟨bw, 0, none⟩), v.val] wr fun x w' => x = .returned (.tuple #[]) ∧ OwnX w0 w' bw (l ++ valB v) F := by
  have HF := Lib.hid (h.more (Vobj v))
  have hk := (check_zero hv).1
  have h32 := Lib.hid (short_text hv)
  have HV := Lib.hid (show valB v = Pk.intB v.kind ++ (if v.kind = 1 then Pk.fltB v.num else if v.kind = 2 then Pk.textB (bl v.text) else []) from rfl)
  have hi := (Pk.intB_len v.kind).2
  have HL := Lib.hid (show (l ++ Pk.intB v.kind).length ≤ 100000 by rw [List.length_append]; omega)
  have hdrop : Hid (∀ {w' : World} {m : List Nat}, OwnX w0 w' bw m ((wr.heap.size, Vobj v) :: F) → OwnX w0 w' bw m F) := fun h => h.less (fun x hx => List.mem_cons_of_mem _ hx)
  clear h hv hi
  obtain ⟨k, n, t⟩ := v
  have HG : Hid (∀ {w' : World} {m : List Nat}, OwnX w0 w' bw m ((wr.heap.size, Vobj ⟨k, n, t⟩) :: F) → w'.heap[wr.heap.size]? = some (.cells #[.int .i64 k, .float .f64 n, .string t] 50)) := fun h => h.get (List.mem_cons_self ..)
  have kc := fun (w : World) (s : ByteArray) => run_bl w s
  unfold Vobj at HF
  dsimp only at HF hk HV HL h32
  go_enter Tryz.func22, Tryz.ntmps22
  go_wp2_with fail
  refine (wInt (n := k) HF.out (by omega) (by omega) (by omega)).mono ?_
  rintro x w1 ⟨rfl, h1⟩
  have H1 := Lib.hid h1
  obtain ⟨c0, c1, c2, _⟩ := cells3 (HG.out h1)
  clear h1
  rcases hk with rfl | rfl | rfl
  · go_wp2_with fail
    go_end0
    exact ⟨rfl, by rw [HV.out]; simpa using hdrop.out H1.out⟩
  · go_wp2_with fail
    refine (wFloat (n := n) H1.out HL.out).mono ?_
    rintro x w2 ⟨rfl, h2⟩
    have H2 := Lib.hid h2
    clear h2
    go_wp2_with fail
    go_end0
    exact ⟨rfl, by rw [HV.out]; simpa using hdrop.out H2.out⟩
  · go_wp2_with fail
    refine (wText H1.out t (by have := h32.out; omega) HL.out).mono ?_
    rintro x w2 ⟨rfl, h2⟩
    have H2 := Lib.hid h2
    clear h2
    go_wp2_with fail
    go_end0
    exact ⟨rfl, by rw [HV.out]; simpa using hdrop.out H2.out⟩
end Go.Proofs.YtlgmjkbaihpmmaaGreat.Ss
