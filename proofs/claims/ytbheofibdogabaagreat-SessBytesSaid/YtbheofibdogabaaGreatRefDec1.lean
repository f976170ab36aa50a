import Derived.Test.YtbheofibdogabaaGreatRefRdR
import Derived.Test.YtbheofibdogabaaGreatMergeSb19
import Derived.Test.YtbheofibdogabaaGreatSessRefM
/- The reference's Decode, walked. -/
namespace Go.Proofs.YtbheofibdogabaaGreat.Ss
open Go Go.RowKit Vl Kv Mem Nm
attribute [local go_sem] run_bits run_frombits run_store_float

theorem RR.heap {w w' : World} {br b : Nat} {a : Option Addr} {cap : Nat} {F l : List Nat} {e : Int} (h : RR w br b a cap F l e) (hw : w'.heap = w.heap) : RR w' br b a cap F l e := by
  obtain ⟨at_, ha, hB, hs, h8, hne, h0, h1⟩ := h
  exact ⟨at_, ha, by unfold RBox at *; rw [hw]; exact hB, hs.heap hw, h8, hne, h0, h1⟩
theorem rdN_back {α : Type} {f : List Nat → Int → α × List Nat × Int} (hf : ∀ {l r e x}, B8 l → f l e = (x, r, 0) → e = 0) (hr : ∀ {l : List Nat}, B8 l → ∀ e, Rest l (f l e).2.1) {l : List Nat} {e : Int} (h8 : B8 l) (n : Nat) : (rdN f l e n).2.2 = 0 → ∀ k, k ≤ n → (rdN f l e k).2.2 = 0 := by
  induction n with
  | zero =>
    intro h k hk
    obtain rfl : k = 0 := by omega
    exact h
  | succ n ih =>
    intro h k hk
    by_cases e1 : k = n + 1
    · subst e1; exact h
    · refine ih ?_ k (by omega)
      have h82 := (rdN_rest hr h8 e n).2
      have hx : ∃ x r3, f (rdN f l e n).2.1 (rdN f l e n).2.2 = (x, r3, 0) := ⟨_, _, Prod.ext rfl (Prod.ext rfl h)⟩
      obtain ⟨x, r3, hx⟩ := hx
      exact hf h82 hx
theorem RdR.seto {w wr wr0 : World} {b bp bq n5 : Nat} {a : Option Addr} {cap : Nat} {F r r0 : List Nat} {e e0 : Int} {P : List Pr} {S : List Se} {s : Ms} (h : RdR w wr b a cap F r e P S s bp bq) (h0 : RdR w wr0 b a cap F r0 e0 P S s bp bq) (hn : wr0.heap.size ≤ n5) (i : Nat) (v : Value) :
    RdR w (wr.setCell ⟨n5, i, none⟩ v) b a cap F r e P S s bp bq := by
  have hl0 := h0.len
  have hset : Kept (Only n5) wr (wr.setCell ⟨n5, i, none⟩ v) := (Kept.refl (Only n5) wr).setAt (.inl rfl) _ _
  refine ⟨h.rd.kept hset (fun e => by have e : w.heap.size + 1 = n5 := e; omega) (fun hF e => by have e : b = n5 := e; have := h.lbs hF; omega), h.beh.below.trans (hset.below h.beh.size (fun k hk => by have hk : k = n5 := hk; omega)), hset.heap h.mbox (fun e => by have e : w.heap.size + 2 = n5 := e; omega), hset.heap h.zbox (fun e => by have e : w.heap.size = n5 := e; omega), OwnC.kept h.op hset (fun ha e => ?_), OwnC.kept h.oq hset (fun ha e => ?_), h.lo1, h.lo2, h.ne, h.lbs⟩
  · have e : bp = n5 := e; have := OwnC.lt h0.op ha; omega
  · have e : bq = n5 := e; have := OwnC.lt h0.oq ha; omega
/-- what is told of the reference's Decode -/
def RDecTold (w : World) (F : List Nat) (x : Ending) (w' : World) : Prop :=
  ∃ (s : Ms) (bp bq : Nat), x = .returned (.tuple #[s.agg (decM F).1, .bool (decide ((decM F).2 = 0))]) ∧ MadeM w w' s (decM F).1 bp bq ∧ Beh w w'
theorem rDec_no {w w' : World} {F : List Nat} (h : decM F = (Ma.zero, 6)) (hb : Beh w w') : RDecTold w F (.returned (.tuple #[.agg #[.slice none 0 0, .slice none 0 0], .bool false])) w' := by
  unfold RDecTold
  rw [h]
  exact ⟨Ms.zero, 0, 0, rfl, ⟨OwnC.nil _ _ _ _, OwnC.nil _ _ _ _, fun h => absurd rfl h, fun h => absurd rfl h, fun h => absurd rfl h⟩, hb⟩
set_option maxHeartbeats 12800000 in
set_option maxRecDepth 100000 in
theorem refDecode_any (b : Nat) (a : Option Addr) (cap : Nat) (F : List Nat) (w : World) (h : Src w b a cap F) (h8 : B8 F) (hF : F.length ≤ 100000) :
    Calls Tryz.prog 14 #[.slice a F.length cap] w (RDecTold w F) := by
  have HZ := Lib.hid (alloc_here (w := w) (.cells #[.slice none 0 0, .slice none 0 0] 25) rfl)
  have HS0 : Hid (RdR w (((w.alloc (.cells #[.slice none 0 0, .slice none 0 0] 25)).alloc (.cells #[.slice a F.length cap, .int .i64 0, .int .i64 0] 74)).alloc (.cells #[.slice none 0 0, .slice none 0 0] 25)) b a cap F F 0 [] [] ⟨none, 0, none, 0⟩ 0 0) := by
    have k : Kept Mem.None w (((w.alloc (.cells #[.slice none 0 0, .slice none 0 0] 25)).alloc (.cells #[.slice a F.length cap, .int .i64 0, .int .i64 0] 74)).alloc (.cells #[.slice none 0 0, .slice none 0 0] 25)) := (((Kept.refl _ w).alloc _).alloc _).alloc _
    refine ⟨⟨0, Nat.zero_le _, ?_, h.kept k (fun _ h => h), h8, fun hF => by have := h.lt hF; omega, fun _ => rfl, fun h => absurd rfl h⟩, Kept.below k (Nat.le_refl _) (fun _ h => h.elim), ?_, ?_, OwnC.nil _ _ _ _, OwnC.nil _ _ _ _, fun h => absurd rfl h, fun h => absurd rfl h, fun h => absurd rfl h, fun hF => h.lt hF⟩
    · exact old_alloc _ (alloc_here _ (by simp))
    · exact alloc_here _ (by simp)
    · exact old_alloc _ (old_alloc _ (alloc_here _ rfl))
  have h81 := (intOut_rest h8 0)
  have HRD := Lib.hid (fun h => decM_reads h8 h)
  have HOF := Lib.hid (fun (l1 l2 l3 : List Nat) (n n2 e1 e2 e3 : Int) (P : List Pr) (S : List Se) h1 hn hp h2 hn2 hs hr => decM_of (F := F) (l1 := l1) (l2 := l2) (l3 := l3) (n := n) (n2 := n2) (e1 := e1) (e2 := e2) (e3 := e3) (P := P) (S := S) h8 h1 hn hp h2 hn2 hs hr)
  clear h HZ
  go_enter Tryz.func14, Tryz.ntmps14
  go_wp2_with fail
  refine (refInt_any HS0.out.rd hF).mono ?_
  rintro x w1 ⟨rfl, h1, k1⟩
  have HS := Lib.hid (HS0.out.call h1 k1)
  clear h1 k1 HS0
  generalize Pk.intOut F 0 = o at *
  obtain ⟨n, r1, e1⟩ := o
  dsimp only at HS h81
  by_cases hn : n < 0 ∨ 32 < n
  · have hz : decM F = (Ma.zero, 6) := by
      by_cases h : decM F = (Ma.zero, 6)
      · exact h
      · obtain ⟨m, l1, l2, l3, hr, h1, _⟩ := HRD.out h
        injection h1 with h1 _
        have := hr.np
        omega
    obtain ⟨z0, z1⟩ := cells2 HS.out.zbox
    have g0 := frozen_of HS.out.zbox 0
    have g1 := frozen_of HS.out.zbox 1
    clear HRD HOF
    rcases hn with hn | hn
    · go_wp2_with fail
      (try simp only [Exit.inBlock, Exit.then])
      refine bodyPost_ret (v := .tuple #[.agg #[.slice none 0 0, .slice none 0 0], .bool false]) ?_ rfl (rDec_no hz ?_)
      · rw [results_cell_tmp rfl]
        go_simp
      · repeat' (with_reducible first | refine Beh.set ?_ (Nat.le_refl _) _ _ | exact HS.out.beh)
    · have d0 : decide (n < 0) = false := decide_eq_false (by omega)
      go_wp2_with fail
      (try simp only [Exit.inBlock, Exit.then])
      refine bodyPost_ret (v := .tuple #[.agg #[.slice none 0 0, .slice none 0 0], .bool false]) ?_ rfl (rDec_no hz ?_)
      · rw [results_cell_tmp rfl]
        go_simp
      · repeat' (with_reducible first | refine Beh.set ?_ (Nat.le_refl _) _ _ | exact HS.out.beh)
  · obtain ⟨N, rfl⟩ : ∃ N : Nat, n = N := ⟨n.toNat, by omega⟩
    have hN : N ≤ 32 := by omega
    have d0 : decide ((N : Int) < 0) = false := decide_eq_false (by omega)
    have d32 : decide ((32 : Int) < (N : Int)) = false := decide_eq_false (by omega)
    clear hn
    go_wp2_with fail
    go_loopw [7, 8] (fun i _ wr => ∃ (k : Nat) (s : Ms) (bp bq : Nat), k ≤ N ∧ i = .int .i64 k ∧ Hid (RdR w wr b a cap F (rdN rdPrR r1 e1 k).2.1 (rdN rdPrR r1 e1 k).2.2 (rdN rdPrR r1 e1 k).1 [] s bp bq)) (fun i _ _ => N - (intOf i).toNat)
    case atStart => exact ⟨0, ⟨none, 0, none, 0⟩, 0, 0, by omega, rfl, HS.out⟩
    case round =>
      obtain ⟨k, s, bp, bq, hk, rfl, HR⟩ := hrel
      have hPl := rdN_length rdPrR r1 e1 k
      have hrk := rdN_rest (f := rdPrR) (fun h e => rdPrR_rest h e) h81.2 e1 k
      have HT := Lib.hid (show rdN rdPrR r1 e1 (k + 1) = ((rdN rdPrR r1 e1 k).1 ++ [⟨lb (Pk.textOut (rdN rdPrR r1 e1 k).2.1 (rdN rdPrR r1 e1 k).2.2).1, (rdVR (Pk.textOut (rdN rdPrR r1 e1 k).2.1 (rdN rdPrR r1 e1 k).2.2).2.1 (Pk.textOut (rdN rdPrR r1 e1 k).2.1 (rdN rdPrR r1 e1 k).2.2).2.2).1⟩], (rdVR (Pk.textOut (rdN rdPrR r1 e1 k).2.1 (rdN rdPrR r1 e1 k).2.2).2.1 (Pk.textOut (rdN rdPrR r1 e1 k).2.1 (rdN rdPrR r1 e1 k).2.2).2.2).2) from rfl)
      obtain ⟨st, hST⟩ : ∃ st, rdN rdPrR r1 e1 k = st := ⟨_, rfl⟩
      have hST := Lib.hid hST
      rw [hST.out] at HR hPl hrk HT
      obtain ⟨P, r, e⟩ := st
      dsimp only at HR hPl HT hrk
      have hP32 : P.length ≤ 32 := by omega
      clear hPl
      obtain ⟨at_, _, hB, _⟩ := id HR.out.rd
      obtain ⟨c0, c1, c2, _⟩ := cells3 hB
      clear hB
      by_cases hgo : k < N ∧ e = 0
      · obtain ⟨hlt, rfl⟩ := hgo
        go_wp2_with fail
        refine (refText_any HR.out.rd hF).mono ?_
        rintro x w2 ⟨bt, a_t, ct, rfl, ho, _, h2, k2⟩
        have HS2 := Lib.hid (HR.out.call h2 k2)
        clear h2 k2
        generalize Pk.textOut r 0 = o2 at *
        obtain ⟨t, r2, e2⟩ := o2
        dsimp only at HS2 ho HT
        have kc := run_lb w2 bt a_t ct _ t rfl ho
        clear ho
        have HRV : Hid (∀ v : World, v.heap = w2.heap → Calls Tryz.prog 35 #[.pointer (some ⟨w.heap.size + 1, 0, none⟩)] v fun x w' => x = .returned (rdVR r2 e2).1.val ∧ RR w' (w.heap.size + 1) b a cap F (rdVR r2 e2).2.1 (rdVR r2 e2).2.2 ∧ Kept (Only (w.heap.size + 1)) v w') := fun v hv => refReadValue_any (HS2.out.rd.heap hv) hF
        generalize rdVR r2 e2 = o3 at *
        obtain ⟨⟨vk, vn, vs⟩, r3, e3⟩ := o3
        dsimp only at HRV HT
        obtain ⟨m0, m1⟩ := cells2 (show w2.heap[w.heap.size + 1 + 1]? = _ from HS2.out.mbox)
        have HN := Lib.hid (HT.out)
        go_wp2_with fail
        go_region_law ((first
          | (go_simp; go_at_call 35; refine Calls.mono (HRV.out _ (by exact rfl)) ?_; rintro x w3 ⟨rfl, h3, k3⟩; (have HS3 := Lib.hid (HS2.out.call h3 (k3.heap2 (v := w2) rfl rfl rfl rfl))); (obtain ⟨d0, d1'⟩ := cells2 (show w3.heap[w.heap.size + 1 + 1]? = _ from HS3.out.mbox)); (have d0a := fun o => cellOn ((Beh.start _).alloc o) d0); clear h3 k3)
          | (refine step_append_cells rfl (.tmp 39) (.tmp 44) 22 rfl 61 4 _ _ 48 Tryz.underlying22 rfl rfl rfl rfl rfl bp s.a s.cap P.length (flat P) (by simp [Act.eval]) (OwnC.kept HS3.out.op ((Kept.refl Mem.None _).alloc _) (fun _ h => h)) _ 1 1 _ (by simp [Act.eval]) (one_pair (p := ⟨lb t, ⟨vk, vn, vs⟩⟩) (alloc_here _ rfl)).src flat_one (by omega) (by omega) ?_; intro b' a' cap' w5 h2 h3 h4 h5; (have HP5 := Lib.hid ((HS3.out.on ((Kept.refl Mem.None _).alloc _)).pair h2 h3 h4)); (have HM5 := Lib.hid (h3.heap (old_alloc _ HS3.out.mbox) (fun e => by have := HS3.out.lo1 e.1; have := e.2; omega))); (obtain ⟨q0, q1⟩ := cells2 (show w5.heap[w.heap.size + 1 + 1]? = _ from HM5.out)); (have f0 := frozen_of (show w5.heap[w.heap.size + 1 + 1]? = _ from HM5.out) 0); clear h2 h3 h4 h5)))
        all_goals
          go_wp2_with fail
          go_roundw
          all_goals first
            | exact ⟨k + 1, ⟨a', cap', s.a2, s.cap2⟩, b', bq, by omega, by go_num, by show RdR _ _ _ _ _ _ _ _ _ _ _ _ _; rw [HT.out]; exact HP5.out⟩
            | (simp [intOf]; omega)
      · have HA : Hid (decM F ≠ (Ma.zero, 6) → k = N ∧ e = 0 ∧ ∃ m l3, RightM m ∧ P = m.pairs ∧ Pk.intOut r e = ((m.sess.length : Int), l3, 0) ∧ rdN rdSeR l3 0 m.sess.length = (m.sess, [], 0)) := fun hd => by
          obtain ⟨m, l1, l2, l3, hr, h1, h2, h3, h4⟩ := HRD.out hd
          injection h1 with hn h1
          injection h1 with hl he
          subst hl he
          have hNp : m.pairs.length = N := by omega
          rw [hNp] at h2
          have hb := rdN_back (f := rdPrR) (fun h8 h => (rdPrR_zero h8 h).1) (fun h e => rdPrR_rest h e) h81.2 N (by rw [h2]) k hk
          rw [hST.out] at hb
          have he0 : e = 0 := hb
          have hkN : k = N := by
            by_cases h : k < N
            · exact absurd ⟨h, he0⟩ hgo
            · omega
          subst hkN
          rw [hST.out] at h2
          injection h2 with hP h2
          injection h2 with hr2 _
          subst hP hr2
          exact ⟨rfl, he0, m, l3, hr, rfl, by rw [he0]; exact h3, h4⟩
        have HP1 := Lib.hid hST.out
        have hkP : (P.length : Int) = k := by have := rdN_length rdPrR r1 e1 k; rw [hST.out] at this; simp only at this; omega
        have hr8 : B8 r := hrk.2
        have HX : Hid (∀ (l3 : List Nat) (n2 e3 : Int) (S : List Se), k = N → Pk.intOut r e = (n2, l3, e3) → 0 ≤ n2 → rdN rdSeR l3 e3 n2.toNat = (S, [], 0) → RightM ⟨P, S⟩ → decM F = (⟨P, S⟩, 0)) := fun l3 n2 e3 S hkN h2 hn2 hs hr => by
          subst hkN
          exact HOF.out r1 r l3 (k : Nat) n2 e1 e e3 P S rfl (by omega) (by rw [show ((k : Nat) : Int).toNat = k by omega]; exact HP1.out) h2 hn2 hs hr
        have hcase : (k < N ∧ e ≠ 0) ∨ k = N := by
          by_cases h : k < N
          · exact .inl ⟨h, fun he => hgo ⟨h, he⟩⟩
          · exact .inr (by omega)
        clear HRD HOF hgo HT hST
        have HKN : Hid (∀ n2 r2, Pk.intOut r e = (n2, r2, 0) → k = N) := fun n2 r2 h => by
          rcases hcase with ⟨_, h2⟩ | h1
          · exact absurd (intOut_zero hr8 h).1 h2
          · exact h1
        have hb : (k < N ∧ (e == 0) = false) ∨ (N ≤ k ∧ True) := by
          rcases hcase with ⟨h1, h2⟩ | h1
          · exact .inl ⟨h1, int_nbeq h2⟩
          · exact .inr ⟨by omega, trivial⟩
        clear hcase
        rcases hb with ⟨b1, b0⟩ | ⟨b1, b0⟩
        all_goals
          go_wp2_with fail
          refine (refInt_any HR.out.rd hF).mono ?_
          rintro x w2 ⟨rfl, h1, k1⟩
          have HS2 := Lib.hid (HR.out.call h1 k1)
          have hr82 := intOut_rest hr8 e
          clear h1 k1 b0
          generalize Pk.intOut r e = o2 at *
          obtain ⟨n2, r2, e2⟩ := o2
          dsimp only at HS2 HA HX HKN hr82
          by_cases hn2 : n2 < 0 ∨ 4 < n2
          · have hz : decM F = (Ma.zero, 6) := by
              by_cases h : decM F = (Ma.zero, 6)
              · exact h
              · obtain ⟨_, _, m, l3, hr, _, h1, _⟩ := HA.out h
                injection h1 with h1 _
                have := hr.ns
                omega
            obtain ⟨z0, z1⟩ := cells2 HS2.out.zbox
            have g0 := frozen_of HS2.out.zbox 0
            have g1 := frozen_of HS2.out.zbox 1
            clear HA HX
            have hq : (decide (n2 < 0) = true ∧ True) ∨ (decide (n2 < 0) = false ∧ decide (4 < n2) = true) := by
              by_cases h : n2 < 0
              · exact .inl ⟨decide_eq_true h, trivial⟩
              · exact .inr ⟨decide_eq_false h, decide_eq_true (by omega)⟩
            clear hn2
            rcases hq with ⟨q1, q2⟩ | ⟨q1, q2⟩
            all_goals
              go_wp2_with fail
              (try simp only [Exit.inBlock, Exit.then])
              refine bodyPost_ret (v := .tuple #[.agg #[.slice none 0 0, .slice none 0 0], .bool false]) ?_ rfl (rDec_no hz ?_)
              · rw [results_cell_tmp rfl]
                go_simp
              · repeat' (with_reducible first | refine Beh.set ?_ (Nat.le_refl _) _ _ | exact HS2.out.beh)
          · obtain ⟨N2, rfl⟩ : ∃ N2 : Nat, n2 = N2 := ⟨n2.toNat, by omega⟩
            have hN2 : N2 ≤ 4 := by omega
            have q1 : decide ((N2 : Int) < 0) = false := decide_eq_false (by omega)
            have q2 : decide ((4 : Int) < (N2 : Int)) = false := decide_eq_false (by omega)
            clear hn2
            go_wp2_with fail
            go_loopw [9, 10] (fun i _ wr => ∃ (j : Nat) (s : Ms) (bp bq : Nat), j ≤ N2 ∧ i = .int .i64 j ∧ Hid (RdR w wr b a cap F (rdN rdSeR r2 e2 j).2.1 (rdN rdSeR r2 e2 j).2.2 P (rdN rdSeR r2 e2 j).1 s bp bq)) (fun i _ _ => N2 - (intOf i).toNat)
            case atStart => exact ⟨0, s, bp, bq, by omega, rfl, HS2.out⟩
            case round =>
              obtain ⟨j, s, bp, bq, hj, rfl, HR⟩ := hrel
              have hSl := rdN_length rdSeR r2 e2 j
              have hrj := rdN_rest (f := rdSeR) (fun h e => rdSeR_rest h e) hr82.2 e2 j
              obtain ⟨st, hST⟩ : ∃ st, rdN rdSeR r2 e2 j = st := ⟨_, rfl⟩
              have hST := Lib.hid hST
              have HT := Lib.hid (show rdN rdSeR r2 e2 (j + 1) = ((rdN rdSeR r2 e2 j).1 ++ [(rdSeR (rdN rdSeR r2 e2 j).2.1 (rdN rdSeR r2 e2 j).2.2).1], (rdSeR (rdN rdSeR r2 e2 j).2.1 (rdN rdSeR r2 e2 j).2.2).2) from rfl)
              rw [hST.out] at HR hSl hrj HT
              obtain ⟨S, r, e⟩ := st
              dsimp only at HR hSl HT hrj
              have hS4 : S.length ≤ 4 := by omega
              clear hSl
              obtain ⟨at_, _, hB, _⟩ := id HR.out.rd
              obtain ⟨c0, c1, c2, _⟩ := cells3 hB
              clear hB
              by_cases hgo : j < N2 ∧ e = 0
              · obtain ⟨hlt, rfl⟩ := hgo
                have HTS := Lib.hid (show rdSeR r 0 = (⟨(Pk.intOut r 0).1, (Pk.intOut (Pk.intOut r 0).2.1 (Pk.intOut r 0).2.2).1, (Pk.intOut (Pk.intOut (Pk.intOut r 0).2.1 (Pk.intOut r 0).2.2).2.1 (Pk.intOut (Pk.intOut r 0).2.1 (Pk.intOut r 0).2.2).2.2).1, (rdVR (Pk.intOut (Pk.intOut (Pk.intOut r 0).2.1 (Pk.intOut r 0).2.2).2.1 (Pk.intOut (Pk.intOut r 0).2.1 (Pk.intOut r 0).2.2).2.2).2.1 (Pk.intOut (Pk.intOut (Pk.intOut r 0).2.1 (Pk.intOut r 0).2.2).2.1 (Pk.intOut (Pk.intOut r 0).2.1 (Pk.intOut r 0).2.2).2.2).2.2).1⟩, (rdVR (Pk.intOut (Pk.intOut (Pk.intOut r 0).2.1 (Pk.intOut r 0).2.2).2.1 (Pk.intOut (Pk.intOut r 0).2.1 (Pk.intOut r 0).2.2).2.2).2.1 (Pk.intOut (Pk.intOut (Pk.intOut r 0).2.1 (Pk.intOut r 0).2.2).2.1 (Pk.intOut (Pk.intOut r 0).2.1 (Pk.intOut r 0).2.2).2.2).2.2).2) from rfl)
                generalize rdSeR r 0 = RS at *
                go_wp2_with fail
                refine (refInt_any HR.out.rd hF).mono ?_
                rintro x w3 ⟨rfl, h1, k1⟩
                have HS3 := Lib.hid (HR.out.call h1 k1)
                clear h1 k1
                generalize Pk.intOut r 0 = o3 at *
                obtain ⟨pc, r3, e3⟩ := o3
                dsimp only at HS3 HTS
                go_wp2_with fail
                refine (refInt_any HS3.out.rd hF).mono ?_
                rintro x w4 ⟨rfl, h1, k1⟩
                have HS4 := Lib.hid (HS3.out.call h1 k1)
                clear h1 k1
                generalize Pk.intOut r3 e3 = o4 at *
                obtain ⟨ps, r4, e4⟩ := o4
                dsimp only at HS4 HTS
                have HS4a := Lib.hid (HS4.out.on ((Kept.refl Mem.None w4).alloc (.cells #[.int .i64 pc, .int .i64 ps, .int .i64 0, .int .i64 0, .float .f64 0, .string ⟨#[]⟩] 54)))
                have HB4 := Lib.hid (alloc_here (w := w4) (.cells #[.int .i64 pc, .int .i64 ps, .int .i64 0, .int .i64 0, .float .f64 0, .string ⟨#[]⟩] 54) rfl)
                have hlow : w.heap.size + 2 < w4.heap.size := HS4.out.len
                go_wp2_with fail
                refine (refInt_any HS4a.out.rd hF).mono ?_
                rintro x w5 ⟨rfl, h1, k1⟩
                have HS5 := Lib.hid (HS4a.out.call h1 k1)
                have HB5 := Lib.hid (keptO k1 HB4.out (by omega))
                clear h1 k1
                generalize Pk.intOut r4 e4 = o5 at *
                obtain ⟨pd, r5, e5⟩ := o5
                dsimp only at HS5 HTS
                have HS5s := Lib.hid (HS5.out.seto HS4.out (Nat.le_refl _) 2 (.int .i64 pd))
                have HB5s := Lib.hid (heap_setc (i := 2) (v := .int .i64 pd) HB5.out)
                obtain ⟨c0, c1, c2, c3, c4, c5⟩ := cells6 HB5.out
                have g2 := frozen_of HB5.out 2
                go_wp2_with fail
                refine (refReadValue_any HS5s.out.rd hF).mono ?_
                rintro x w6 ⟨rfl, h1, k1⟩
                have HS6 := Lib.hid (HS5s.out.call h1 k1)
                have hb6 := keptO k1 HB5s.out (by omega)
                simp only [List.setIfInBounds_toArray, List.set_cons_succ, List.set_cons_zero] at hb6
                have HB6 := Lib.hid hb6
                clear h1 k1 hb6 c0 c1 c2 c3 c4 c5 g2
                generalize rdVR r5 e5 = o6 at *
                obtain ⟨⟨vk, vn, vs⟩, r6, e6⟩ := o6
                dsimp only at HS6 HTS
                have HS7 := Lib.hid (((HS6.out.seto HS4.out (Nat.le_refl _) 3 (.int .i64 vk)).seto HS4.out (Nat.le_refl _) 4 (.float .f64 vn)).seto HS4.out (Nat.le_refl _) 5 (.string vs))
                obtain ⟨c0, c1, c2, c3, c4, c5⟩ := cells6 HB6.out
                have g3 := frozen_of HB6.out 3
                have g4 := frozen_of HB6.out 4
                have g5 := frozen_of HB6.out 5
                obtain ⟨m0, m1⟩ := cells2 (show w6.heap[w.heap.size + 1 + 1]? = _ from HS6.out.mbox)
                have hne : w4.heap.size ≠ w.heap.size + 1 + 1 := by omega
                go_wp2_with (at_builtin; refine wpList_append_cells rfl _ _ _ rfl 54 6 _ _ 56 Tryz.underlying23 rfl rfl rfl rfl rfl bq s.a2 s.cap2 S.length (flatS S) rfl (OwnC.kept HS7.out.oq ((Kept.refl Mem.None _).alloc _) (fun _ h => h)) _ 1 1 _ rfl (one_sess (s := ⟨pc, ps, pd, ⟨vk, vn, vs⟩⟩) (alloc_here _ (by simp))).src flatS_one (by omega) (by omega) ?_; intro b' a' cap' w8 h2 h3 h4 h5; (have HP8 := Lib.hid ((HS7.out.on ((Kept.refl Mem.None _).alloc _)).sess h2 h3 h4)); (have HM8 := Lib.hid (h3.heap (old_alloc _ HS7.out.mbox) (fun e => by have := HS7.out.lo2 e.1; have := e.2; omega))); (obtain ⟨q0, q1⟩ := cells2 (show w8.heap[w.heap.size + 1 + 1]? = _ from HM8.out)); (have f1 := frozen_of (show w8.heap[w.heap.size + 1 + 1]? = _ from HM8.out) 1); clear h2 h3 h4 h5)
                go_roundw
                case rel => exact ⟨j + 1, ⟨s.a, s.cap, a', cap'⟩, bp, b', by omega, by go_num, by show RdR _ _ _ _ _ _ _ _ _ _ _ _ _; rw [HT.out, HTS.out]; exact HP8.out⟩
                case measure => simp [intOf]; omega
              · have HA2 : Hid (decM F ≠ (Ma.zero, 6) → e = 0 ∧ r = [] ∧ RightM ⟨P, S⟩) := fun hd => by
                  obtain ⟨_, _, m, l3, hr, hP, h1, h2⟩ := HA.out hd
                  injection h1 with hn h1
                  injection h1 with hl he
                  subst hl he
                  have hNs : m.sess.length = N2 := by omega
                  rw [hNs] at h2
                  have hb := rdN_back (f := rdSeR) (fun h8 h => (rdSeR_zero h8 h).1) (fun h e => rdSeR_rest h e) hr82.2 N2 (by rw [h2]) j hj
                  rw [hST.out] at hb
                  have he0 : e = 0 := hb
                  have hjN : j = N2 := by
                    by_cases h : j < N2
                    · exact absurd ⟨h, he0⟩ hgo
                    · omega
                  subst hjN
                  rw [hST.out] at h2
                  injection h2 with hS h2
                  injection h2 with hr2 _
                  subst hS hr2
                  refine ⟨he0, rfl, ?_⟩
                  rw [hP]
                  exact hr
                have HX2 : Hid (e = 0 → r = [] → RightM ⟨P, S⟩ → decM F = (⟨P, S⟩, 0)) := fun he hr hR => by
                  have hjN : j = N2 := by
                    by_cases h : j < N2
                    · exact absurd ⟨h, he⟩ hgo
                    · omega
                  subst hjN
                  have hs : rdN rdSeR r2 e2 j = (S, [], 0) := by rw [hST.out, he, hr]
                  have he2 := (rdN_zero (f := rdSeR) (g := seB) (fun h8 h => rdSeR_zero h8 h) (fun h e => rdSeR_rest h e) hr82.2 j hs).1
                  exact HX.out r2 (j : Nat) e2 S (HKN.out (j : Nat) r2 (by rw [he2])) rfl (by omega) (by rw [show ((j : Nat) : Int).toNat = j by omega]; exact hs) hR
                have hcase : (j < N2 ∧ (e == 0) = false) ∨ (N2 ≤ j ∧ True) := by
                  by_cases h : j < N2
                  · exact .inl ⟨h, int_nbeq (fun he => hgo ⟨h, he⟩)⟩
                  · exact .inr ⟨by omega, trivial⟩
                obtain ⟨at_, hat, hB, _, _, _, h0, _⟩ := id HR.out.rd
                have HDN := Lib.hid (refDone_any hB)
                have HD0 : Hid ((if e = 0 ∧ at_ < F.length then (3 : Int) else e) = 0 → e = 0 ∧ r = []) := fun h => by
                  by_cases hc : e = 0 ∧ at_ < F.length
                  · rw [if_pos hc] at h; omega
                  · rw [if_neg hc] at h
                    refine ⟨h, ?_⟩
                    rw [← h0 h, List.drop_eq_nil_of_le (by have : ¬ at_ < F.length := fun hh => hc ⟨h, hh⟩; omega)]
                have HD1 : Hid (e = 0 → r = [] → (if e = 0 ∧ at_ < F.length then (3 : Int) else e) = 0) := fun he hr => by
                  have hl : ¬ at_ < F.length := fun hh => by
                    have := h0 he
                    rw [hr] at this
                    have := congrArg List.length this
                    rw [List.length_drop] at this
                    simp at this
                    omega
                  rw [if_neg (fun h => hl h.2)]
                  exact he
                generalize (if e = 0 ∧ at_ < F.length then (3 : Int) else e) = dn at *
                clear hB h0 HX HKN HA HT hST hgo
                rcases hcase with ⟨b1, b0⟩ | ⟨b1, b0⟩
                all_goals
                  go_wp2_with fail
                  refine Calls.mono HDN.out ?_
                  rintro x w3 ⟨rfl, nd, hw3⟩
                  have HR3 : Hid (RdR w w3 b a cap F r e P S s bp bq) := by rw [hw3]; exact HR.out.on ((Kept.refl Mem.None wr).drewN nd)
                  clear hw3 HDN
                  by_cases hdn : dn = 0
                  · obtain ⟨he, hr⟩ := HD0.out hdn
                    have q5 : (dn != 0) = false := by rw [hdn]; rfl
                    obtain ⟨m0, m1⟩ := cells2 (show w3.heap[w.heap.size + 1 + 1]? = _ from HR3.out.mbox)
                    have HMC := Lib.hid (refM_any s ⟨P, S⟩ w3 ⟨OwnP.pairs HR3.out.op, OwnS.sess HR3.out.oq⟩ (by show P.length ≤ 100000; omega))
                    have HXR : Hid (rightM ⟨P, S⟩ = true → decM F = (⟨P, S⟩, 0)) := fun h => HX2.out he hr (rightM_iff.1 h)
                    have HNR : Hid (rightM ⟨P, S⟩ = false → decM F = (Ma.zero, 6)) := fun h => by
                      by_cases hd : decM F = (Ma.zero, 6)
                      · exact hd
                      · have := rightM_iff.2 (HA2.out hd).2.2
                        rw [h] at this
                        cases this
                    clear HA2 HX2 HD0 HD1 hdn he hr
                    generalize rightM ⟨P, S⟩ = rm at *
                    go_wp2_with fail
                    refine Calls.mono HMC.out ?_
                    rintro x w4 ⟨rfl, hb4⟩
                    have HR4 := Lib.hid (HR3.out.on (Kept.of_below hb4))
                    clear hb4 HMC m0 m1
                    obtain ⟨m0, m1⟩ := cells2 (show w4.heap[w.heap.size + 1 + 1]? = _ from HR4.out.mbox)
                    obtain ⟨z0, z1⟩ := cells2 HR4.out.zbox
                    have g0 := frozen_of HR4.out.zbox 0
                    have g1 := frozen_of HR4.out.zbox 1
                    cases rm
                    · have hz := HNR.out (by first | rfl | trivial)
                      clear HNR HXR
                      go_wp2_with fail
                      (try simp only [Exit.inBlock, Exit.then])
                      refine bodyPost_ret (v := .tuple #[.agg #[.slice none 0 0, .slice none 0 0], .bool false]) ?_ rfl (rDec_no hz ?_)
                      · rw [results_cell_tmp rfl]
                        go_simp
                      · repeat' (with_reducible first | refine Beh.set ?_ (Nat.le_refl _) _ _ | exact HR4.out.beh)
                    · have hz := HXR.out (by first | rfl | trivial)
                      clear HNR HXR
                      go_wp2_with fail
                      (try simp only [Exit.inBlock, Exit.then])
                      refine bodyPost_ret (v := .tuple #[s.agg ⟨P, S⟩, .bool true]) ?_ rfl ?_
                      · rw [results_cell_tmp rfl]
                        go_simp
                      · unfold RDecTold
                        rw [hz]
                        have hset : ∀ {W : World} {i : Nat} {v : Value}, Kept (Only w.heap.size) W (W.setCell ⟨w.heap.size, i, none⟩ v) := (Kept.refl (Only w.heap.size) _).setAt (.inl rfl) _ _
                        refine ⟨s, bp, bq, rfl, ⟨OwnC.kept (OwnC.kept HR4.out.op hset (fun ha e => by have := HR4.out.lo1 ha; have e : bp = w.heap.size := e; omega)) hset (fun ha e => by have := HR4.out.lo1 ha; have e : bp = w.heap.size := e; omega), OwnC.kept (OwnC.kept HR4.out.oq hset (fun ha e => by have := HR4.out.lo2 ha; have e : bq = w.heap.size := e; omega)) hset (fun ha e => by have := HR4.out.lo2 ha; have e : bq = w.heap.size := e; omega), fun ha => by have := HR4.out.lo1 ha; omega, fun ha => by have := HR4.out.lo2 ha; omega, HR4.out.ne⟩, ?_⟩
                        repeat' (with_reducible first | refine Beh.set ?_ (Nat.le_refl _) _ _ | exact HR4.out.beh)
                  · have hz : decM F = (Ma.zero, 6) := by
                      by_cases hd : decM F = (Ma.zero, 6)
                      · exact hd
                      · exact absurd (HD1.out (HA2.out hd).1 (HA2.out hd).2.1) hdn
                    have q5 : (dn != 0) = true := by simpa using hdn
                    clear HA2 HX2 HD0 HD1 hdn
                    obtain ⟨z0, z1⟩ := cells2 HR3.out.zbox
                    have g0 := frozen_of HR3.out.zbox 0
                    have g1 := frozen_of HR3.out.zbox 1
                    go_wp2_with fail
                    (try simp only [Exit.inBlock, Exit.then])
                    refine bodyPost_ret (v := .tuple #[.agg #[.slice none 0 0, .slice none 0 0], .bool false]) ?_ rfl (rDec_no hz ?_)
                    · rw [results_cell_tmp rfl]
                      go_simp
                    · repeat' (with_reducible first | refine Beh.set ?_ (Nat.le_refl _) _ _ | exact HR3.out.beh)
end Go.Proofs.YtbheofibdogabaaGreat.Ss
