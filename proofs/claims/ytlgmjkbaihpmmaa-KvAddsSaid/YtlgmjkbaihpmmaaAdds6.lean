/- KvAdds' walk. -/
import Derived.Test.YtlgmjkbaihpmmaaGrown6
import Derived.Test.YtlgmjkbaihpmmaaKeep6
import Derived.Test.YtlgmjkbaihpmmaaAddsM6
import Derived.Test.YtlgmjkbaihpmmaaGet6
import Derived.Test.YtlgmjkbaihpmmaaRefAdd2
import Derived.Test.YtlgmjkbaihpmmaaRefVal
import Derived.Test.YtlgmjkbaihpmmaaDo6
import Derived.Test.YtlgmjkbaihpmmaaFloatsIn
namespace Go.Proofs.Ytlgmjkbaihpmmaa.Kv
open Go Go.RowKit Vl Nm Mem
attribute [local go_sem] run_bits run_frombits run_store_float
attribute [local irreducible] wpQuiet

theorem samePs_add {L M : List Pr} (h : L = M) : samePs L M = true := by subst h; exact samePs_refl _
theorem PairsAt.seto {w : World} {a : Option Addr} {cap : Nat} {L : List Pr} (h : PairsAt w a cap L) {b : Nat} (hb : ∀ ad, a = some ad → 0 < L.length → ad.block ≠ b) (i : Nat) (v : Value) : PairsAt (w.setCell ⟨b, i, none⟩ v) a cap L := by
  refine ⟨h.len, h.max, h.nil, fun h0 => ?_⟩
  obtain ⟨c, off, ha, hc⟩ := h.at_ h0
  have hne : c ≠ b := hb _ ha h0
  have g : ∀ j, (w.setCell ⟨b, i, none⟩ v).cell? ⟨c, j, none⟩ = w.cell? ⟨c, j, none⟩ := fun j => World.cell?_of_block (w := w) (Below.heap_setCell _ _ _ _ hne)
  refine ⟨c, off, ha, fun k hk => ?_⟩
  have := hc k hk
  unfold Pr.at_ at this ⊢
  rw [g, g, g, g]
  exact this
/-- pairs, and a value in a block beside them -/
structure Wst (w wr : World) (bw : Nat) (u : V) (a : Option Addr) (cap : Nat) (G : List Pr) : Prop where
  box : wr.heap[bw]? = some (Vobj u)
  lo : w.heap.size ≤ bw
  beh : Beh w wr
  at_ : PairsAt wr a cap G
  right : rightP G = true
  fits : Fits G
  apart : ∀ ad, a = some ad → 0 < G.length → ad.block ≠ bw
theorem Wst.short {w wr : World} {bw : Nat} {u : V} {a : Option Addr} {cap : Nat} {G : List Pr} (h : Wst w wr bw u a cap G) : G.length ≤ 32 := length_right h.right
theorem Wst.on {w wr w' : World} {bw : Nat} {u : V} {a : Option Addr} {cap : Nat} {G : List Pr} (h : Wst w wr bw u a cap G) (hb : Beh wr w') : Wst w w' bw u a cap G :=
  ⟨hb.box h.box, h.lo, h.beh.trans hb, h.at_.below hb, h.right, h.fits, h.apart⟩
theorem Wst.set3 {w wr : World} {bw : Nat} {u : V} {a : Option Addr} {cap : Nat} {G : List Pr} (h : Wst w wr bw u a cap G) (y : V) :
    Wst w (((wr.setCell ⟨bw, 0, none⟩ (.int .i64 y.kind)).setCell ⟨bw, 1, none⟩ (.float .f64 y.num)).setCell ⟨bw, 2, none⟩ (.string y.text)) bw y a cap G :=
  ⟨heap_setc (heap_setc (heap_setc h.box)), h.lo, ((h.beh.set h.lo _ _).set h.lo _ _).set h.lo _ _, ((h.at_.seto h.apart _ _).seto h.apart _ _).seto h.apart _ _, h.right, h.fits, h.apart⟩
theorem Wst.next {w wr w1 w2 : World} {bw b2 cap cap2 : Nat} {u : V} {a a2 : Option Addr} {G L : List Pr} (h : Wst w wr bw u a cap G) (hb : Beh wr w1) (hm : Made w1 w2 b2 a2 cap2 L) (hr : rightP L = true) (hf : Fits L) : Wst w w2 bw u a2 cap2 L := by
  have h1 := h.on hb
  have h2 := h1.on hm.beh
  refine ⟨h2.box, h2.lo, h2.beh, hm.pairs, hr, hf, fun ad ha h0 => ?_⟩
  have hlt := heap_lt h1.box
  have hn := hm.new
  have hf4 := flat_length L
  have := (hm.own.cell (j := 0) (by omega)).1
  rw [ha] at this
  injection this with this
  subst this
  show b2 ≠ bw
  omega
theorem Wst.start {w w1 w2 : World} {a : Option Addr} {cap : Nat} {G : List Pr} (hg : Good w1 a cap G) (h1 : Beh w w1) (h2 : Beh w1 w2) (u : V) : Wst w (w2.alloc (Vobj u)) w2.heap.size u a cap G :=
  ⟨alloc_here _ rfl, by have := h1.size; have := h2.size; omega, (h1.trans h2).alloc _, (hg.at_.below h2).alloc _, hg.right, hg.fits, fun ad ha h0 => by
    obtain ⟨b, off, hb, hc⟩ := hg.at_.at_ h0
    rw [ha] at hb
    injection hb with hb
    subst hb
    have hlt : b < w1.heap.size := World.block_lt_of_cell? w1 _ (hc 0 h0).1
    have := h2.size
    show b ≠ _
    omega⟩
set_option maxHeartbeats 3200000 in
set_option maxRecDepth 100000 in
theorem KvAdds_t (a : Option Addr) (cap : Nat) (C : List Cm) (key : ByteArray) (ax : Option Addr) (capx : Nat) (X : List Nat) (w : World) (h : CmdsAt w a C) (hx : ∀ x ∈ X, x < 18446744073709551616)
    (hxc : 0 < X.length → ∃ b off, ax = some ⟨b, off, none⟩ ∧ ∀ i, i < X.length → w.cell? ⟨b, off + i, none⟩ = some (.float .f64 (X.getD i 0))) :
    Calls Try.prog 6 #[.slice a C.length cap, .string key, .slice ax X.length capx, .bool true] w fun e w' => e = .returned (.bool true) ∧ Beh w w' := by
  have HI := Lib.hid h
  have HX := Lib.hid hx
  have HXC := Lib.hid hxc
  clear h hx hxc
  by_cases hl : C.length ≤ 1000
  case neg =>
    have d1 : decide ((1000 : Int) < (C.length : Int)) = true := decide_eq_true (by omega)
    go_enter Try.func6, Try.ntmps6
    go_wp2
    go_ret
    exact ⟨rfl, Beh.start _⟩
  have d1 : decide ((1000 : Int) < (C.length : Int)) = false := decide_eq_false (by omega)
  by_cases hlx : X.length ≤ 200
  case neg =>
    have d2 : decide ((200 : Int) < (X.length : Int)) = true := decide_eq_true (by omega)
    go_enter Try.func6, Try.ntmps6
    go_wp2
    go_ret
    exact ⟨rfl, Beh.start _⟩
  have d2 : decide ((200 : Int) < (X.length : Int)) = false := decide_eq_false (by omega)
  cases d3 : decide ((2000 : Int) < (key.size : Int))
  case true =>
    go_enter Try.func6, Try.ntmps6
    go_wp2
    go_ret
    exact ⟨rfl, Beh.start _⟩
  go_enter Try.func6, Try.ntmps6
  go_wp2_with fail
  refine Calls.mono (grown_any a cap C _ HI.out hl) ?_
  rintro e w1 ⟨G0, ga, gc, rfl, hg, hb⟩
  have HG0 := Lib.hid hg
  have HB0 := Lib.hid hb
  clear hg hb
  go_wp2_with fail
  refine Calls.mono (Get_any ga gc G0 key _ HG0.out.at_ (by have := HG0.out.short; omega)) ?_
  rintro e w2 ⟨rfl, hb⟩
  have HS0 := Lib.hid (Wst.start HG0.out HB0.out hb (get G0 key))
  clear hb HG0 HB0
  unfold Vobj at HS0
  go_wp2_with fail
  generalize w2.heap.size = bw at *
  go_loopw [9, 12, 13, 14, 15] (fun p i _ _ _ wr => ∃ (k : Nat) (G : List Pr) (a' : Option Addr) (cap' : Nat), k ≤ X.length ∧ i = .int .i64 k ∧ p = .slice a' G.length cap' ∧ Hid (Wst w wr bw (get G key) a' cap' G)) (fun _ i _ _ _ _ => X.length - (intOf i).toNat)
  case atStart => exact ⟨0, G0, ga, gc, by omega, rfl, rfl, HS0.out⟩
  case round =>
    clear HS0
    obtain ⟨k, G, a', cap', hk, rfl, rfl, HS⟩ := hrel
    by_cases hlt : k < X.length
    · have e1 : decide ((k : Int) < (X.length : Int)) = true := decide_eq_true (by omega)
      obtain ⟨bx, ox, rfl, hcx⟩ := HXC.out (by omega)
      have HXN : Hid (X.getD k 0 < 18446744073709551616) := HX.out _ (by simp [hlt])
      have cx : wr.cell? ⟨bx, ox + k, none⟩ = some (.float .f64 (X.getD k 0)) := cell_on HS.out.beh (hcx k hlt)
      clear hcx
      generalize X.getD k 0 = xn at *
      obtain ⟨g, hgg⟩ : ∃ g, get G key = g := ⟨_, rfl⟩
      have hsG := HS.out.short
      have HDO : Hid (∀ wq, Beh wr wq → Calls Try.prog 18 #[.slice a' G.length cap', (Cm.mk 5 key V.zero ⟨1, xn, ⟨#[]⟩⟩).agg] wq (DoTold wq (doing G ⟨5, key, V.zero, ⟨1, xn, ⟨#[]⟩⟩⟩))) := fun wq hq => Do_told a' cap' G _ wq (HS.out.at_.below hq) (by omega) HS.out.fits HXN.out
      have HER : Hid ((doing G ⟨5, key, V.zero, ⟨1, xn, ⟨#[]⟩⟩⟩).code ≠ 0 → (doing G ⟨5, key, V.zero, ⟨1, xn, ⟨#[]⟩⟩⟩).L = G) := fun h => (doing_err h).1
      have HN : Hid ((V.mk 1 xn ⟨#[]⟩).check = 0 → key.size ≠ 0 → (get G key).kind ≠ 2 → (doing G ⟨5, key, V.zero, ⟨1, xn, ⟨#[]⟩⟩⟩).code ≠ 8) := fun h1 h2 h3 => add_not (add := true) HS.out.right h1 rfl h2 h3
      have HA : Hid ((doing G ⟨5, key, V.zero, ⟨1, xn, ⟨#[]⟩⟩⟩).code = 0 → AddDone G key true ⟨1, xn, ⟨#[]⟩⟩ (doing G ⟨5, key, V.zero, ⟨1, xn, ⟨#[]⟩⟩⟩)) := fun h => add_done (add := true) h
      have HFT : Hid (Fits (doing G ⟨5, key, V.zero, ⟨1, xn, ⟨#[]⟩⟩⟩).L) := HS.out.fits.doing HXN.out
      have HGF : Hid ((get G key).num < 18446744073709551616) := HS.out.fits.get key
      generalize doing G ⟨5, key, V.zero, ⟨1, xn, ⟨#[]⟩⟩⟩ = D at *
      have HGG := Lib.hid hgg
      rw [hgg] at HS HN HGF
      clear hgg
      obtain ⟨gk, gn, gs⟩ := g
      have HSB : Hid (∀ wq, Beh wr wq → wq.heap[bw]? = some (.cells #[.int .i64 gk, .float .f64 gn, .string gs] 25)) := fun wq hq => hq.box HS.out.box
      go_wp2_with fail
      refine Calls.mono (HDO.out _ ((Beh.start _).alloc _)) ?_
      rintro e w3 ⟨b2, a2, cap2, rfl, hm⟩
      have HM := Lib.hid hm
      have HB3 := Lib.hid (Beh.trans (w0 := wr) ((Beh.start _).alloc _) hm.beh)
      have HV3 := Lib.hid (box_on (v := (.cells #[.int .i64 1, .float .f64 xn, .string ⟨#[]⟩] 25)) (alloc_here (w := wr) (.cells #[.int .i64 1, .float .f64 xn, .string ⟨#[]⟩] 25) rfl) hm.beh)
      clear hm HDO
      have HW3 := Lib.hid (HSB.out _ HB3.out)
      obtain ⟨v0, v1, v2, _⟩ := cells3 HV3.out
      have v0a := fun o => cell_on ((Beh.start _).alloc o) v0
      have v1a := fun o => cell_on ((Beh.start _).alloc o) v1
      have v2a := fun o => cell_on ((Beh.start _).alloc o) v2
      obtain ⟨u0, u1, u2, _⟩ := cells3 HW3.out
      have u0a := fun o => cell_on ((Beh.start _).alloc o) u0
      have u1a := fun o => cell_on ((Beh.start _).alloc o) u1
      have u2a := fun o => cell_on ((Beh.start _).alloc o) u2
      by_cases hc0 : D.code = 0
      case neg =>
        have n1 := int_nbne hc0
        have HSM := Lib.hid (samePs_add (HER.out hc0).symm)
        have HPQ := Lib.hid (HM.out.pairs)
        clear HA HER hc0 HM
        go_wp2_with fail
        refine Calls.mono (keepPairs_any a' cap' G a2 cap2 D.L _ (by exact (HS.out.at_.below HB3.out).alloc _) (by exact HPQ.out.alloc _) (by omega)) ?_
        rintro e w4 ⟨rfl, hb⟩
        rw [HSM.out]
        have HR4 := Lib.hid (box_on (v := (.cells #[.int .i64 D.code, .int .i64 D.told.kind, .float .f64 D.told.num, .string D.told.text] 38)) (alloc_here (w := w3) (.cells #[.int .i64 D.code, .int .i64 D.told.kind, .float .f64 D.told.num, .string D.told.text] 38) rfl) hb)
        have HV4 := Lib.hid (box_on (v := (.cells #[.int .i64 1, .float .f64 xn, .string ⟨#[]⟩] 25)) (old_alloc _ HV3.out) hb)
        have HB4 := Lib.hid (Beh.trans (w0 := wr) (HB3.out.alloc _) hb)
        clear hb v0 v1 v2 v0a v1a v2a u0 u1 u2 u0a u1a u2a
        obtain ⟨r0, r1, r2, r3⟩ := cells4 HR4.out
        obtain ⟨v0, v1, v2, _⟩ := cells3 HV4.out
        obtain ⟨u0, u1, u2, _⟩ := cells3 (HSB.out _ HB4.out)
        by_cases c8 : D.code = 8
        case neg =>
          have m8 := int_nbeq c8
          clear c8 HN
          go_wp2_with fail
          go_roundw
          case rel => exact ⟨k + 1, G, a', cap', by omega, by go_num, rfl, by rw [HGG.out]; exact HS.out.on HB4.out⟩
          case measure => simp [intOf]; omega
        have m8 : (D.code == 8) = true := by rw [c8]; rfl
        by_cases c2 : gk = 2
        case pos =>
          have m2 : (gk != 2) = false := by rw [c2]; rfl
          clear c8 c2 HN
          go_wp2_with fail
          go_roundw
          case rel => exact ⟨k + 1, G, a', cap', by omega, by go_num, rfl, by rw [HGG.out]; exact HS.out.on HB4.out⟩
          case measure => simp [intOf]; omega
        have m2 := int_nbne c2
        by_cases cv : (V.mk 1 xn ⟨#[]⟩).check = 0
        case neg =>
          have mv := int_nbeq cv
          clear c8 c2 cv HN
          go_wp2_with fail
          refine Calls.mono (refCheck_any ⟨_, _, _⟩ _) ?_
          rintro e w5 ⟨rfl, o, rfl⟩
          have HB5 := Lib.hid (HB4.out.alloc o)
          go_wp2_with fail
          go_roundw
          case rel => exact ⟨k + 1, G, a', cap', by omega, by go_num, rfl, by rw [HGG.out]; exact HS.out.on HB5.out⟩
          case measure => simp [intOf]; omega
        have mv : ((V.mk 1 xn ⟨#[]⟩).check == 0) = true := by rw [cv]; rfl
        have ms : decide (0 < key.size) = false := decide_eq_false (by
          intro h0
          exact HN.out cv (by omega) c2 c8)
        clear c8 c2 cv HN
        go_wp2_with fail
        refine Calls.mono (refCheck_any ⟨_, _, _⟩ _) ?_
        rintro e w5 ⟨rfl, o, rfl⟩
        have HB5 := Lib.hid (HB4.out.alloc o)
        go_wp2_with fail
        go_roundw
        case rel => exact ⟨k + 1, G, a', cap', by omega, by go_num, rfl, by rw [HGG.out]; exact HS.out.on HB5.out⟩
        case measure => simp [intOf]; omega
      case pos =>
        have HP := Lib.hid (HA.out hc0)
        have HSN := Lib.hid (HS.out.next ((Beh.start wr).alloc (.cells #[.int .i64 1, .float .f64 xn, .string ⟨#[]⟩] 25)) HM.out HP.out.right HFT.out)
        clear HA HER HN HFT HM
        obtain ⟨y, hy⟩ : ∃ y, nextOf true (get G key) ⟨1, xn, ⟨#[]⟩⟩ = y := ⟨_, rfl⟩
        have ht := HP.out.told.trans hy
        have HGY := Lib.hid (HP.out.got.trans hy)
        have hsD := HSN.out.short
        rw [HGG.out] at hy
        have HY := Lib.hid hy
        clear hy HP
        obtain ⟨D, code, told⟩ := D
        obtain rfl : code = 0 := hc0
        obtain rfl : told = y := ht
        dsimp only at HGY HSN hsD
        have HGX : Hid (∀ wq, PairsAt wq a2 cap2 D → Calls Try.prog 17 #[.slice a2 D.length cap2, .string key] wq fun e w' => e = .returned told.val ∧ Below wq.heap.size wq w') := fun wq hq => by
          have := Get_any a2 cap2 D key wq hq (by omega)
          rw [HGY.out] at this
          exact this
        have s1 := V.same_refl told
        have f0 := frozen_of (old_alloc (.cells #[.int .i64 0, .int .i64 told.kind, .float .f64 told.num, .string told.text] 38) HW3.out) 0
        have f1 := frozen_of (old_alloc (.cells #[.int .i64 0, .int .i64 told.kind, .float .f64 told.num, .string told.text] 38) HW3.out) 1
        have f2 := frozen_of (old_alloc (.cells #[.int .i64 0, .int .i64 told.kind, .float .f64 told.num, .string told.text] 38) HW3.out) 2
        by_cases hk0 : gk = 0
        case pos =>
          have n1 : (gk == 0) = true := by rw [hk0]; rfl
          have hy : told = ⟨1, xn, ⟨#[]⟩⟩ := by
            have := HY.out
            unfold nextOf at this
            rw [if_pos hk0] at this
            exact this.symm
          subst hy
          clear hk0 HY
          go_wp2_with fail
          have HSZ := Lib.hid ((HSN.out.on ((Beh.start w3).alloc (.cells #[.int .i64 0, .int .i64 1, .float .f64 xn, .string ⟨#[]⟩] 38))).set3 ⟨1, xn, ⟨#[]⟩⟩)
          have hne : w3.heap.size ≠ bw := fun e => by have := heap_lt HW3.out; omega
          have HRZ : Hid ((((((w3.alloc (.cells #[.int .i64 0, .int .i64 1, .float .f64 xn, .string ⟨#[]⟩] 38)).setCell ⟨bw, 0, none⟩ (.int .i64 1)).setCell ⟨bw, 1, none⟩ (.float .f64 xn)).setCell ⟨bw, 2, none⟩ (.string ⟨#[]⟩))).heap[w3.heap.size]? = some (.cells #[.int .i64 0, .int .i64 1, .float .f64 xn, .string ⟨#[]⟩] 38)) := heap_seto (heap_seto (heap_seto (alloc_here (w := w3) (.cells #[.int .i64 0, .int .i64 1, .float .f64 xn, .string ⟨#[]⟩] 38) rfl) _ hne.symm _) _ hne.symm _) _ hne.symm _
          refine wp_region_quiet (C := Beh ((((w3.alloc (.cells #[.int .i64 0, .int .i64 1, .float .f64 xn, .string ⟨#[]⟩] 38)).setCell ⟨bw, 0, none⟩ (.int .i64 1)).setCell ⟨bw, 1, none⟩ (.float .f64 xn)).setCell ⟨bw, 2, none⟩ (.string ⟨#[]⟩))) (by kernel_rfl) (by kernel_rfl) (Beh.start _).drew ?_
          repeat (first
            | (refine BigFrame.wpQuiet_skip (by exact Eq.refl false) ?_
               ((try simp only [Act.put]); (try simp only [List.setIfInBounds_toArray]); (try simp only [List.set_cons_zero, List.set_cons_succ])))
            | (refine BigFrame.wpQuiet_want (by exact Eq.refl true) (fun K hK => ?_)
               first
               | (refine quiet_move2 _ rfl (by go_simp; rfl) ?_; refine hK _ ?_)
               | (apply Exists.intro
                  refine ⟨fun wq hq => ?_, hK _ ?_⟩
                  · ((obtain ⟨x0, x1, x2, _⟩ := cells3 (hq.box HSZ.out.box)); (obtain ⟨r0, r1, r2, r3⟩ := cells4 (hq.box HRZ.out))
                     have HQ := Lib.hid hq
                     clear hq
                     unfold Oper.quietAt
                     go_simp
                     first
                     | rfl
                     | (go_at_call 17; exact Calls.mono (HGX.out _ (HSZ.out.at_.below HQ.out)) (fun e w' ⟨he, hb⟩ => ⟨he, HQ.out.on hb⟩)) | (go_at_call 23; exact Calls.mono (keepValue_any ⟨_, _, _⟩ ⟨_, _, _⟩ _) (fun e w' ⟨he, hb⟩ => ⟨he, HQ.out.on hb⟩))))
               clear hK K
               ((try simp only [Act.put]); (try simp only [List.setIfInBounds_toArray]); (try simp only [List.set_cons_zero, List.set_cons_succ]); (try simp only [s1]))))
          refine wpQuiet_nil ?_
          intro w5 hq
          have HSF := Lib.hid (HSZ.out.on hq)
          clear hq
          go_wp2_with fail
          go_roundw
          case rel => exact ⟨k + 1, D, a2, cap2, by omega, by go_num, rfl, by rw [HGY.out]; exact HSF.out⟩
          case measure => simp [intOf]; omega
        case neg =>
          have n1 := int_nbeq hk0
          have HJ : Hid ((joined sumC ⟨gk, gn, gs⟩ ⟨1, xn, ⟨#[]⟩⟩).1 = told) := by
            have := HY.out
            unfold nextOf at this
            rw [if_neg hk0] at this
            exact this
          have HJT : Hid (∀ wq, Calls Try.prog 21 #[(V.mk gk gn gs).val, (V.mk 1 xn ⟨#[]⟩).val] wq fun e w' => e = .returned (.tuple #[told.val, .int .i64 (joined sumC ⟨gk, gn, gs⟩ ⟨1, xn, ⟨#[]⟩⟩).2]) ∧ Below wq.heap.size wq w') := fun wq => by
            have := refAdd_v ⟨gk, gn, gs⟩ ⟨1, xn, ⟨#[]⟩⟩ HGF.out HXN.out wq
            unfold JoinTold at this
            rw [HJ.out] at this
            exact this
          clear hk0 HY HJ
          generalize (joined sumC ⟨gk, gn, gs⟩ ⟨1, xn, ⟨#[]⟩⟩).2 = jc at *
          obtain ⟨yk, yn, ys⟩ := told
          go_wp2_with fail
          refine Calls.mono (HJT.out _) ?_
          rintro e w4 ⟨rfl, hb⟩
          have HR4 := Lib.hid (box_on (v := (.cells #[.int .i64 0, .int .i64 yk, .float .f64 yn, .string ys] 38)) (alloc_here (w := w3) (.cells #[.int .i64 0, .int .i64 yk, .float .f64 yn, .string ys] 38) rfl) hb)
          have HSN4 := Lib.hid (HSN.out.on (Beh.trans (w0 := w3) ((Beh.start w3).alloc (.cells #[.int .i64 0, .int .i64 yk, .float .f64 yn, .string ys] 38)) hb))
          have hbox := HSN4.out.box
          unfold Vobj at hbox
          clear hb v0 v1 v2 v0a v1a v2a u0 u1 u2 u0a u1a u2a f0 f1 f2
          obtain ⟨u0, u1, u2, f0, f1, f2⟩ := cells3 hbox
          obtain ⟨r0, r1, r2, r3⟩ := cells4 HR4.out
          clear hbox
          go_wp2_with fail
          have HSZ := Lib.hid (HSN4.out.set3 ⟨yk, yn, ys⟩)
          have hne : w3.heap.size ≠ bw := fun e => by have := heap_lt HW3.out; omega
          have HRZ : Hid (((((w4.setCell ⟨bw, 0, none⟩ (.int .i64 yk)).setCell ⟨bw, 1, none⟩ (.float .f64 yn)).setCell ⟨bw, 2, none⟩ (.string ys))).heap[w3.heap.size]? = some (.cells #[.int .i64 0, .int .i64 yk, .float .f64 yn, .string ys] 38)) := heap_seto (heap_seto (heap_seto HR4.out _ hne.symm _) _ hne.symm _) _ hne.symm _
          clear r0 r1 r2 r3
          refine wp_region_quiet (C := Beh (((w4.setCell ⟨bw, 0, none⟩ (.int .i64 yk)).setCell ⟨bw, 1, none⟩ (.float .f64 yn)).setCell ⟨bw, 2, none⟩ (.string ys))) (by kernel_rfl) (by kernel_rfl) (Beh.start _).drew ?_
          repeat (first
            | (refine BigFrame.wpQuiet_skip (by exact Eq.refl false) ?_
               ((try simp only [Act.put]); (try simp only [List.setIfInBounds_toArray]); (try simp only [List.set_cons_zero, List.set_cons_succ])))
            | (refine BigFrame.wpQuiet_want (by exact Eq.refl true) (fun K hK => ?_)
               first
               | (refine quiet_move2 _ rfl (by go_simp; rfl) ?_; refine hK _ ?_)
               | (apply Exists.intro
                  refine ⟨fun wq hq => ?_, hK _ ?_⟩
                  · ((obtain ⟨x0, x1, x2, _⟩ := cells3 (hq.box HSZ.out.box)); (obtain ⟨r0, r1, r2, r3⟩ := cells4 (hq.box HRZ.out))
                     have HQ := Lib.hid hq
                     clear hq
                     unfold Oper.quietAt
                     go_simp
                     first
                     | rfl
                     | (go_at_call 17; exact Calls.mono (HGX.out _ (HSZ.out.at_.below HQ.out)) (fun e w' ⟨he, hb⟩ => ⟨he, HQ.out.on hb⟩)) | (go_at_call 23; exact Calls.mono (keepValue_any ⟨_, _, _⟩ ⟨_, _, _⟩ _) (fun e w' ⟨he, hb⟩ => ⟨he, HQ.out.on hb⟩))))
               clear hK K
               ((try simp only [Act.put]); (try simp only [List.setIfInBounds_toArray]); (try simp only [List.set_cons_zero, List.set_cons_succ]); (try simp only [s1]))))
          refine wpQuiet_nil ?_
          intro w5 hq
          have HSF := Lib.hid (HSZ.out.on hq)
          clear hq
          go_wp2_with fail
          go_roundw
          case rel => exact ⟨k + 1, D, a2, cap2, by omega, by go_num, rfl, by rw [HGY.out]; exact HSF.out⟩
          case measure => simp [intOf]; omega
    · obtain rfl : k = X.length := by omega
      have e1 : decide (((X.length : Nat) : Int) < (X.length : Int)) = false := decide_eq_false (by omega)
      go_wp2_with fail
      refine Calls.mono (wakes_any _) ?_
      rintro e wE ⟨rfl, hb⟩
      have HE := Lib.hid (HS.out.beh.trans hb)
      clear hb
      go_wp2_with fail
      go_ret
      exact ⟨rfl, HE.out⟩
set_option maxHeartbeats 3200000 in
set_option maxRecDepth 100000 in
theorem KvAdds_f (a : Option Addr) (cap : Nat) (C : List Cm) (key : ByteArray) (ax : Option Addr) (capx : Nat) (X : List Nat) (w : World) (h : CmdsAt w a C) (hx : ∀ x ∈ X, x < 18446744073709551616)
    (hxc : 0 < X.length → ∃ b off, ax = some ⟨b, off, none⟩ ∧ ∀ i, i < X.length → w.cell? ⟨b, off + i, none⟩ = some (.float .f64 (X.getD i 0))) :
    Calls Try.prog 6 #[.slice a C.length cap, .string key, .slice ax X.length capx, .bool false] w fun e w' => e = .returned (.bool true) ∧ Beh w w' := by
  have HI := Lib.hid h
  have HX := Lib.hid hx
  have HXC := Lib.hid hxc
  clear h hx hxc
  by_cases hl : C.length ≤ 1000
  case neg =>
    have d1 : decide ((1000 : Int) < (C.length : Int)) = true := decide_eq_true (by omega)
    go_enter Try.func6, Try.ntmps6
    go_wp2
    go_ret
    exact ⟨rfl, Beh.start _⟩
  have d1 : decide ((1000 : Int) < (C.length : Int)) = false := decide_eq_false (by omega)
  by_cases hlx : X.length ≤ 200
  case neg =>
    have d2 : decide ((200 : Int) < (X.length : Int)) = true := decide_eq_true (by omega)
    go_enter Try.func6, Try.ntmps6
    go_wp2
    go_ret
    exact ⟨rfl, Beh.start _⟩
  have d2 : decide ((200 : Int) < (X.length : Int)) = false := decide_eq_false (by omega)
  cases d3 : decide ((2000 : Int) < (key.size : Int))
  case true =>
    go_enter Try.func6, Try.ntmps6
    go_wp2
    go_ret
    exact ⟨rfl, Beh.start _⟩
  go_enter Try.func6, Try.ntmps6
  go_wp2_with fail
  refine Calls.mono (grown_any a cap C _ HI.out hl) ?_
  rintro e w1 ⟨G0, ga, gc, rfl, hg, hb⟩
  have HG0 := Lib.hid hg
  have HB0 := Lib.hid hb
  clear hg hb
  go_wp2_with fail
  refine Calls.mono (Get_any ga gc G0 key _ HG0.out.at_ (by have := HG0.out.short; omega)) ?_
  rintro e w2 ⟨rfl, hb⟩
  have HS0 := Lib.hid (Wst.start HG0.out HB0.out hb (get G0 key))
  clear hb HG0 HB0
  unfold Vobj at HS0
  go_wp2_with fail
  generalize w2.heap.size = bw at *
  go_loopw [9, 12, 13, 14, 15] (fun p i _ _ _ wr => ∃ (k : Nat) (G : List Pr) (a' : Option Addr) (cap' : Nat), k ≤ X.length ∧ i = .int .i64 k ∧ p = .slice a' G.length cap' ∧ Hid (Wst w wr bw (get G key) a' cap' G)) (fun _ i _ _ _ _ => X.length - (intOf i).toNat)
  case atStart => exact ⟨0, G0, ga, gc, by omega, rfl, rfl, HS0.out⟩
  case round =>
    clear HS0
    obtain ⟨k, G, a', cap', hk, rfl, rfl, HS⟩ := hrel
    by_cases hlt : k < X.length
    · have e1 : decide ((k : Int) < (X.length : Int)) = true := decide_eq_true (by omega)
      obtain ⟨bx, ox, rfl, hcx⟩ := HXC.out (by omega)
      have HXN : Hid (X.getD k 0 < 18446744073709551616) := HX.out _ (by simp [hlt])
      have cx : wr.cell? ⟨bx, ox + k, none⟩ = some (.float .f64 (X.getD k 0)) := cell_on HS.out.beh (hcx k hlt)
      clear hcx
      generalize X.getD k 0 = xn at *
      obtain ⟨g, hgg⟩ : ∃ g, get G key = g := ⟨_, rfl⟩
      have hsG := HS.out.short
      have HDO : Hid (∀ wq, Beh wr wq → Calls Try.prog 18 #[.slice a' G.length cap', (Cm.mk 6 key V.zero ⟨1, xn, ⟨#[]⟩⟩).agg] wq (DoTold wq (doing G ⟨6, key, V.zero, ⟨1, xn, ⟨#[]⟩⟩⟩))) := fun wq hq => Do_told a' cap' G _ wq (HS.out.at_.below hq) (by omega) HS.out.fits HXN.out
      have HER : Hid ((doing G ⟨6, key, V.zero, ⟨1, xn, ⟨#[]⟩⟩⟩).code ≠ 0 → (doing G ⟨6, key, V.zero, ⟨1, xn, ⟨#[]⟩⟩⟩).L = G) := fun h => (doing_err h).1
      have HN : Hid ((V.mk 1 xn ⟨#[]⟩).check = 0 → key.size ≠ 0 → (get G key).kind ≠ 2 → (doing G ⟨6, key, V.zero, ⟨1, xn, ⟨#[]⟩⟩⟩).code ≠ 8) := fun h1 h2 h3 => add_not (add := false) HS.out.right h1 rfl h2 h3
      have HA : Hid ((doing G ⟨6, key, V.zero, ⟨1, xn, ⟨#[]⟩⟩⟩).code = 0 → AddDone G key false ⟨1, xn, ⟨#[]⟩⟩ (doing G ⟨6, key, V.zero, ⟨1, xn, ⟨#[]⟩⟩⟩)) := fun h => add_done (add := false) h
      have HFT : Hid (Fits (doing G ⟨6, key, V.zero, ⟨1, xn, ⟨#[]⟩⟩⟩).L) := HS.out.fits.doing HXN.out
      have HGF : Hid ((get G key).num < 18446744073709551616) := HS.out.fits.get key
      generalize doing G ⟨6, key, V.zero, ⟨1, xn, ⟨#[]⟩⟩⟩ = D at *
      have HGG := Lib.hid hgg
      rw [hgg] at HS HN HGF
      clear hgg
      obtain ⟨gk, gn, gs⟩ := g
      have HSB : Hid (∀ wq, Beh wr wq → wq.heap[bw]? = some (.cells #[.int .i64 gk, .float .f64 gn, .string gs] 25)) := fun wq hq => hq.box HS.out.box
      go_wp2_with fail
      refine Calls.mono (HDO.out _ ((Beh.start _).alloc _)) ?_
      rintro e w3 ⟨b2, a2, cap2, rfl, hm⟩
      have HM := Lib.hid hm
      have HB3 := Lib.hid (Beh.trans (w0 := wr) ((Beh.start _).alloc _) hm.beh)
      have HV3 := Lib.hid (box_on (v := (.cells #[.int .i64 1, .float .f64 xn, .string ⟨#[]⟩] 25)) (alloc_here (w := wr) (.cells #[.int .i64 1, .float .f64 xn, .string ⟨#[]⟩] 25) rfl) hm.beh)
      clear hm HDO
      have HW3 := Lib.hid (HSB.out _ HB3.out)
      obtain ⟨v0, v1, v2, _⟩ := cells3 HV3.out
      have v0a := fun o => cell_on ((Beh.start _).alloc o) v0
      have v1a := fun o => cell_on ((Beh.start _).alloc o) v1
      have v2a := fun o => cell_on ((Beh.start _).alloc o) v2
      obtain ⟨u0, u1, u2, _⟩ := cells3 HW3.out
      have u0a := fun o => cell_on ((Beh.start _).alloc o) u0
      have u1a := fun o => cell_on ((Beh.start _).alloc o) u1
      have u2a := fun o => cell_on ((Beh.start _).alloc o) u2
      by_cases hc0 : D.code = 0
      case neg =>
        have n1 := int_nbne hc0
        have HSM := Lib.hid (samePs_add (HER.out hc0).symm)
        have HPQ := Lib.hid (HM.out.pairs)
        clear HA HER hc0 HM
        go_wp2_with fail
        refine Calls.mono (keepPairs_any a' cap' G a2 cap2 D.L _ (by exact (HS.out.at_.below HB3.out).alloc _) (by exact HPQ.out.alloc _) (by omega)) ?_
        rintro e w4 ⟨rfl, hb⟩
        rw [HSM.out]
        have HR4 := Lib.hid (box_on (v := (.cells #[.int .i64 D.code, .int .i64 D.told.kind, .float .f64 D.told.num, .string D.told.text] 38)) (alloc_here (w := w3) (.cells #[.int .i64 D.code, .int .i64 D.told.kind, .float .f64 D.told.num, .string D.told.text] 38) rfl) hb)
        have HV4 := Lib.hid (box_on (v := (.cells #[.int .i64 1, .float .f64 xn, .string ⟨#[]⟩] 25)) (old_alloc _ HV3.out) hb)
        have HB4 := Lib.hid (Beh.trans (w0 := wr) (HB3.out.alloc _) hb)
        clear hb v0 v1 v2 v0a v1a v2a u0 u1 u2 u0a u1a u2a
        obtain ⟨r0, r1, r2, r3⟩ := cells4 HR4.out
        obtain ⟨v0, v1, v2, _⟩ := cells3 HV4.out
        obtain ⟨u0, u1, u2, _⟩ := cells3 (HSB.out _ HB4.out)
        by_cases c8 : D.code = 8
        case neg =>
          have m8 := int_nbeq c8
          clear c8 HN
          go_wp2_with fail
          go_roundw
          case rel => exact ⟨k + 1, G, a', cap', by omega, by go_num, rfl, by rw [HGG.out]; exact HS.out.on HB4.out⟩
          case measure => simp [intOf]; omega
        have m8 : (D.code == 8) = true := by rw [c8]; rfl
        by_cases c2 : gk = 2
        case pos =>
          have m2 : (gk != 2) = false := by rw [c2]; rfl
          clear c8 c2 HN
          go_wp2_with fail
          go_roundw
          case rel => exact ⟨k + 1, G, a', cap', by omega, by go_num, rfl, by rw [HGG.out]; exact HS.out.on HB4.out⟩
          case measure => simp [intOf]; omega
        have m2 := int_nbne c2
        by_cases cv : (V.mk 1 xn ⟨#[]⟩).check = 0
        case neg =>
          have mv := int_nbeq cv
          clear c8 c2 cv HN
          go_wp2_with fail
          refine Calls.mono (refCheck_any ⟨_, _, _⟩ _) ?_
          rintro e w5 ⟨rfl, o, rfl⟩
          have HB5 := Lib.hid (HB4.out.alloc o)
          go_wp2_with fail
          go_roundw
          case rel => exact ⟨k + 1, G, a', cap', by omega, by go_num, rfl, by rw [HGG.out]; exact HS.out.on HB5.out⟩
          case measure => simp [intOf]; omega
        have mv : ((V.mk 1 xn ⟨#[]⟩).check == 0) = true := by rw [cv]; rfl
        have ms : decide (0 < key.size) = false := decide_eq_false (by
          intro h0
          exact HN.out cv (by omega) c2 c8)
        clear c8 c2 cv HN
        go_wp2_with fail
        refine Calls.mono (refCheck_any ⟨_, _, _⟩ _) ?_
        rintro e w5 ⟨rfl, o, rfl⟩
        have HB5 := Lib.hid (HB4.out.alloc o)
        go_wp2_with fail
        go_roundw
        case rel => exact ⟨k + 1, G, a', cap', by omega, by go_num, rfl, by rw [HGG.out]; exact HS.out.on HB5.out⟩
        case measure => simp [intOf]; omega
      case pos =>
        have HP := Lib.hid (HA.out hc0)
        have HSN := Lib.hid (HS.out.next ((Beh.start wr).alloc (.cells #[.int .i64 1, .float .f64 xn, .string ⟨#[]⟩] 25)) HM.out HP.out.right HFT.out)
        clear HA HER HN HFT HM
        obtain ⟨y, hy⟩ : ∃ y, nextOf false (get G key) ⟨1, xn, ⟨#[]⟩⟩ = y := ⟨_, rfl⟩
        have ht := HP.out.told.trans hy
        have HGY := Lib.hid (HP.out.got.trans hy)
        have hsD := HSN.out.short
        rw [HGG.out] at hy
        have HY := Lib.hid hy
        clear hy HP
        obtain ⟨D, code, told⟩ := D
        obtain rfl : code = 0 := hc0
        obtain rfl : told = y := ht
        dsimp only at HGY HSN hsD
        have HGX : Hid (∀ wq, PairsAt wq a2 cap2 D → Calls Try.prog 17 #[.slice a2 D.length cap2, .string key] wq fun e w' => e = .returned told.val ∧ Below wq.heap.size wq w') := fun wq hq => by
          have := Get_any a2 cap2 D key wq hq (by omega)
          rw [HGY.out] at this
          exact this
        have s1 := V.same_refl told
        have f0 := frozen_of (old_alloc (.cells #[.int .i64 0, .int .i64 told.kind, .float .f64 told.num, .string told.text] 38) HW3.out) 0
        have f1 := frozen_of (old_alloc (.cells #[.int .i64 0, .int .i64 told.kind, .float .f64 told.num, .string told.text] 38) HW3.out) 1
        have f2 := frozen_of (old_alloc (.cells #[.int .i64 0, .int .i64 told.kind, .float .f64 told.num, .string told.text] 38) HW3.out) 2
        by_cases hk0 : gk = 0
        case pos =>
          have n1 : (gk == 0) = true := by rw [hk0]; rfl
          have hy : told = ⟨1, xn, ⟨#[]⟩⟩ := by
            have := HY.out
            unfold nextOf at this
            rw [if_pos hk0] at this
            exact this.symm
          subst hy
          clear hk0 HY
          go_wp2_with fail
          have HSZ := Lib.hid ((HSN.out.on ((Beh.start w3).alloc (.cells #[.int .i64 0, .int .i64 1, .float .f64 xn, .string ⟨#[]⟩] 38))).set3 ⟨1, xn, ⟨#[]⟩⟩)
          have hne : w3.heap.size ≠ bw := fun e => by have := heap_lt HW3.out; omega
          have HRZ : Hid ((((((w3.alloc (.cells #[.int .i64 0, .int .i64 1, .float .f64 xn, .string ⟨#[]⟩] 38)).setCell ⟨bw, 0, none⟩ (.int .i64 1)).setCell ⟨bw, 1, none⟩ (.float .f64 xn)).setCell ⟨bw, 2, none⟩ (.string ⟨#[]⟩))).heap[w3.heap.size]? = some (.cells #[.int .i64 0, .int .i64 1, .float .f64 xn, .string ⟨#[]⟩] 38)) := heap_seto (heap_seto (heap_seto (alloc_here (w := w3) (.cells #[.int .i64 0, .int .i64 1, .float .f64 xn, .string ⟨#[]⟩] 38) rfl) _ hne.symm _) _ hne.symm _) _ hne.symm _
          refine wp_region_quiet (C := Beh ((((w3.alloc (.cells #[.int .i64 0, .int .i64 1, .float .f64 xn, .string ⟨#[]⟩] 38)).setCell ⟨bw, 0, none⟩ (.int .i64 1)).setCell ⟨bw, 1, none⟩ (.float .f64 xn)).setCell ⟨bw, 2, none⟩ (.string ⟨#[]⟩))) (by kernel_rfl) (by kernel_rfl) (Beh.start _).drew ?_
          repeat (first
            | (refine BigFrame.wpQuiet_skip (by exact Eq.refl false) ?_
               ((try simp only [Act.put]); (try simp only [List.setIfInBounds_toArray]); (try simp only [List.set_cons_zero, List.set_cons_succ])))
            | (refine BigFrame.wpQuiet_want (by exact Eq.refl true) (fun K hK => ?_)
               first
               | (refine quiet_move2 _ rfl (by go_simp; rfl) ?_; refine hK _ ?_)
               | (apply Exists.intro
                  refine ⟨fun wq hq => ?_, hK _ ?_⟩
                  · ((obtain ⟨x0, x1, x2, _⟩ := cells3 (hq.box HSZ.out.box)); (obtain ⟨r0, r1, r2, r3⟩ := cells4 (hq.box HRZ.out))
                     have HQ := Lib.hid hq
                     clear hq
                     unfold Oper.quietAt
                     go_simp
                     first
                     | rfl
                     | (go_at_call 17; exact Calls.mono (HGX.out _ (HSZ.out.at_.below HQ.out)) (fun e w' ⟨he, hb⟩ => ⟨he, HQ.out.on hb⟩)) | (go_at_call 23; exact Calls.mono (keepValue_any ⟨_, _, _⟩ ⟨_, _, _⟩ _) (fun e w' ⟨he, hb⟩ => ⟨he, HQ.out.on hb⟩))))
               clear hK K
               ((try simp only [Act.put]); (try simp only [List.setIfInBounds_toArray]); (try simp only [List.set_cons_zero, List.set_cons_succ]); (try simp only [s1]))))
          refine wpQuiet_nil ?_
          intro w5 hq
          have HSF := Lib.hid (HSZ.out.on hq)
          clear hq
          go_wp2_with fail
          go_roundw
          case rel => exact ⟨k + 1, D, a2, cap2, by omega, by go_num, rfl, by rw [HGY.out]; exact HSF.out⟩
          case measure => simp [intOf]; omega
        case neg =>
          have n1 := int_nbeq hk0
          have HJ : Hid ((joined maxF ⟨gk, gn, gs⟩ ⟨1, xn, ⟨#[]⟩⟩).1 = told) := by
            have := HY.out
            unfold nextOf at this
            rw [if_neg hk0] at this
            exact this
          have HJT : Hid (∀ wq, Calls Try.prog 22 #[(V.mk gk gn gs).val, (V.mk 1 xn ⟨#[]⟩).val] wq fun e w' => e = .returned (.tuple #[told.val, .int .i64 (joined maxF ⟨gk, gn, gs⟩ ⟨1, xn, ⟨#[]⟩⟩).2]) ∧ Below wq.heap.size wq w') := fun wq => by
            have := refMax_v ⟨gk, gn, gs⟩ ⟨1, xn, ⟨#[]⟩⟩ HGF.out HXN.out wq
            unfold JoinTold at this
            rw [HJ.out] at this
            exact this
          clear hk0 HY HJ
          generalize (joined maxF ⟨gk, gn, gs⟩ ⟨1, xn, ⟨#[]⟩⟩).2 = jc at *
          obtain ⟨yk, yn, ys⟩ := told
          go_wp2_with fail
          refine Calls.mono (HJT.out _) ?_
          rintro e w4 ⟨rfl, hb⟩
          have HR4 := Lib.hid (box_on (v := (.cells #[.int .i64 0, .int .i64 yk, .float .f64 yn, .string ys] 38)) (alloc_here (w := w3) (.cells #[.int .i64 0, .int .i64 yk, .float .f64 yn, .string ys] 38) rfl) hb)
          have HSN4 := Lib.hid (HSN.out.on (Beh.trans (w0 := w3) ((Beh.start w3).alloc (.cells #[.int .i64 0, .int .i64 yk, .float .f64 yn, .string ys] 38)) hb))
          have hbox := HSN4.out.box
          unfold Vobj at hbox
          clear hb v0 v1 v2 v0a v1a v2a u0 u1 u2 u0a u1a u2a f0 f1 f2
          obtain ⟨u0, u1, u2, f0, f1, f2⟩ := cells3 hbox
          obtain ⟨r0, r1, r2, r3⟩ := cells4 HR4.out
          clear hbox
          go_wp2_with fail
          have HSZ := Lib.hid (HSN4.out.set3 ⟨yk, yn, ys⟩)
          have hne : w3.heap.size ≠ bw := fun e => by have := heap_lt HW3.out; omega
          have HRZ : Hid (((((w4.setCell ⟨bw, 0, none⟩ (.int .i64 yk)).setCell ⟨bw, 1, none⟩ (.float .f64 yn)).setCell ⟨bw, 2, none⟩ (.string ys))).heap[w3.heap.size]? = some (.cells #[.int .i64 0, .int .i64 yk, .float .f64 yn, .string ys] 38)) := heap_seto (heap_seto (heap_seto HR4.out _ hne.symm _) _ hne.symm _) _ hne.symm _
          clear r0 r1 r2 r3
          refine wp_region_quiet (C := Beh (((w4.setCell ⟨bw, 0, none⟩ (.int .i64 yk)).setCell ⟨bw, 1, none⟩ (.float .f64 yn)).setCell ⟨bw, 2, none⟩ (.string ys))) (by kernel_rfl) (by kernel_rfl) (Beh.start _).drew ?_
          repeat (first
            | (refine BigFrame.wpQuiet_skip (by exact Eq.refl false) ?_
               ((try simp only [Act.put]); (try simp only [List.setIfInBounds_toArray]); (try simp only [List.set_cons_zero, List.set_cons_succ])))
            | (refine BigFrame.wpQuiet_want (by exact Eq.refl true) (fun K hK => ?_)
               first
               | (refine quiet_move2 _ rfl (by go_simp; rfl) ?_; refine hK _ ?_)
               | (apply Exists.intro
                  refine ⟨fun wq hq => ?_, hK _ ?_⟩
                  · ((obtain ⟨x0, x1, x2, _⟩ := cells3 (hq.box HSZ.out.box)); (obtain ⟨r0, r1, r2, r3⟩ := cells4 (hq.box HRZ.out))
                     have HQ := Lib.hid hq
                     clear hq
                     unfold Oper.quietAt
                     go_simp
                     first
                     | rfl
                     | (go_at_call 17; exact Calls.mono (HGX.out _ (HSZ.out.at_.below HQ.out)) (fun e w' ⟨he, hb⟩ => ⟨he, HQ.out.on hb⟩)) | (go_at_call 23; exact Calls.mono (keepValue_any ⟨_, _, _⟩ ⟨_, _, _⟩ _) (fun e w' ⟨he, hb⟩ => ⟨he, HQ.out.on hb⟩))))
               clear hK K
               ((try simp only [Act.put]); (try simp only [List.setIfInBounds_toArray]); (try simp only [List.set_cons_zero, List.set_cons_succ]); (try simp only [s1]))))
          refine wpQuiet_nil ?_
          intro w5 hq
          have HSF := Lib.hid (HSZ.out.on hq)
          clear hq
          go_wp2_with fail
          go_roundw
          case rel => exact ⟨k + 1, D, a2, cap2, by omega, by go_num, rfl, by rw [HGY.out]; exact HSF.out⟩
          case measure => simp [intOf]; omega
    · obtain rfl : k = X.length := by omega
      have e1 : decide (((X.length : Nat) : Int) < (X.length : Int)) = false := decide_eq_false (by omega)
      go_wp2_with fail
      refine Calls.mono (wakes_any _) ?_
      rintro e wE ⟨rfl, hb⟩
      have HE := Lib.hid (HS.out.beh.trans hb)
      clear hb
      go_wp2_with fail
      go_ret
      exact ⟨rfl, HE.out⟩
theorem KvAdds_law (a : Option Addr) (len cap : Nat) (key : ByteArray) (ax : Option Addr) (lenx capx : Nat) (add : Bool) (W : World) (h0 : ∃ C : List Cm, C.length = len ∧ CmdsAt W a C) (_h1 : key.size ≤ maxLen) (h2 : FloatsIn W ax lenx) :
    Calls Try.prog 6 #[.slice a len cap, .string key, .slice ax lenx capx, .bool add] W fun e w' => e = .returned (.bool true) ∧ Below W.heap.size W w' := by
  obtain ⟨C, rfl, hC⟩ := h0
  obtain ⟨X, rfl, hX, hc⟩ := h2
  cases add
  · exact KvAdds_f a cap C key ax capx X W hC hX hc
  · exact KvAdds_t a cap C key ax capx X W hC hX hc
end Go.Proofs.Ytlgmjkbaihpmmaa.Kv
