import Derived.Test.YtaengjgmchpabaaGreatMergeWr0
import Derived.Laws.AppendOwnNone
import Derived.Deep.RegionLaw
section
/- Bytes that the call has made itself: appended to, sliced, cloned. For any program. -/
namespace Go.Proofs.YtaengjgmchpabaaGreat.Mem
open Go Go.RowKit

def byteV (x : Nat) : Value := .int .u8 x
/-- (a, its length, cap) is the head of block b, which is the call's own; e: the number of the type uint8 -/
def OwnB (e : TypeId) (w : World) (b : Nat) (a : Option Addr) (cap : Nat) (l : List Nat) : Prop :=
  (a = none ∧ cap = 0 ∧ l = []) ∨
  (a = some ⟨b, 0, none⟩ ∧ l.length ≤ cap ∧ cap ≤ maxLen ∧ ∃ cur : Array Value, w.heap[b]? = some (.cells cur e (0, 0)) ∧ cur.size = cap ∧ cur.toList.take l.length = l.map byteV)
/-- the block that is written, where there is one -/
def Of (a : Option Addr) (b : Nat) : Nat → Prop := fun k => a ≠ none ∧ k = b

theorem OwnB.nil (e : TypeId) (w : World) (b : Nat) : OwnB e w b none 0 [] := .inl ⟨rfl, rfl, rfl⟩
theorem OwnB.move {e : TypeId} {w : World} {b cap : Nat} {l : List Nat} (h : OwnB e w b none cap l) (b2 : Nat) : OwnB e w b2 none cap l := by
  rcases h with h | h
  · exact .inl h
  · exact absurd h.1 (by simp)
theorem OwnB.kept {e : TypeId} {S : Nat → Prop} {w w' : World} {b : Nat} {a : Option Addr} {cap : Nat} {l : List Nat} (h : OwnB e w b a cap l) (hk : Kept S w w') (hs : a ≠ none → ¬ S b) : OwnB e w' b a cap l := by
  rcases h with h | ⟨ha, h1, h2, cur, hh, h3⟩
  · exact .inl h
  · exact .inr ⟨ha, h1, h2, cur, hk.heap hh (hs (by rw [ha]; simp)), h3⟩
theorem OwnB.heap {e : TypeId} {w w' : World} {b : Nat} {a : Option Addr} {cap : Nat} {l : List Nat} (h : OwnB e w b a cap l) (hw : w'.heap = w.heap) : OwnB e w' b a cap l := by
  unfold OwnB at *; rw [hw]; exact h
theorem Shows.heap {w w' : World} {b : Nat} {a : Option Addr} {cap : Nat} {l : List Nat} (h : Shows w b a cap l) (hw : w'.heap = w.heap) : Shows w' b a cap l := by
  unfold Shows World.cell? at *; rw [hw]; exact h
theorem Kept.heap2 {S : Nat → Prop} {w v w' : World} (h : Kept S w w') (hw : w.heap = v.heap) (ho : w.os = v.os) (ht : w.tape = v.tape) (hu : w.output = v.output) : Kept S v w' :=
  ⟨h.os.trans ho, h.tape.trans ht, h.output.trans hu, by rw [← hw]; exact h.size, fun k hk hs => by rw [h.block k (by rw [hw]; exact hk) hs, hw]⟩
theorem OwnB.lt {e : TypeId} {w : World} {b : Nat} {a : Option Addr} {cap : Nat} {l : List Nat} (h : OwnB e w b a cap l) (ha : a ≠ none) : b < w.heap.size := by
  rcases h with h | ⟨_, _, _, cur, hh, _⟩
  · exact absurd h.1 ha
  · exact lt_of_heap hh
theorem OwnB.row {e : TypeId} {w : World} {b : Nat} {a : Option Addr} {cap : Nat} {l : List Nat} (h : OwnB e w b a cap l) : w.ownsRow 0 e 1 (.slice a l.length cap) l.length (l.map byteV) := by
  refine ⟨by simp, ?_⟩
  rcases h with ⟨rfl, rfl, rfl⟩ | ⟨rfl, h1, h2, cur, hh, h3, h4⟩
  · exact .inl ⟨rfl, rfl⟩
  · exact .inr ⟨b, cap, cur, rfl, Nat.zero_le _, hh, h1, h2, by omega, by rw [Nat.mul_one]; exact h4⟩
theorem OwnB.cellAt {e : TypeId} {w : World} {b cap : Nat} {l : List Nat} (h : OwnB e w b (some ⟨b, 0, none⟩) cap l) (i : Nat) (hi : i < l.length) : w.cell? ⟨b, i, none⟩ = some (.int .u8 (l.getD i 0)) := by
  have := h.row.cellAt i (by omega)
  rw [this]
  simp [byteV, hi]
theorem OwnB.shows {e : TypeId} {w : World} {b : Nat} {a : Option Addr} {cap : Nat} {l : List Nat} (h : OwnB e w b a cap l) : Shows w b a cap l := by
  have hc := h
  rcases h with ⟨rfl, rfl, rfl⟩ | ⟨rfl, h1, h2, _⟩
  · exact ⟨Nat.le_refl _, by decide, .inl ⟨rfl, rfl, rfl⟩⟩
  · unfold maxLen at h2
    exact ⟨h1, h2, .inr ⟨0, rfl, fun i hi => by rw [Nat.zero_add]; exact hc.cellAt i hi⟩⟩
/-- the cells behind a slice of bytes, as the laws of append ask for them -/
theorem Shows.news {w : World} {b : Nat} {a : Addr} {cap : Nat} {l : List Nat} (h : Shows w b (some a) cap l) : ∀ j u, (l.map byteV)[j]? = some u → w.cell? (a.add j) = some u := by
  intro j u hu
  rcases h.2.2 with ⟨ha, _⟩ | ⟨off, ha, hc⟩
  · cases ha
  · injection ha with ha
    subst ha
    rw [List.getElem?_map] at hu
    obtain ⟨y, hy, rfl⟩ := Option.map_eq_some_iff.1 hu
    obtain ⟨hj, e⟩ := List.getElem?_eq_some_iff.1 hy
    have hadd : (⟨b, off, none⟩ : Addr).add j = ⟨b, off + j, none⟩ := by unfold Addr.add; split <;> simp_all
    rw [hadd, hc j hj]
    simp [hj, e, byteV]
theorem Src.news {w : World} {b : Nat} {a : Addr} {cap : Nat} {l : List Nat} (h : Src w b (some a) cap l) : ∀ j u, (l.map byteV)[j]? = some u → w.cell? (a.add j) = some u := by
  rcases h with h | ⟨rfl, _⟩
  · exact h.news
  · intro j u hu; simp at hu
theorem Src.heap {w w' : World} {b : Nat} {a : Option Addr} {cap : Nat} {l : List Nat} (h : Src w b a cap l) (hw : w'.heap = w.heap) : Src w' b a cap l := h.imp (fun h => by unfold Shows World.cell? at *; rw [hw]; exact h) id
theorem OwnB.src {e : TypeId} {w : World} {b : Nat} {a : Option Addr} {cap : Nat} {l : List Nat} (h : OwnB e w b a cap l) : Src w b a cap l := .inl h.shows
theorem news_one {l : List Nat} : ∀ u ∈ l.map byteV, u.oneCell' = true := by
  intro u hu
  obtain ⟨y, _, rfl⟩ := List.mem_map.1 hu
  rfl

theorem own_new {e : TypeId} {w : World} {cur : Array Value} {l : List Nat} {cap : Nat} (h1 : l.length ≤ cap) (h2 : cap ≤ maxLen) (h3 : cur.size = cap) (h4 : cur.toList.take l.length = l.map byteV) :
    OwnB e (w.alloc (.cells cur e)) w.heap.size (some ⟨w.heap.size, 0, none⟩) cap l := .inr ⟨rfl, h1, h2, cur, heap_alloc_new w _, h3, h4⟩

/-- append, of whatever bytes, to whatever bytes the call has made itself -/
theorem run_append_bytes {P : Program} (w : World) (t ty e : TypeId) (i : TypeInfo) (ht : P.underlying t = some (.slice e)) (hi : P.info? e = some i) (hz : i.zero = some (.int .u8 0)) (hsize : i.size = 1) (hby : i.bytes = 1)
    (b : Nat) (a : Option Addr) (cap : Nat) (l : List Nat) (own : OwnB e w b a cap l) (b2 : Nat) (a2 : Option Addr) (cap2 : Nat) (m : List Nat) (hs : Src w b2 a2 cap2 m) (hle : l.length + m.length ≤ 70368744177664) :
    ∃ b' a' cap' w', (Builtin.append_ #[t, t] ty #[.slice a l.length cap, .slice a2 m.length cap2]).run P w = .ok (.slice a' (l ++ m).length cap') w' ∧
      OwnB e w' b' a' cap' (l ++ m) ∧ Kept (Of a b) w w' ∧ ((b' = b ∧ (a' = none ∨ a ≠ none)) ∨ w.heap.size ≤ b') ∧ (a' = none ↔ a = none ∧ m = []) := by
  have hmx : l.length + m.length ≤ maxLen := by unfold maxLen; omega
  have hlen : (l ++ m).length = l.length + m.length := List.length_append
  -- a block that is made
  have made : ∀ old, old < l.length + m.length →
      OwnB e (w.drew.alloc (.cells ((l.map byteV).toArray ++ (m.map byteV).toArray ++ Builtin.zeroCells (Value.cells (.int .u8 0)) (grownCap w (l.length + m.length) old e - (l.length + m.length))) e)) w.heap.size (some ⟨w.heap.size, 0, none⟩) (grownCap w (l.length + m.length) old e) (l ++ m) := by
    intro old ho
    have hge := grownCap_ge w (l.length + m.length) old e
    have hcm : grownCap w (l.length + m.length) old e ≤ maxLen := grownCap_le_maxLen w _ old e hmx
    refine own_new (w := w.drew) (by omega) hcm ?_ ?_
    · have : (Value.cells (.int .u8 0)).size = 1 := rfl
      simp only [Array.size_append, List.size_toArray, List.length_map, size_zeroCells, this, Nat.mul_one]
      omega
    · simp only [Array.toList_append, List.append_assoc]
      rw [← List.append_assoc, ← List.map_append, List.take_append_of_le_length (by simp)]
      rw [List.take_of_length_le (by simp)]
  have kn : ∀ o, Kept (Of a b) w (w.drew.alloc o) := fun o => (Kept.refl _ _).drew.alloc o
  cases a2 with
  | none =>
    obtain ⟨rfl, rfl⟩ := hs.bare
    have hr := run_append_owned_none (P := P) w 0 t ty e i 1 ht hi _ _ _ own.row
    exact ⟨b, a, cap, w, by simpa using hr, by simpa using own, Kept.refl _ _, .inl ⟨rfl, by cases a <;> simp⟩, by simp⟩
  | some ad =>
    have hnews := hs.news
    have hl : (m.map byteV).length = m.length * i.size := by rw [hsize]; simp
    rcases own with ⟨rfl, rfl, rfl⟩ | ⟨rfl, h1, h2, cur, hh, h3, h4⟩
    · by_cases hm : m = []
      · subst hm
        refine ⟨b, none, 0, w, ?_, .inl ⟨rfl, rfl, rfl⟩, Kept.refl _ _, .inl ⟨rfl, .inl rfl⟩, by simp⟩
        simp [Builtin.append_, run_underlying ht, sizeOf, typeInfo, hi, Builtin.lenOf, Builtin.firstCells, loadCells, loadCellsFrom]
      · have hpos : 0 < m.length := List.length_pos_iff.2 hm
        have hr := run_append_nil (P := P) w t ty e i _ ht hi hz ad m.length cap2 _ hl hnews hpos (by omega) (by rw [hby]; simp at hle; omega)
        have hm2 := made 0 (by simp; omega)
        simp only [List.length_nil, Nat.zero_add, List.map_nil, List.nil_append, Array.empty_append] at hm2 hle ⊢
        refine ⟨w.heap.size, _, _, _, hr, ?_, kn _, .inr (Nat.le_refl _), by simp [hm]⟩
        simpa using hm2
    · by_cases hroom : l.length + m.length ≤ cap
      · have hfit : l.length * i.size + (m.map byteV).length ≤ cur.size := by rw [hsize, h3]; simp; omega
        have hr := run_append_room (P := P) w t ty e i ht hi b l.length cap cur hh ad m.length cap2 _ hl hnews news_one hroom hfit
        refine ⟨b, _, cap, _, by rw [hlen]; exact hr, .inr ⟨rfl, by omega, h2, _, setRow_heap w b cur _ e _ hh, ?_, ?_⟩, ⟨rfl, rfl, rfl, by simp, fun k _ hk => setRow_other w b k _ (fun e => hk ⟨by simp, e⟩)⟩, .inl ⟨rfl, .inr (by simp)⟩, by simp⟩
        · simp only [List.size_toArray, List.length_append, List.length_take, List.length_drop, Array.length_toList, List.length_map, hsize]
          omega
        · rw [hsize, Nat.mul_one, h4, hlen, List.map_append]
          show List.take _ ((l.map byteV ++ m.map byteV) ++ _) = _
          rw [List.take_append_of_le_length (by simp), List.take_of_length_le (by simp)]
      · have holds : ∀ j v, (l.map byteV)[j]? = some v → w.cell? ((⟨b, 0, none⟩ : Addr).add j) = some v := (Shows.news (w := w) (b := b) (cap := cap) (l := l) (OwnB.shows (e := e) (.inr ⟨rfl, h1, h2, cur, hh, h3, h4⟩)))
        have hr := run_append_grow (P := P) w t ty e i _ ht hi hz ⟨b, 0, none⟩ l.length cap (l.map byteV) (by rw [hsize]; simp) holds ad m.length cap2 _ hl hnews (by omega) (by omega) (growslice_fits (by omega) (by rw [hby]; omega))
        exact ⟨w.heap.size, _, _, _, by rw [hlen]; exact hr, made cap (by omega), kn _, .inr (Nat.le_refl _), by simp⟩

/-- the same, as a step of a walk -/
theorem wp_append_bytes {P : Program} {w : World} {o : Oper} {a : Act} {K : Act → World → Prop} {Q : Exit → Act → World → Prop} (s x : Operand) (t : TypeId)
    (ho : o.op = .call { callee := .builtin .append, args := #[s, x], argTypes := #[t, t] })
    (e : TypeId) (i : TypeInfo) (ht : P.underlying t = some (.slice e)) (hi : P.info? e = some i) (hz : i.zero = some (.int .u8 0)) (hsize : i.size = 1) (hby : i.bytes = 1)
    (b : Nat) (ao : Option Addr) (cap : Nat) (l : List Nat) (n : Nat) (hs : a.eval s = .slice ao n cap) (own : OwnB e w b ao cap l) (hn : l.length = n)
    (b2 : Nat) (a2 : Option Addr) (cap2 : Nat) (m : List Nat) (n2 : Nat) (hx : a.eval x = .slice a2 n2 cap2) (hsh : Src w b2 a2 cap2 m) (hn2 : m.length = n2) (hle : n + n2 ≤ 70368744177664)
    (h : ∀ b' a' cap' w', OwnB e w' b' a' cap' (l ++ m) → Kept (Of ao b) w w' → ((b' = b ∧ (a' = none ∨ ao ≠ none)) ∨ w.heap.size ≤ b') → (a' = none ↔ ao = none ∧ m = []) → K (a.put o.dst (.slice a' (l ++ m).length cap')) w') : o.wp P a w K Q := by
  subst hn hn2
  obtain ⟨b', a', cap', w', hr, h2, h3, h4, h5⟩ := run_append_bytes (P := P) w t o.type e i ht hi hz hsize hby b ao cap l own b2 a2 cap2 m hsh hle
  unfold Oper.wp execOp
  simp only [ho, resolve, invoke, builtin, Sem.run_bind, Sem.run_pure, Result.andThen_ok, List.map_toArray, List.map_cons, List.map_nil, hs, hx, hr]
  exact h b' a' cap' w' h2 h3 h4 h5
theorem wpList_append_bytes {P : Program} {w : World} {ops : Array Oper} {rest : List Oper} {o : Oper} {a : Act} {Q : Exit → Act → World → Prop} (hgd : o.guard = none) (s x : Operand) (t : TypeId)
    (ho : o.op = .call { callee := .builtin .append, args := #[s, x], argTypes := #[t, t] })
    (e : TypeId) (i : TypeInfo) (ht : P.underlying t = some (.slice e)) (hi : P.info? e = some i) (hz : i.zero = some (.int .u8 0)) (hsize : i.size = 1) (hby : i.bytes = 1)
    (b : Nat) (ao : Option Addr) (cap : Nat) (l : List Nat) (n : Nat) (hs : a.eval s = .slice ao n cap) (own : OwnB e w b ao cap l) (hn : l.length = n)
    (b2 : Nat) (a2 : Option Addr) (cap2 : Nat) (m : List Nat) (n2 : Nat) (hx : a.eval x = .slice a2 n2 cap2) (hsh : Src w b2 a2 cap2 m) (hn2 : m.length = n2) (hle : n + n2 ≤ 70368744177664)
    (h : ∀ b' a' cap' w', OwnB e w' b' a' cap' (l ++ m) → Kept (Of ao b) w w' → ((b' = b ∧ (a' = none ∨ ao ≠ none)) ∨ w.heap.size ≤ b') → (a' = none ↔ ao = none ∧ m = []) → wpList P ops Q rest (a.put o.dst (.slice a' (l ++ m).length cap')) w') : wpList P ops Q (o :: rest) a w :=
  wpList_plain hgd fun _ hK => wp_append_bytes s x t ho e i ht hi hz hsize hby b ao cap l n hs own hn b2 a2 cap2 m n2 hx hsh hn2 hle fun b' a' cap' w' h2 h3 h4 h5 => hK _ _ (h b' a' cap' w' h2 h3 h4 h5)
/-- the same, in a region that draws its order -/
theorem step_append_bytes {P : Program} {w : World} {ops : Array Oper} {o : Oper} {a : Act} {K : Act → World → Prop} {Q : Exit → Act → World → Prop} {E : Prop} (hgd : o.guard = none) (s x : Operand) (t : TypeId)
    (ho : o.op = .call { callee := .builtin .append, args := #[s, x], argTypes := #[t, t] })
    (e : TypeId) (i : TypeInfo) (ht : P.underlying t = some (.slice e)) (hi : P.info? e = some i) (hz : i.zero = some (.int .u8 0)) (hsize : i.size = 1) (hby : i.bytes = 1)
    (b : Nat) (ao : Option Addr) (cap : Nat) (l : List Nat) (n : Nat) (hs : a.eval s = .slice ao n cap) (own : OwnB e w b ao cap l) (hn : l.length = n)
    (b2 : Nat) (a2 : Option Addr) (cap2 : Nat) (m : List Nat) (n2 : Nat) (hx : a.eval x = .slice a2 n2 cap2) (hsh : Src w b2 a2 cap2 m) (hn2 : m.length = n2) (hle : n + n2 ≤ 70368744177664)
    (h : ∀ b' a' cap' w', OwnB e w' b' a' cap' (l ++ m) → Kept (Of ao b) w w' → ((b' = b ∧ (a' = none ∨ ao ≠ none)) ∨ w.heap.size ≤ b') → (a' = none ↔ ao = none ∧ m = []) → K (a.put o.dst (.slice a' (l ++ m).length cap')) w') :
    if Region.wanted o (yielded ops a.tmps) = true then Oper.wp P o a w K Q else E := by
  have hw : Region.wanted o (yielded ops a.tmps) = true := by simp [Region.wanted, hgd]
  rw [if_pos hw]
  exact wp_append_bytes s x t ho e i ht hi hz hsize hby b ao cap l n hs own hn b2 a2 cap2 m n2 hx hsh hn2 hle h
theorem run_eql_nil {P : Program} (w : World) (t e : TypeId) (a : Option Addr) (n c : Nat) (h : P.underlying t = some (.slice e)) : (binOp .eql t (.slice a n c) (.slice none 0 0)).run P w = .ok (.bool a.isNone) w := by
  have hh : ∀ d : Nat, (Op.equalIn (d + 1) t (.slice a n c) (.slice none 0 0)).run P w = .ok a.isNone w := fun d => by
    cases a <;> simp [Op.equalIn, run_underlying h]
  simp only [binOp]
  simp [Op.equal, Op.maxDepth, hh 9999]
end Go.Proofs.YtaengjgmchpabaaGreat.Mem
end
section
/- Rows of one-cell values that the call has made itself (slices of slices): appended to. For any program. -/
namespace Go.Proofs.YtaengjgmchpabaaGreat.Mem
open Go Go.RowKit

def OwnV (e : TypeId) (w : World) (b : Nat) (a : Option Addr) (cap : Nat) (xs : List Value) : Prop :=
  (a = none ∧ cap = 0 ∧ xs = []) ∨
  (a = some ⟨b, 0, none⟩ ∧ xs.length ≤ cap ∧ cap ≤ maxLen ∧ ∃ cur : Array Value, w.heap[b]? = some (.cells cur e (0, 0)) ∧ cur.size = cap ∧ cur.toList.take xs.length = xs)
theorem OwnV.nil (e : TypeId) (w : World) (b : Nat) : OwnV e w b none 0 [] := .inl ⟨rfl, rfl, rfl⟩
theorem OwnV.kept {e : TypeId} {S : Nat → Prop} {w w' : World} {b : Nat} {a : Option Addr} {cap : Nat} {xs : List Value} (h : OwnV e w b a cap xs) (hk : Kept S w w') (hs : a ≠ none → ¬ S b) : OwnV e w' b a cap xs := by
  rcases h with h | ⟨ha, h1, h2, cur, hh, h3⟩
  · exact .inl h
  · exact .inr ⟨ha, h1, h2, cur, hk.heap hh (hs (by rw [ha]; simp)), h3⟩
theorem OwnV.heap {e : TypeId} {w w' : World} {b : Nat} {a : Option Addr} {cap : Nat} {xs : List Value} (h : OwnV e w b a cap xs) (hw : w'.heap = w.heap) : OwnV e w' b a cap xs := by
  unfold OwnV at *; rw [hw]; exact h
theorem OwnV.lt {e : TypeId} {w : World} {b : Nat} {a : Option Addr} {cap : Nat} {xs : List Value} (h : OwnV e w b a cap xs) (ha : a ≠ none) : b < w.heap.size := by
  rcases h with h | ⟨_, _, _, cur, hh, _⟩
  · exact absurd h.1 ha
  · exact lt_of_heap hh
theorem OwnV.row {e : TypeId} {w : World} {b : Nat} {a : Option Addr} {cap : Nat} {xs : List Value} (h : OwnV e w b a cap xs) : w.ownsRow 0 e 1 (.slice a xs.length cap) xs.length xs := by
  refine ⟨by simp, ?_⟩
  rcases h with ⟨rfl, rfl, rfl⟩ | ⟨rfl, h1, h2, cur, hh, h3, h4⟩
  · exact .inl ⟨rfl, rfl⟩
  · exact .inr ⟨b, cap, cur, rfl, Nat.zero_le _, hh, h1, h2, by omega, by rw [Nat.mul_one]; exact h4⟩
theorem OwnV.cellAt {e : TypeId} {w : World} {b : Nat} {a : Option Addr} {cap : Nat} {xs : List Value} (h : OwnV e w b a cap xs) (i : Nat) (hi : i < xs.length) : a = some ⟨b, 0, none⟩ ∧ w.cell? ⟨b, i, none⟩ = some (xs.getD i undef) := by
  have hc := h
  rcases h with ⟨_, _, rfl⟩ | ⟨rfl, _⟩
  · simp at hi
  · refine ⟨rfl, ?_⟩
    rw [hc.row.cellAt i (by omega)]
    simp [hi]
theorem ownV_new {e : TypeId} {w : World} {cur : Array Value} {xs : List Value} {cap : Nat} (h1 : xs.length ≤ cap) (h2 : cap ≤ maxLen) (h3 : cur.size = cap) (h4 : cur.toList.take xs.length = xs) :
    OwnV e (w.alloc (.cells cur e)) w.heap.size (some ⟨w.heap.size, 0, none⟩) cap xs := .inr ⟨rfl, h1, h2, cur, heap_alloc_new w _, h3, h4⟩
/-- append of one value -/
theorem run_append_val {P : Program} (w : World) (t ty e : TypeId) (i : TypeInfo) (z : Value) (by_ : Nat) (ht : P.underlying t = some (.slice e)) (hi : P.info? e = some i) (hz : i.zero = some z) (hsize : i.size = 1) (hby : i.bytes = by_) (hzs : z.cells.size = 1)
    (b : Nat) (a : Option Addr) (cap : Nat) (xs : List Value) (own : OwnV e w b a cap xs) (ad : Addr) (c : Nat) (u : Value) (hu : w.cell? ad = some u) (hu1 : u.oneCell' = true) (hspot : ad.spot = none) (hle : (xs.length + 1) * by_ ≤ 70368744177664) (hle2 : xs.length ≤ 70368744177664) :
    ∃ b' a' cap' w', (Builtin.append_ #[t, t] ty #[.slice a xs.length cap, .slice (some ad) 1 c]).run P w = .ok (.slice a' (xs.length + 1) cap') w' ∧
      OwnV e w' b' a' cap' (xs ++ [u]) ∧ Kept (Of a b) w w' ∧ ((b' = b ∧ a ≠ none) ∨ w.heap.size ≤ b') := by
  have hmx : xs.length + 1 ≤ maxLen := by unfold maxLen; omega
  have hnews : ∀ j v, ([u] : List Value)[j]? = some v → w.cell? (ad.add j) = some v := by
    intro j v hv
    cases j with
    | zero =>
      simp at hv; subst hv
      obtain ⟨bb, off, spot⟩ := ad
      simp at hspot; subst hspot
      simpa [Addr.add] using hu
    | succ j => simp at hv
  have h1c : ∀ v ∈ [u], v.oneCell' = true := by intro v hv; simp at hv; subst hv; exact hu1
  have hl : ([u] : List Value).length = 1 * i.size := by rw [hsize]; rfl
  have made : ∀ old, old < xs.length + 1 →
      OwnV e (w.drew.alloc (.cells (xs.toArray ++ [u].toArray ++ Builtin.zeroCells z.cells (grownCap w (xs.length + 1) old e - (xs.length + 1))) e)) w.heap.size (some ⟨w.heap.size, 0, none⟩) (grownCap w (xs.length + 1) old e) (xs ++ [u]) := by
    intro old ho
    have hge := grownCap_ge w (xs.length + 1) old e
    have hcm : grownCap w (xs.length + 1) old e ≤ maxLen := grownCap_le_maxLen w _ old e hmx
    refine ownV_new (w := w.drew) (by simp; omega) hcm ?_ ?_
    · simp only [Array.size_append, List.size_toArray, size_zeroCells, hzs, Nat.mul_one, List.length_singleton]
      omega
    · simp only [Array.toList_append]
      rw [List.take_append_of_le_length (by simp)]
      exact List.take_of_length_le (by simp)
  have kn : ∀ o, Kept (Of a b) w (w.drew.alloc o) := fun o => (Kept.refl _ _).drew.alloc o
  rcases own with ⟨rfl, rfl, rfl⟩ | ⟨rfl, h1, h2, cur, hh, h3, h4⟩
  · have hr := run_append_nil (P := P) w t ty e i _ ht hi hz ad 1 c _ hl hnews (by omega) (by omega) (by rw [hby]; simp at hle; omega)
    have hm2 := made 0 (by simp)
    simp only [List.length_nil, Nat.zero_add, List.nil_append] at hm2 ⊢
    refine ⟨w.heap.size, _, _, _, hr, ?_, kn _, .inr (Nat.le_refl _)⟩
    simpa using hm2
  · by_cases hroom : xs.length + 1 ≤ cap
    · have hfit : xs.length * i.size + ([u] : List Value).length ≤ cur.size := by rw [hsize, h3]; simp; omega
      have hr := run_append_room (P := P) w t ty e i ht hi b xs.length cap cur hh ad 1 c _ hl hnews h1c hroom hfit
      refine ⟨b, _, cap, _, hr, .inr ⟨rfl, by simp; omega, h2, _, setRow_heap w b cur _ e _ hh, ?_, ?_⟩, ⟨rfl, rfl, rfl, by simp, fun k _ hk => setRow_other w b k _ (fun e => hk ⟨by simp, e⟩)⟩, .inl ⟨rfl, by simp⟩⟩
      · simp only [List.size_toArray, List.length_append, List.length_take, List.length_drop, Array.length_toList, hsize, List.length_singleton]
        omega
      · rw [hsize, Nat.mul_one, h4]
        show List.take _ ((xs ++ [u]) ++ _) = _
        rw [List.take_append_of_le_length (by simp)]
        exact List.take_of_length_le (by simp)
    · have own' : OwnV e w b (some ⟨b, 0, none⟩) cap xs := .inr ⟨rfl, h1, h2, cur, hh, h3, h4⟩
      have holds : ∀ j v, xs[j]? = some v → w.cell? ((⟨b, 0, none⟩ : Addr).add j) = some v := own'.row.cells (g := b) rfl
      have hr := run_append_grow (P := P) w t ty e i _ ht hi hz ⟨b, 0, none⟩ xs.length cap xs (by rw [hsize]; simp) holds ad 1 c _ hl hnews (by omega) (by omega) (growslice_fits (by omega) (by rw [hby]; omega))
      exact ⟨w.heap.size, _, _, _, hr, made cap (by omega), kn _, .inr (Nat.le_refl _)⟩
theorem wpList_append_val {P : Program} {w : World} {ops : Array Oper} {rest : List Oper} {o : Oper} {a : Act} {Q : Exit → Act → World → Prop} (hgd : o.guard = none) (s x : Operand) (t : TypeId)
    (ho : o.op = .call { callee := .builtin .append, args := #[s, x], argTypes := #[t, t] })
    (e : TypeId) (i : TypeInfo) (z : Value) (by_ : Nat) (ht : P.underlying t = some (.slice e)) (hi : P.info? e = some i) (hz : i.zero = some z) (hsize : i.size = 1) (hby : i.bytes = by_) (hzs : z.cells.size = 1)
    (b : Nat) (ao : Option Addr) (cap : Nat) (xs : List Value) (n : Nat) (hs : a.eval s = .slice ao n cap) (own : OwnV e w b ao cap xs) (hn : xs.length = n)
    (ad : Addr) (c : Nat) (u : Value) (hx : a.eval x = .slice (some ad) 1 c) (hu : w.cell? ad = some u) (hu1 : u.oneCell' = true) (hspot : ad.spot = none) (hle : (n + 1) * by_ ≤ 70368744177664) (hle2 : n ≤ 70368744177664)
    (h : ∀ b' a' cap' w', OwnV e w' b' a' cap' (xs ++ [u]) → Kept (Of ao b) w w' → ((b' = b ∧ ao ≠ none) ∨ w.heap.size ≤ b') → wpList P ops Q rest (a.put o.dst (.slice a' (n + 1) cap')) w') : wpList P ops Q (o :: rest) a w := by
  subst hn
  refine wpList_plain hgd fun K hK => ?_
  obtain ⟨b', a', cap', w', hr, h2, h3, h4⟩ := run_append_val (P := P) w t o.type e i z by_ ht hi hz hsize hby hzs b ao cap xs own ad c u hu hu1 hspot hle hle2
  unfold Oper.wp execOp
  simp only [ho, resolve, invoke, builtin, Sem.run_bind, Sem.run_pure, Result.andThen_ok, List.map_toArray, List.map_cons, List.map_nil, hs, hx, hr]
  exact hK _ _ (h b' a' cap' w' h2 h3 h4)
end Go.Proofs.YtaengjgmchpabaaGreat.Mem
end
section
/- Slices of values of k cells that the call has made itself: appended to. For any program. -/
namespace Go.Proofs.YtaengjgmchpabaaGreat.Mem
open Go Go.RowKit

/-- (a, n, cap) is the head of block b, which is the call's own: n values, of k cells each -/
def OwnC (e : TypeId) (k : Nat) (w : World) (b : Nat) (a : Option Addr) (cap n : Nat) (cs : List Value) : Prop :=
  cs.length = n * k ∧ ((a = none ∧ cap = 0 ∧ n = 0) ∨
  (a = some ⟨b, 0, none⟩ ∧ n ≤ cap ∧ cap ≤ maxLen ∧ ∃ cur : Array Value, w.heap[b]? = some (.cells cur e (0, 0)) ∧ cur.size = cap * k ∧ cur.toList.take (n * k) = cs))
theorem OwnC.nil (e : TypeId) (k : Nat) (w : World) (b : Nat) : OwnC e k w b none 0 0 [] := ⟨by simp, .inl ⟨rfl, rfl, rfl⟩⟩
theorem OwnC.kept {e : TypeId} {k : Nat} {S : Nat → Prop} {w w' : World} {b : Nat} {a : Option Addr} {cap n : Nat} {cs : List Value} (h : OwnC e k w b a cap n cs) (hk : Kept S w w') (hs : a ≠ none → ¬ S b) : OwnC e k w' b a cap n cs := by
  refine ⟨h.1, ?_⟩
  rcases h.2 with h | ⟨ha, h1, h2, cur, hh, h3⟩
  · exact .inl h
  · exact .inr ⟨ha, h1, h2, cur, hk.heap hh (hs (by rw [ha]; simp)), h3⟩
theorem OwnC.heap {e : TypeId} {k : Nat} {w w' : World} {b : Nat} {a : Option Addr} {cap n : Nat} {cs : List Value} (h : OwnC e k w b a cap n cs) (hw : w'.heap = w.heap) : OwnC e k w' b a cap n cs := by
  unfold OwnC at *; rw [hw]; exact h
theorem OwnC.lt {e : TypeId} {k : Nat} {w : World} {b : Nat} {a : Option Addr} {cap n : Nat} {cs : List Value} (h : OwnC e k w b a cap n cs) (ha : a ≠ none) : b < w.heap.size := by
  rcases h.2 with h | ⟨_, _, _, cur, hh, _⟩
  · exact absurd h.1 ha
  · exact lt_of_heap hh
/-- the cell at a place -/
theorem OwnC.cell {e : TypeId} {k : Nat} {w : World} {b : Nat} {a : Option Addr} {cap n : Nat} {cs : List Value} (h : OwnC e k w b a cap n cs) {j : Nat} (hj : j < cs.length) : a = some ⟨b, 0, none⟩ ∧ w.cell? ⟨b, j, none⟩ = some cs[j] ∧ w.frozen? ⟨b, j, none⟩ = false := by
  have hl := h.1
  rcases h.2 with ⟨_, _, h0⟩ | ⟨ha, h1, h2, cur, hh, h3, h4⟩
  · subst h0; simp at hl; subst hl; simp at hj
  · refine ⟨ha, ?_, ?_⟩
    · have hlt : j < cur.size := by
        have : n * k ≤ cap * k := Nat.mul_le_mul_right k h1
        omega
      have e1 : cs[j] = cur[j] := by
        have : cs[j] = (cur.toList.take (n * k))[j]'(by rw [h4]; exact hj) := by simp only [h4]
        rw [this, List.getElem_take, Array.getElem_toList]
      rw [e1]
      simp [World.cell?, hh, hlt]
    · simp [World.frozen?, hh]
/-- what stands at an address, as the laws of append ask for it -/
def SrcC (k : Nat) (w : World) (a : Option Addr) (cap m : Nat) (cs : List Value) : Prop :=
  cs.length = m * k ∧ (a = none → m = 0 ∧ cap = 0) ∧ ∀ ad, a = some ad → ∀ (j : Nat) (u : Value), cs[j]? = some u → w.cell? (ad.add j) = some u
theorem OwnC.src {e : TypeId} {k : Nat} {w : World} {b : Nat} {a : Option Addr} {cap n : Nat} {cs : List Value} (h : OwnC e k w b a cap n cs) : SrcC k w a cap n cs := by
  refine ⟨h.1, fun ha => ?_, fun ad ha j u hu => ?_⟩
  · rcases h.2 with ⟨_, h1, h2⟩ | ⟨h1, _⟩
    · exact ⟨h2, h1⟩
    · rw [h1] at ha; cases ha
  · obtain ⟨hj, rfl⟩ := List.getElem?_eq_some_iff.1 hu
    obtain ⟨h1, h2, _⟩ := h.cell hj
    rw [h1] at ha
    injection ha with ha; subst ha
    have hadd : (⟨b, 0, none⟩ : Addr).add j = ⟨b, j, none⟩ := by unfold Addr.add; split <;> simp_all
    rw [hadd]; exact h2
theorem own_newC {e : TypeId} {k : Nat} {w : World} {cur : Array Value} {cs : List Value} {cap n : Nat} (h0 : cs.length = n * k) (h1 : n ≤ cap) (h2 : cap ≤ maxLen) (h3 : cur.size = cap * k) (h4 : cur.toList.take (n * k) = cs) :
    OwnC e k (w.alloc (.cells cur e)) w.heap.size (some ⟨w.heap.size, 0, none⟩) cap n cs := ⟨h0, .inr ⟨rfl, h1, h2, cur, heap_alloc_new w _, h3, h4⟩⟩

/-- append of whatever values, to whatever values the call has made itself -/
theorem run_append_cells {P : Program} (w : World) (t ty e : TypeId) (k : Nat) (i : TypeInfo) (z : Value) (by_ : Nat) (ht : P.underlying t = some (.slice e)) (hi : P.info? e = some i) (hz : i.zero = some z) (hsize : i.size = k) (hby : i.bytes = by_) (hzs : z.cells.size = k)
    (b : Nat) (a : Option Addr) (cap n : Nat) (cs : List Value) (own : OwnC e k w b a cap n cs) (a2 : Option Addr) (cap2 m : Nat) (ds : List Value) (hs : SrcC k w a2 cap2 m ds) (h1c : ∀ u ∈ ds, u.oneCell' = true)
    (hle : (n + m) * by_ ≤ 70368744177664) (hle2 : n + m ≤ 70368744177664) :
    ∃ b' a' cap' w', (Builtin.append_ #[t, t] ty #[.slice a n cap, .slice a2 m cap2]).run P w = .ok (.slice a' (n + m) cap') w' ∧
      OwnC e k w' b' a' cap' (n + m) (cs ++ ds) ∧ Kept (Of a b) w w' ∧ ((b' = b ∧ (a' = none ∨ a ≠ none)) ∨ w.heap.size ≤ b') ∧ (a' = none ↔ a = none ∧ m = 0) := by
  have hmx : n + m ≤ maxLen := by unfold maxLen; omega
  have hcl := own.1
  have hdl := hs.1
  have hlen : (cs ++ ds).length = (n + m) * k := by rw [List.length_append, hcl, hdl, Nat.add_mul]
  have made : ∀ old, old < n + m →
      OwnC e k (w.drew.alloc (.cells (cs.toArray ++ ds.toArray ++ Builtin.zeroCells z.cells (grownCap w (n + m) old e - (n + m))) e)) w.heap.size (some ⟨w.heap.size, 0, none⟩) (grownCap w (n + m) old e) (n + m) (cs ++ ds) := by
    intro old ho
    have hge := grownCap_ge w (n + m) old e
    have hcm : grownCap w (n + m) old e ≤ maxLen := grownCap_le_maxLen w _ old e hmx
    refine own_newC (w := w.drew) hlen (by omega) hcm ?_ ?_
    · simp only [Array.size_append, List.size_toArray, size_zeroCells, hzs, hcl, hdl]
      rw [← Nat.add_mul, ← Nat.add_mul]
      congr 1
      omega
    · simp only [Array.toList_append]
      show List.take _ ((cs ++ ds) ++ _) = _
      rw [List.take_append_of_le_length (by omega), List.take_of_length_le (by omega)]
  have kn : ∀ o, Kept (Of a b) w (w.drew.alloc o) := fun o => (Kept.refl _ _).drew.alloc o
  cases a2 with
  | none =>
    obtain ⟨rfl, rfl⟩ := hs.2.1 rfl
    have hd : ds = [] := List.eq_nil_of_length_eq_zero (by simpa using hdl)
    subst hd
    refine ⟨b, a, cap, w, ?_, by simpa using own, Kept.refl _ _, .inl ⟨rfl, by cases a <;> simp⟩, by simp⟩
    have hrow : w.ownsRow 0 e k (.slice a n cap) n cs := by
      refine ⟨hcl, ?_⟩
      rcases own.2 with ⟨rfl, rfl, rfl⟩ | ⟨rfl, h1, h2, cur, hh, h3, h4⟩
      · exact .inl ⟨rfl, rfl⟩
      · exact .inr ⟨b, cap, cur, rfl, Nat.zero_le _, hh, h1, h2, by omega, h4⟩
    simpa using run_append_owned_none (P := P) w 0 t ty e i k ht hi _ _ _ hrow
  | some ad =>
    have hnews := hs.2.2 ad rfl
    have hl : ds.length = m * i.size := by rw [hsize]; exact hdl
    rcases own.2 with ⟨rfl, rfl, rfl⟩ | ⟨rfl, h1, h2, cur, hh, h3, h4⟩
    · have hc0 : cs = [] := List.eq_nil_of_length_eq_zero (by simpa using hcl)
      subst hc0
      by_cases hm : m = 0
      · subst hm
        have hd : ds = [] := List.eq_nil_of_length_eq_zero (by simpa using hdl)
        subst hd
        refine ⟨b, none, 0, w, ?_, by simpa using own, Kept.refl _ _, .inl ⟨rfl, .inl rfl⟩, by simp⟩
        simp [Builtin.append_, run_underlying ht, sizeOf, typeInfo, hi, Builtin.lenOf, Builtin.firstCells, loadCells, loadCellsFrom]
      · have hr := run_append_nil (P := P) w t ty e i _ ht hi hz ad m cap2 _ hl hnews (by omega) (by omega) (by rw [hby]; simp at hle; omega)
        have hm2 := made 0 (by omega)
        simp only [Nat.zero_add, List.nil_append, Array.empty_append] at hm2 ⊢
        refine ⟨w.heap.size, _, _, _, hr, ?_, kn _, .inr (Nat.le_refl _), by simp [hm]⟩
        simpa using hm2
    · by_cases hroom : n + m ≤ cap
      · have hfit : n * i.size + ds.length ≤ cur.size := by
          rw [hsize, h3, hdl, ← Nat.add_mul]; exact Nat.mul_le_mul_right k hroom
        have hr := run_append_room (P := P) w t ty e i ht hi b n cap cur hh ad m cap2 _ hl hnews h1c hroom hfit
        refine ⟨b, _, cap, _, hr, ⟨hlen, .inr ⟨rfl, by omega, h2, _, setRow_heap w b cur _ e _ hh, ?_, ?_⟩⟩, ⟨rfl, rfl, rfl, by simp, fun k' _ hk => setRow_other w b k' _ (fun e => hk ⟨by simp, e⟩)⟩, .inl ⟨rfl, .inr (by simp)⟩, by simp⟩
        · simp only [List.size_toArray, List.length_append, List.length_take, List.length_drop, Array.length_toList, hsize, h3, hdl]
          have : (n + m) * k ≤ cap * k := Nat.mul_le_mul_right k hroom
          rw [Nat.add_mul] at this
          omega
        · rw [hsize, h4]
          show List.take _ ((cs ++ ds) ++ _) = _
          rw [List.take_append_of_le_length (by omega), List.take_of_length_le (by omega)]
      · have own' : OwnC e k w b (some ⟨b, 0, none⟩) cap n cs := own
        have holds := own'.src.2.2 _ rfl
        have hr := run_append_grow (P := P) w t ty e i _ ht hi hz ⟨b, 0, none⟩ n cap cs (by rw [hsize]; exact hcl) holds ad m cap2 _ hl hnews (by omega) (by omega) (growslice_fits (by omega) (by rw [hby]; omega))
        exact ⟨w.heap.size, _, _, _, hr, made cap (by omega), kn _, .inr (Nat.le_refl _), by simp⟩
theorem wp_append_cells {P : Program} {w : World} {o : Oper} {a : Act} {K : Act → World → Prop} {Q : Exit → Act → World → Prop} (s x : Operand) (t : TypeId)
    (ho : o.op = .call { callee := .builtin .append, args := #[s, x], argTypes := #[t, t] })
    (e : TypeId) (k : Nat) (i : TypeInfo) (z : Value) (by_ : Nat) (ht : P.underlying t = some (.slice e)) (hi : P.info? e = some i) (hz : i.zero = some z) (hsize : i.size = k) (hby : i.bytes = by_) (hzs : z.cells.size = k)
    (b : Nat) (ao : Option Addr) (cap n : Nat) (cs : List Value) (hs : a.eval s = .slice ao n cap) (own : OwnC e k w b ao cap n cs)
    (a2 : Option Addr) (cap2 m : Nat) (ds : List Value) (hx : a.eval x = .slice a2 m cap2) (hsh : SrcC k w a2 cap2 m ds) (h1c : ∀ u ∈ ds, u.oneCell' = true) (hle : (n + m) * by_ ≤ 70368744177664) (hle2 : n + m ≤ 70368744177664)
    (h : ∀ b' a' cap' w', OwnC e k w' b' a' cap' (n + m) (cs ++ ds) → Kept (Of ao b) w w' → ((b' = b ∧ (a' = none ∨ ao ≠ none)) ∨ w.heap.size ≤ b') → (a' = none ↔ ao = none ∧ m = 0) → K (a.put o.dst (.slice a' (n + m) cap')) w') : o.wp P a w K Q := by
  obtain ⟨b', a', cap', w', hr, h2, h3, h4, h5⟩ := run_append_cells (P := P) w t o.type e k i z by_ ht hi hz hsize hby hzs b ao cap n cs own a2 cap2 m ds hsh h1c hle hle2
  unfold Oper.wp execOp
  simp only [ho, resolve, invoke, builtin, Sem.run_bind, Sem.run_pure, Result.andThen_ok, List.map_toArray, List.map_cons, List.map_nil, hs, hx, hr]
  exact h b' a' cap' w' h2 h3 h4 h5
theorem wpList_append_cells {P : Program} {w : World} {ops : Array Oper} {rest : List Oper} {o : Oper} {a : Act} {Q : Exit → Act → World → Prop} (hgd : o.guard = none) (s x : Operand) (t : TypeId)
    (ho : o.op = .call { callee := .builtin .append, args := #[s, x], argTypes := #[t, t] })
    (e : TypeId) (k : Nat) (i : TypeInfo) (z : Value) (by_ : Nat) (ht : P.underlying t = some (.slice e)) (hi : P.info? e = some i) (hz : i.zero = some z) (hsize : i.size = k) (hby : i.bytes = by_) (hzs : z.cells.size = k)
    (b : Nat) (ao : Option Addr) (cap n : Nat) (cs : List Value) (hs : a.eval s = .slice ao n cap) (own : OwnC e k w b ao cap n cs)
    (a2 : Option Addr) (cap2 m : Nat) (ds : List Value) (hx : a.eval x = .slice a2 m cap2) (hsh : SrcC k w a2 cap2 m ds) (h1c : ∀ u ∈ ds, u.oneCell' = true) (hle : (n + m) * by_ ≤ 70368744177664) (hle2 : n + m ≤ 70368744177664)
    (h : ∀ b' a' cap' w', OwnC e k w' b' a' cap' (n + m) (cs ++ ds) → Kept (Of ao b) w w' → ((b' = b ∧ (a' = none ∨ ao ≠ none)) ∨ w.heap.size ≤ b') → (a' = none ↔ ao = none ∧ m = 0) → wpList P ops Q rest (a.put o.dst (.slice a' (n + m) cap')) w') : wpList P ops Q (o :: rest) a w :=
  wpList_plain hgd fun _ hK => wp_append_cells s x t ho e k i z by_ ht hi hz hsize hby hzs b ao cap n cs hs own a2 cap2 m ds hx hsh h1c hle hle2 fun b' a' cap' w' h2 h3 h4 h5 => hK _ _ (h b' a' cap' w' h2 h3 h4 h5)
end Go.Proofs.YtaengjgmchpabaaGreat.Mem
end
