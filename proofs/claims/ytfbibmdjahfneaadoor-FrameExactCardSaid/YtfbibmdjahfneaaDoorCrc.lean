/- Plain mathematics of layer 3: CRC-32 as a register that is shifted; it is linear, and loses nothing; so a change of up to 32 bits in a row is told. No program. -/
import Derived.Test.YtfbibmdjahfneaaDoorMem
namespace Go.Proofs.YtfbibmdjahfneaaDoor.Fr
open Go Mem

def poly : Nat := 3988292384
/-- one shift of the register -/
def T (c : Nat) : Nat := if c % 2 = 1 then (c / 2) ^^^ poly else c / 2
def TN : Nat → Nat → Nat
  | 0, c => c
  | n + 1, c => TN n (T c)
theorem TN_add (m n : Nat) : ∀ c, TN (m + n) c = TN n (TN m c) := by
  induction m with
  | zero => intro c; rw [Nat.zero_add]; rfl
  | succ m ih => intro c; rw [Nat.succ_add]; exact ih _
theorem xor_mod2 (a b : Nat) : (a ^^^ b) % 2 = (a % 2 + b % 2) % 2 := by
  have h := Nat.testBit_xor a b 0
  simp only [Nat.testBit_zero] at h
  rcases Nat.mod_two_eq_zero_or_one a with ha | ha <;> rcases Nat.mod_two_eq_zero_or_one b with hb | hb <;> rcases Nat.mod_two_eq_zero_or_one (a ^^^ b) with hc | hc <;> simp_all
theorem xor_div2 (a b : Nat) : (a ^^^ b) / 2 = (a / 2) ^^^ (b / 2) := by
  apply Nat.eq_of_testBit_eq
  intro i
  rw [Nat.testBit_xor, Nat.testBit_div_two, Nat.testBit_div_two, Nat.testBit_div_two, Nat.testBit_xor]
theorem xor_swap (a b c d : Nat) : (a ^^^ b) ^^^ (c ^^^ d) = (a ^^^ c) ^^^ (b ^^^ d) := by
  rw [Nat.xor_assoc, Nat.xor_assoc, ← Nat.xor_assoc b c d, Nat.xor_comm b c, Nat.xor_assoc c b d]
theorem T_xor (a b : Nat) : T (a ^^^ b) = T a ^^^ T b := by
  unfold T
  rw [xor_mod2, xor_div2]
  rcases Nat.mod_two_eq_zero_or_one a with ha | ha <;> rcases Nat.mod_two_eq_zero_or_one b with hb | hb <;> simp only [ha, hb]
  · simp
  · simp [Nat.xor_assoc]
  · simp only [if_true, Nat.zero_ne_one, if_false]
    rw [Nat.xor_assoc, Nat.xor_assoc, Nat.xor_comm poly]
  · simp only [if_true]
    rw [xor_swap, Nat.xor_self, Nat.xor_zero]; simp
theorem TN_xor (n : Nat) : ∀ a b, TN n (a ^^^ b) = TN n a ^^^ TN n b := by
  induction n with
  | zero => intro a b; rfl
  | succ n ih => intro a b; show TN n (T (a ^^^ b)) = _; rw [T_xor]; exact ih _ _
theorem T_zero : T 0 = 0 := rfl
theorem TN_zero (n : Nat) : TN n 0 = 0 := by
  induction n with
  | zero => rfl
  | succ n ih => exact ih
theorem T_even (y : Nat) : T (2 * y) = y := by unfold T; rw [if_neg (by omega)]; omega
theorem TN_pow (n : Nat) : ∀ y, TN n (2 ^ n * y) = y := by
  induction n with
  | zero => intro y; simp [TN]
  | succ n ih =>
    intro y
    show TN n (T (2 ^ (n + 1) * y)) = y
    rw [Nat.pow_succ, Nat.mul_comm (2 ^ n) 2, Nat.mul_assoc, T_even]
    exact ih y
theorem T_lt {c : Nat} (h : c < 4294967296) : T c < 4294967296 := by
  unfold T
  split
  · exact Nat.xor_lt_two_pow (n := 32) (by omega) (by decide)
  · omega
theorem TN_lt (n : Nat) : ∀ c, c < 4294967296 → TN n c < 4294967296 := by
  induction n with
  | zero => intro c h; exact h
  | succ n ih => intro c h; exact ih _ (T_lt h)
/-- nothing is lost -/
theorem T_ne {c : Nat} (h : c < 4294967296) (h0 : c ≠ 0) : T c ≠ 0 := by
  unfold T
  split
  · intro e
    have h31 : ((c / 2) ^^^ poly).testBit 31 = true := by
      rw [Nat.testBit_xor, Nat.testBit_lt_two_pow (by omega : c / 2 < 2 ^ 31)]
      decide
    rw [e] at h31
    simp at h31
  · omega
theorem TN_ne (n : Nat) : ∀ c, c < 4294967296 → c ≠ 0 → TN n c ≠ 0 := by
  induction n with
  | zero => intro c _ h; exact h
  | succ n ih => intro c h h0; exact ih _ (T_lt h) (T_ne h h0)

/-- a byte: its eight bits are added at once -/
def byteC (c b : Nat) : Nat := TN 8 (c ^^^ b)
def fold (c : Nat) (l : List Nat) : Nat := l.foldl byteC c
/-- the sum of bytes -/
def crc (l : List Nat) : Nat := fold 4294967295 l ^^^ 4294967295
/-- the register, bit by bit: as the page says it -/
def bitC (c bit : Nat) : Nat := if (c % 2 + bit) % 2 = 1 then (c / 2) ^^^ poly else c / 2
theorem bitC_T (c bit : Nat) (h : bit < 2) : bitC c bit = T (c ^^^ bit) := by
  unfold bitC T
  rw [xor_mod2, xor_div2, show bit / 2 = 0 by omega, Nat.xor_zero, show bit % 2 = bit by omega]
/-- n bits of y, from the lowest one on -/
def bitsC : Nat → Nat → Nat → Nat
  | 0, c, _ => c
  | n + 1, c, y => bitsC n (bitC c (y % 2)) (y / 2)
theorem split2 (y : Nat) : y = (y % 2) ^^^ (2 * (y / 2)) := by
  apply Nat.eq_of_testBit_eq
  intro i
  rw [Nat.testBit_xor]
  cases i with
  | zero => simp [Nat.testBit_zero]
  | succ i =>
    have h1 : (y % 2).testBit (i + 1) = false := by
      have := Nat.testBit_mod_two_pow y 1 (i + 1)
      simpa using this
    have h2 : (2 * (y / 2)).testBit (i + 1) = y.testBit (i + 1) := by
      rw [Nat.testBit_succ, Nat.testBit_succ]
      congr 1; omega
    rw [h1, h2]; simp
theorem bitsC_TN (n : Nat) : ∀ c y, bitsC n c y = TN n (c ^^^ y) ^^^ (y / 2 ^ n) := by
  induction n with
  | zero => intro c y; show c = (c ^^^ y) ^^^ (y / 1); rw [Nat.div_one, Nat.xor_assoc, Nat.xor_self, Nat.xor_zero]
  | succ n ih =>
    intro c y
    show bitsC n (bitC c (y % 2)) (y / 2) = TN n (T (c ^^^ y)) ^^^ _
    rw [ih, bitC_T _ _ (Nat.mod_lt _ (by decide))]
    have e : T (c ^^^ y) = T (c ^^^ (y % 2)) ^^^ (y / 2) := by
      conv => lhs; rw [split2 y, ← Nat.xor_assoc, T_xor, T_even]
    rw [e, Nat.div_div_eq_div_mul, ← Nat.pow_succ']
theorem byteC_bits (c b : Nat) (hb : b < 256) : byteC c b = bitsC 8 c b := by
  rw [bitsC_TN, show b / 2 ^ 8 = 0 by omega, Nat.xor_zero]; rfl
theorem fold_append (c : Nat) (l m : List Nat) : fold c (l ++ m) = fold (fold c l) m := List.foldl_append
theorem byteC_lt {c b : Nat} (hc : c < 4294967296) (hb : b < 256) : byteC c b < 4294967296 := TN_lt _ _ (Nat.xor_lt_two_pow (n := 32) (by omega) (by omega))
theorem fold_lt : ∀ (l : List Nat) (c : Nat), B8 l → c < 4294967296 → fold c l < 4294967296 := by
  intro l
  induction l with
  | nil => intro c _ h; exact h
  | cons b l ih => intro c h8 h; exact ih _ (fun x hx => h8 x (List.mem_cons_of_mem _ hx)) (byteC_lt h (h8 b (List.mem_cons_self ..)))
theorem crc_lt {l : List Nat} (h8 : B8 l) : crc l < 4294967296 := Nat.xor_lt_two_pow (n := 32) (fold_lt l _ h8 (by decide)) (by decide)
/-- two lists, turned where d has bits -/
def turn : List Nat → List Nat → List Nat
  | a :: l, b :: d => (a ^^^ b) :: turn l d
  | l, _ => l
theorem byteC_xor (c c' a b : Nat) : byteC (c ^^^ c') (a ^^^ b) = byteC c a ^^^ byteC c' b := by
  unfold byteC; rw [xor_swap, TN_xor]
theorem fold_turn : ∀ (l d : List Nat) (c c' : Nat), l.length = d.length → fold (c ^^^ c') (turn l d) = fold c l ^^^ fold c' d := by
  intro l
  induction l with
  | nil => intro d c c' h; obtain rfl : d = [] := List.eq_nil_of_length_eq_zero h.symm; rfl
  | cons a l ih =>
    intro d c c' h
    cases d with
    | nil => simp at h
    | cons b d =>
      show fold (byteC (c ^^^ c') (a ^^^ b)) (turn l d) = _
      rw [byteC_xor]
      exact ih d _ _ (by simpa using h)
theorem fold_zeros (n : Nat) : ∀ c, fold c (List.replicate n 0) = TN (8 * n) c := by
  induction n with
  | zero => intro c; rfl
  | succ n ih =>
    intro c
    show fold (byteC c 0) (List.replicate n 0) = _
    rw [ih, show 8 * (n + 1) = 8 + 8 * n by omega, TN_add]
    unfold byteC; rw [Nat.xor_zero]
theorem add_high (b y : Nat) (hb : b < 256) : 256 * y + b = 2 ^ 8 * y ^^^ b := by
  apply Nat.eq_of_testBit_eq
  intro i
  rw [Nat.testBit_xor, Nat.testBit_two_pow_mul, show 256 * y + b = 2 ^ 8 * y + b by rfl, Nat.testBit_two_pow_mul_add y hb]
  by_cases h : i < 8
  · rw [if_pos h]
    simp [show ¬ 8 ≤ i by omega]
  · rw [if_neg h]
    have : b.testBit i = false := Nat.testBit_lt_two_pow (Nat.lt_of_lt_of_le hb (Nat.pow_le_pow_right (by decide : 0 < 2) (by omega : 8 ≤ i)))
    rw [this]
    simp [show 8 ≤ i by omega]
/-- bytes as a number, the lowest first -/
def little : List Nat → Nat
  | [] => 0
  | b :: l => b + 256 * little l
theorem fold_little : ∀ (l : List Nat), B8 l → fold 0 l = TN (8 * l.length) (little l) := by
  have key : ∀ (l : List Nat), B8 l → ∀ c, fold c l = TN (8 * l.length) (c ^^^ little l) := by
    intro l
    induction l with
    | nil => intro _ c; show c = c ^^^ 0; rw [Nat.xor_zero]
    | cons b l ih =>
      intro h8 c
      have hb := h8 b (List.mem_cons_self ..)
      show fold (byteC c b) l = _
      rw [ih (fun x hx => h8 x (List.mem_cons_of_mem _ hx)), List.length_cons, show 8 * (l.length + 1) = 8 + 8 * l.length by omega, TN_add]
      congr 1
      have e : little (b :: l) = b ^^^ (2 ^ 8 * little l) := by
        show b + 256 * little l = _
        rw [Nat.xor_comm, Nat.add_comm]
        exact add_high b (little l) hb
      rw [e, ← Nat.xor_assoc, TN_xor, TN_pow]; rfl
  intro l h8
  rw [key l h8 0, Nat.zero_xor]

theorem little_lt : ∀ (l : List Nat), B8 l → little l < 256 ^ l.length := by
  intro l
  induction l with
  | nil => intro _; exact Nat.one_pos
  | cons b l ih =>
    intro h8
    have hb := h8 b (List.mem_cons_self ..)
    have := ih (fun x hx => h8 x (List.mem_cons_of_mem _ hx))
    show b + 256 * little l < 256 ^ (l.length + 1)
    rw [Nat.pow_succ]; omega
theorem little_zero : ∀ (l : List Nat), little l = 0 → ∀ x ∈ l, x = 0 := by
  intro l
  induction l with
  | nil => intro _ x hx; cases hx
  | cons b l ih =>
    intro h x hx
    have h' : b + 256 * little l = 0 := h
    rcases List.mem_cons.1 hx with rfl | hx
    · omega
    · exact ih (by omega) x hx
/-- the m lowest bytes of x -/
def lows : Nat → Nat → List Nat
  | 0, _ => []
  | m + 1, x => x % 256 :: lows m (x / 256)
theorem lows_len (m : Nat) : ∀ x, (lows m x).length = m := by
  induction m with
  | zero => intro x; rfl
  | succ m ih => intro x; show (lows m _).length + 1 = _; rw [ih]
theorem lows_b8 (m : Nat) : ∀ x, B8 (lows m x) := by
  induction m with
  | zero => intro x y hy; cases hy
  | succ m ih =>
    intro x y hy
    rcases List.mem_cons.1 hy with rfl | hy
    · omega
    · exact ih _ y hy
theorem little_lows (m : Nat) : ∀ x, little (lows m x) = x % 256 ^ m := by
  induction m with
  | zero => intro x; show 0 = x % 1; omega
  | succ m ih =>
    intro x
    show x % 256 + 256 * little (lows m (x / 256)) = _
    rw [ih, Nat.pow_succ', Nat.mod_mul]
/-- what is added to n bytes: m bytes of x, from place k on -/
def diff (n k m x : Nat) : List Nat := List.replicate k 0 ++ lows m x ++ List.replicate (n - k - m) 0
theorem diff_len {n k m : Nat} (h : k + m ≤ n) (x : Nat) : (diff n k m x).length = n := by
  unfold diff; simp [lows_len]; omega
theorem turn_zeros : ∀ (l : List Nat) (n : Nat), turn l (List.replicate n 0) = l := by
  intro l
  induction l with
  | nil => intro n; cases n <;> rfl
  | cons a l ih =>
    intro n
    cases n with
    | zero => rfl
    | succ n => show (a ^^^ 0) :: turn l (List.replicate n 0) = _; rw [Nat.xor_zero, ih]
theorem zeros_of {l : List Nat} (h : ∀ x ∈ l, x = 0) : l = List.replicate l.length 0 := List.eq_replicate_iff.2 ⟨rfl, h⟩
/-- nothing is turned -/
theorem diff_none {n k m x : Nat} (h : k + m ≤ n) (h0 : little (lows m x) = 0) (p : List Nat) : turn p (diff n k m x) = p := by
  have e : diff n k m x = List.replicate n 0 := by
    have hz : ∀ y ∈ diff n k m x, y = 0 := by
      intro y hy
      unfold diff at hy
      rw [List.mem_append, List.mem_append] at hy
      rcases hy with (hy | hy) | hy
      · exact (List.mem_replicate.1 hy).2
      · exact little_zero _ h0 y hy
      · exact (List.mem_replicate.1 hy).2
    have := zeros_of hz
    rw [diff_len h] at this
    exact this
  rw [e, turn_zeros]
/-- up to 32 bits in a row, turned, are told -/
theorem burst {p pre : List Nat} {k m s B : Nat} (h : k + m ≤ p.length) (hs : s < 8) (hB : B < 4294967296) (hm : m ≤ 5) (h0 : little (lows m (2 ^ s * B)) ≠ 0) :
    crc (pre ++ turn p (diff p.length k m (2 ^ s * B))) ≠ crc (pre ++ p) := by
  have hd : fold 0 (diff p.length k m (2 ^ s * B)) ≠ 0 := by
    unfold diff
    rw [fold_append, fold_append, fold_zeros, fold_zeros, TN_zero, fold_little _ (lows_b8 _ _), lows_len]
    -- what stands in the register behind the turned bytes
    have hx : TN (8 * m) (little (lows m (2 ^ s * B))) ≠ 0 ∧ TN (8 * m) (little (lows m (2 ^ s * B))) < 4294967296 := by
      rcases Nat.lt_or_ge m 5 with h4 | h5
      · have hl : little (lows m (2 ^ s * B)) < 4294967296 := by
          have h1 := little_lt _ (lows_b8 m (2 ^ s * B))
          rw [lows_len] at h1
          have h2 : 256 ^ m ≤ 256 ^ 4 := Nat.pow_le_pow_right (by decide) (by omega)
          rw [show 256 ^ 4 = 4294967296 from rfl] at h2
          omega
        exact ⟨TN_ne _ _ hl h0, TN_lt _ _ hl⟩
      · obtain rfl : m = 5 := by omega
        have hp : 2 ^ s ≤ 2 ^ 7 := Nat.pow_le_pow_right (by decide) (by omega)
        have hlt : 2 ^ s * B < 256 ^ 5 := by
          have h1 : 2 ^ s * B ≤ 2 ^ 7 * 4294967295 := Nat.mul_le_mul hp (by omega)
          rw [show 2 ^ 7 * 4294967295 = 549755813760 from rfl] at h1
          rw [show 256 ^ 5 = 1099511627776 from rfl]
          omega
        rw [little_lows, Nat.mod_eq_of_lt hlt] at h0 ⊢
        have hB0 : B ≠ 0 := by rintro rfl; simp at h0
        rw [show 8 * 5 = s + (40 - s) by omega, TN_add, TN_pow]
        exact ⟨TN_ne _ _ hB hB0, TN_lt _ _ hB⟩
    exact TN_ne _ _ hx.2 hx.1
  intro e
  unfold crc at e
  rw [fold_append, fold_append] at e
  have e2 := congrArg (· ^^^ 4294967295) e
  simp only [Nat.xor_assoc, Nat.xor_self, Nat.xor_zero] at e2
  have e3 := fold_turn p (diff p.length k m (2 ^ s * B)) (fold 4294967295 pre) 0 (diff_len h _).symm
  rw [Nat.xor_zero, e2] at e3
  have e4 := congrArg (fold (fold 4294967295 pre) p ^^^ ·) e3
  simp only [← Nat.xor_assoc, Nat.xor_self, Nat.zero_xor] at e4
  exact hd e4.symm
end Go.Proofs.YtfbibmdjahfneaaDoor.Fr
