/-
  What the checksum CRC-32C is, as plain arithmetic on natural numbers: one step of its register, that steps are linear and one-to-one, that they keep the parity, and that no step count below 2^31 - 1 leads back. No condition; nothing here speaks of a program.
-/

namespace Go.Proofs.Ytlcddfkhklmieaa.Crc

/-- The register's fixed pattern. -/
def pat : Nat := 2197175160
/-- One step: the lowest bit falls out. -/
def st (s : Nat) : Nat := (s / 2) ^^^ (if s % 2 = 1 then pat else 0)
def stn : Nat → Nat → Nat
  | 0, s => s
  | n + 1, s => stn n (st s)
def full : Nat := 4294967296

theorem xor_cancel {a b : Nat} (h : a ^^^ b = 0) : a = b := by
  apply Nat.eq_of_testBit_eq
  intro i
  have := congrArg (fun x => x.testBit i) h
  simp only [Nat.testBit_xor, Nat.zero_testBit] at this
  revert this
  cases a.testBit i <;> cases b.testBit i <;> simp
theorem xor_back (a b : Nat) : (a ^^^ b) ^^^ b = a := by rw [Nat.xor_assoc, Nat.xor_self, Nat.xor_zero]
theorem xor_left_back (a b : Nat) : a ^^^ (a ^^^ b) = b := by rw [← Nat.xor_assoc, Nat.xor_self, Nat.zero_xor]
theorem xor_left_com (a b c : Nat) : a ^^^ (b ^^^ c) = b ^^^ (a ^^^ c) := by rw [← Nat.xor_assoc, Nat.xor_comm a b, Nat.xor_assoc]
theorem xor_four (a b c d : Nat) : (a ^^^ b) ^^^ (c ^^^ d) = (a ^^^ c) ^^^ (b ^^^ d) := by
  rw [Nat.xor_assoc, xor_left_com b c d, ← Nat.xor_assoc]
theorem xor_left_inj {a b c : Nat} (h : a ^^^ b = a ^^^ c) : b = c := by
  have := congrArg (fun x => a ^^^ x) h
  simpa [xor_left_back] using this
theorem xor_right_inj {a b c : Nat} (h : b ^^^ a = c ^^^ a) : b = c := by
  rw [Nat.xor_comm b, Nat.xor_comm c] at h; exact xor_left_inj h

theorem st_zero : st 0 = 0 := by decide
theorem st_even (q : Nat) : st (2 * q) = q := by
  unfold st
  rw [Nat.mul_div_cancel_left _ (by omega), if_neg (by omega), Nat.xor_zero]
theorem st_xor (a b : Nat) : st (a ^^^ b) = st a ^^^ st b := by
  unfold st
  rw [Nat.xor_div_two, xor_four]
  congr 1
  have h := @Nat.xor_mod_two_eq_one a b
  by_cases ha : a % 2 = 1 <;> by_cases hb : b % 2 = 1
  · rw [if_neg (by rw [h]; simp [ha, hb]), if_pos ha, if_pos hb, Nat.xor_self]
  · rw [if_pos (by rw [h]; simp [ha, hb]), if_pos ha, if_neg hb, Nat.xor_zero]
  · rw [if_pos (by rw [h]; simp [ha, hb]), if_neg ha, if_pos hb, Nat.zero_xor]
  · rw [if_neg (by rw [h]; simp [ha, hb]), if_neg ha, if_neg hb, Nat.xor_zero]
theorem st_lt {s : Nat} (h : s < full) : st s < full := by
  unfold st full at *
  apply Nat.xor_lt_two_pow (n := 32)
  · omega
  · split <;> simp [pat]
theorem st_null {s : Nat} (h : s < full) (h0 : st s = 0) : s = 0 := by
  unfold st full at *
  by_cases hs : s % 2 = 1
  · rw [if_pos hs] at h0
    have := xor_cancel h0
    unfold pat at this
    omega
  · rw [if_neg hs, Nat.xor_zero] at h0
    omega
theorem stn_zero (n : Nat) : stn n 0 = 0 := by
  induction n with
  | zero => rfl
  | succ n ih => rw [stn, st_zero, ih]
theorem stn_xor (n a b : Nat) : stn n (a ^^^ b) = stn n a ^^^ stn n b := by
  induction n generalizing a b with
  | zero => rfl
  | succ n ih => rw [stn, st_xor, ih]; rfl
theorem stn_lt {n s : Nat} (h : s < full) : stn n s < full := by
  induction n generalizing s with
  | zero => exact h
  | succ n ih => exact ih (st_lt h)
theorem stn_null {n s : Nat} (h : s < full) (h0 : stn n s = 0) : s = 0 := by
  induction n generalizing s with
  | zero => exact h0
  | succ n ih => exact st_null h (ih (st_lt h) h0)
theorem stn_inj {n a b : Nat} (ha : a < full) (hb : b < full) (h : stn n a = stn n b) : a = b := by
  apply xor_cancel
  apply stn_null (n := n) (Nat.xor_lt_two_pow (n := 32) ha hb)
  rw [stn_xor, h, Nat.xor_self]
theorem stn_add (m n s : Nat) : stn (m + n) s = stn n (stn m s) := by
  induction m generalizing s with
  | zero => simp [stn]
  | succ m ih => rw [Nat.succ_add, stn, ih]; rfl
theorem stn_succ (n s : Nat) : stn (n + 1) s = st (stn n s) := by rw [stn_add]; rfl
theorem stn_even (k q : Nat) : stn k (2 ^ k * q) = q := by
  induction k generalizing q with
  | zero => simp [stn]
  | succ k ih => rw [stn, Nat.pow_succ, Nat.mul_comm (2 ^ k) 2, Nat.mul_assoc, st_even, ih]
theorem stn_pow (k : Nat) : stn k (2 ^ k) = 1 := by simpa using stn_even k 1

/-! Four steps at once: a table of sixteen. -/
def halves : List Nat := [0, 274646895, 549293790, 820201905, 1098587580, 1361435347, 1640403810, 1905808397, 2197175160, 2460548119, 2722870694, 2987750089, 3280807620, 3553878443, 3811616794, 4084100981]
def half (k : Nat) : Nat := halves.getD k 0
theorem half_lt (k : Nat) : half k < full := by
  by_cases h : k < 16
  · exact (show ∀ k < 16, half k < full by decide) k h
  · have : halves[k]? = none := List.getElem?_eq_none (by simp [halves]; omega)
    simp [half, this, full]
theorem half_eq : ∀ k < 16, stn 4 k = half k := by decide
def nib (s : Nat) : Nat := s / 16 ^^^ half (s % 16)
theorem nib_eq (s : Nat) : nib s = stn 4 s := by
  have e : s = (s ^^^ s % 16) ^^^ s % 16 := (xor_back _ _).symm
  have hm : (s ^^^ s % 16) % 16 = 0 := by
    have := @Nat.xor_mod_two_pow s (s % 16) 4
    simpa using this
  have hd : (s ^^^ s % 16) / 16 = s / 16 := by
    have := @Nat.xor_div_two_pow s (s % 16) 4
    have h0 : s % 16 / 16 = 0 := by omega
    simpa [h0] using this
  have hq : s ^^^ s % 16 = 2 ^ 4 * (s / 16) := by omega
  rw [e, stn_xor, hq, stn_even, half_eq _ (by omega), nib]
  rw [← hq, ← e]

/-! A byte, and bytes. -/
def addB (s x : Nat) : Nat := stn 8 (s ^^^ x)
theorem addB_nib (s x : Nat) : addB s x = nib (nib (s ^^^ x)) := by rw [nib_eq, nib_eq, ← stn_add]; rfl
def addL (s : Nat) (l : List UInt8) : Nat := l.foldl (fun s c => addB s c.toNat) s
@[simp] theorem addL_nil (s : Nat) : addL s [] = s := rfl
theorem addL_cons (s : Nat) (c : UInt8) (l : List UInt8) : addL s (c :: l) = addL (addB s c.toNat) l := rfl
theorem addL_append (s : Nat) (a b : List UInt8) : addL s (a ++ b) = addL (addL s a) b := by simp [addL, List.foldl_append]
theorem addL_snoc (s : Nat) (a : List UInt8) (c : UInt8) : addL s (a ++ [c]) = addB (addL s a) c.toNat := by rw [addL_append]; rfl
theorem u8_full (c : UInt8) : c.toNat < full := by have := c.toNat_lt; unfold full; omega
theorem addB_lt {s x : Nat} (h : s < full) (hx : x < full) : addB s x < full := stn_lt (Nat.xor_lt_two_pow (n := 32) h hx)
theorem addL_lt {s : Nat} {l : List UInt8} (h : s < full) : addL s l < full := by
  induction l generalizing s with
  | nil => exact h
  | cons c l ih => exact ih (addB_lt h (u8_full c))
theorem addB_xor (a b x y : Nat) : addB (a ^^^ b) (x ^^^ y) = addB a x ^^^ addB b y := by
  unfold addB; rw [xor_four, stn_xor]
/-- What is turned in the register before bytes stands behind them, stepped on. -/
theorem addL_turned (a d : Nat) (l : List UInt8) : addL (a ^^^ d) l = addL a l ^^^ stn (8 * l.length) d := by
  induction l generalizing a d with
  | nil => rfl
  | cons c l ih =>
    have h := addB_xor a d c.toNat 0
    rw [Nat.xor_zero] at h
    rw [addL_cons, h, ih, addL_cons, List.length_cons, show 8 * (l.length + 1) = 8 + 8 * l.length by omega, stn_add]
    unfold addB; rw [Nat.xor_zero]

def ones : Nat := 4294967295
theorem ones_lt : ones < full := by decide
theorem ones_sub {s : Nat} (h : s < full) : ones - s = ones ^^^ s := by
  apply Nat.eq_of_testBit_eq
  intro i
  have h1 := @Nat.testBit_two_pow_sub_succ s 32 h i
  have h2 : (2 ^ 32 - (s + 1)) = ones - s := by unfold ones full at *; omega
  rw [← h2, h1, Nat.testBit_xor, show ones = 2 ^ 32 - 1 from rfl, Nat.testBit_two_pow_sub_one]
  by_cases hi : i < 32
  · simp [hi]
  · have : s.testBit i = false := Nat.testBit_lt_two_pow (Nat.lt_of_lt_of_le h (Nat.pow_le_pow_right (n := 2) (by omega) (by omega : 32 ≤ i)))
    simp [hi, this]
/-- The sum of bytes. -/
def crc (l : List UInt8) : Nat := ones ^^^ addL ones l
theorem crc_lt (l : List UInt8) : crc l < full := Nat.xor_lt_two_pow (n := 32) ones_lt (addL_lt ones_lt)

/-! The four bytes of a sum, the lowest first. -/
def le4 (v : Nat) : List UInt8 := [UInt8.ofNat v, UInt8.ofNat (v / 256), UInt8.ofNat (v / 65536), UInt8.ofNat (v / 16777216)]
def un4 (a b c d : UInt8) : Nat := a.toNat + 256 * b.toNat + 65536 * c.toNat + 16777216 * d.toNat
@[simp] theorem le4_length (v : Nat) : (le4 v).length = 4 := rfl
theorem un4_le4 {v : Nat} (h : v < full) : un4 (UInt8.ofNat v) (UInt8.ofNat (v / 256)) (UInt8.ofNat (v / 65536)) (UInt8.ofNat (v / 16777216)) = v := by
  unfold un4 full at *
  simp only [UInt8.toNat_ofNat']
  omega
theorem un4_lt (a b c d : UInt8) : un4 a b c d < full := by
  have := a.toNat_lt; have := b.toNat_lt; have := c.toNat_lt; have := d.toNat_lt
  unfold un4 full; omega
theorem le4_un4 (a b c d : UInt8) : le4 (un4 a b c d) = [a, b, c, d] := by
  have ha := a.toNat_lt; have hb := b.toNat_lt; have hc := c.toNat_lt; have hd := d.toNat_lt
  unfold le4 un4
  simp only [List.cons.injEq, and_true]
  refine ⟨?_, ?_, ?_, ?_⟩ <;> apply UInt8.toNat.inj <;> simp only [UInt8.toNat_ofNat'] <;> omega
theorem xor_add {a q : Nat} (k : Nat) (h : a < 2 ^ k) : a ^^^ (2 ^ k * q) = a + 2 ^ k * q := by
  rw [Nat.add_comm, Nat.two_pow_add_eq_or_of_lt h]
  apply Nat.eq_of_testBit_eq
  intro i
  rw [Nat.testBit_xor, Nat.testBit_or, Nat.testBit_two_pow_mul]
  by_cases hi : i < k
  · have : ¬ i ≥ k := by omega
    simp [this]
  · have h1 : a.testBit i = false := Nat.testBit_lt_two_pow (Nat.lt_of_lt_of_le h (Nat.pow_le_pow_right (by omega) (by omega)))
    simp [h1]
theorem un4_xor (a b c d : UInt8) : un4 a b c d = a.toNat ^^^ (2 ^ 8 * (b.toNat ^^^ (2 ^ 8 * (c.toNat ^^^ (2 ^ 8 * d.toNat))))) := by
  have := a.toNat_lt; have := b.toNat_lt; have := c.toNat_lt; have := d.toNat_lt
  rw [xor_add 8 (by omega), xor_add 8 (by omega), xor_add 8 (by omega)]
  unfold un4; omega
/-- Four bytes taken in are their number taken in at once. -/
theorem addL_four (s : Nat) (a b c d : UInt8) : addL s [a, b, c, d] = stn 32 (s ^^^ un4 a b c d) := by
  have e : ∀ (s x y : Nat), stn 8 (s ^^^ (x ^^^ 2 ^ 8 * y)) = stn 8 (s ^^^ x) ^^^ y := by
    intro s x y
    rw [← Nat.xor_assoc, stn_xor, stn_even]
  rw [un4_xor, show 32 = 8 + (8 + (8 + 8)) by rfl, stn_add, stn_add, stn_add, e, e, e]
  rfl

/-! No way back below 2^31 - 1 steps. -/
def unit : Nat := 2147483648
def mulGo (v w : Nat) : Nat → Nat → Nat
  | 0, acc => acc
  | n + 1, acc => mulGo v w n (st acc ^^^ (if v / 2 ^ (31 - n) % 2 = 1 then w else 0))
/-- The product of two powers of the step, told by what they make of the unit. -/
def mul (v w : Nat) : Nat := mulGo v w 32 0
def sqr : Nat → Nat → Nat
  | 0, v => v
  | n + 1, v => sqr n (mul v v)

theorem mulGo_eq (m v : Nat) (n : Nat) (hn : n ≤ 32) (acc : Nat) (ha : acc = stn m (2 ^ n * (v % 2 ^ (32 - n)))) : mulGo v (stn m unit) n acc = stn m (v % 2 ^ 32) := by
  induction n generalizing acc with
  | zero => simpa [mulGo] using ha
  | succ n ih =>
    rw [mulGo]
    apply ih (by omega)
    rw [ha, ← stn_succ, Nat.add_comm m 1, stn_add, stn, stn, Nat.pow_succ, Nat.mul_comm (2 ^ n) 2, Nat.mul_assoc, st_even]
    have e1 : 32 - n = (32 - (n + 1)) + 1 := by omega
    have e2 : 31 - n = 32 - (n + 1) := by omega
    rw [e1, e2, Nat.pow_succ, Nat.mod_mul]
    generalize hk : 32 - (n + 1) = k
    have hp : 2 ^ n * 2 ^ k = 2 ^ 31 := by rw [← Nat.pow_add]; congr 1; omega
    have hlow : 2 ^ n * (v % 2 ^ k) < 2 ^ 31 := by
      rw [← hp]
      exact Nat.mul_lt_mul_of_pos_left (Nat.mod_lt _ (Nat.two_pow_pos k)) (Nat.two_pow_pos n)
    rcases Nat.mod_two_eq_zero_or_one (v / 2 ^ k) with h | h
    · simp [h]
    · rw [if_pos h, h, ← stn_xor, Nat.mul_one, Nat.mul_add, hp]
      have := xor_add (q := 1) 31 hlow
      rw [Nat.mul_one] at this
      rw [← this]
      rfl
theorem mul_eq (m v : Nat) (hv : v < full) : mul v (stn m unit) = stn m v := by
  have := mulGo_eq m v 32 (by omega) 0 (by simp [stn_zero, Nat.mod_one])
  rw [mul, this, Nat.mod_eq_of_lt (show v < 2 ^ 32 from hv)]
theorem sqr_eq (n m : Nat) : sqr n (stn m unit) = stn (2 ^ n * m) unit := by
  induction n generalizing m with
  | zero => simp [sqr]
  | succ n ih =>
    rw [sqr, mul_eq _ _ (stn_lt (by decide)), ← stn_add, ih]
    congr 1
    rw [Nat.pow_succ, Nat.mul_assoc]
    congr 1
    omega
def period : Nat := 2147483647
theorem sqr31 : sqr 31 (stn 1 unit) = stn 1 unit := by decide +kernel
theorem period_unit : stn period unit = unit := by
  have h := sqr_eq 31 1
  rw [sqr31, Nat.mul_one, show 2 ^ 31 = period + 1 by rfl, stn_add period 1] at h
  exact (stn_inj (by decide) (stn_lt (by decide)) h).symm
/-- What stands still under n steps at one power of the step stands still everywhere that the unit leads to. -/
theorem stn_mul {n s : Nat} (h : stn n s = s) (k : Nat) : stn (n * k) s = s := by
  induction k with
  | zero => rfl
  | succ k ih => rw [Nat.mul_succ, stn_add, ih, h]
def noDiv : Nat → Nat → Bool
  | 0, k => Nat.blt 0 (Nat.mod 2147483647 k)
  | n + 1, k => and (noDiv n k) (noDiv n (Nat.add k (Nat.pow 2 n)))
theorem noDiv_all : noDiv 16 2 = true := by decide +kernel
theorem noDiv_eq (n k j : Nat) (h : noDiv n k = true) (h1 : k ≤ j) (h2 : j < k + 2 ^ n) : period % j ≠ 0 := by
  induction n generalizing k with
  | zero =>
    obtain rfl : j = k := by simp at h2; omega
    have : Nat.blt 0 (Nat.mod 2147483647 j) = true := h
    rw [Nat.blt_eq] at this
    have e : Nat.mod 2147483647 j = period % j := rfl
    omega
  | succ n ih =>
    have h' : (noDiv n k && noDiv n (k + 2 ^ n)) = true := h
    rw [Bool.and_eq_true] at h'
    by_cases hj : j < k + 2 ^ n
    · exact ih k h'.1 h1 hj
    · exact ih _ h'.2 (by omega) (by rw [Nat.pow_succ] at h2; omega)
/-- 2^31 - 1 is a prime. -/
theorem period_prime (d : Nat) (h0 : 0 < d) (h1 : d < period) : Nat.gcd d period = 1 := by
  generalize hg : Nat.gcd d period = g
  have hd : g ∣ d := hg ▸ Nat.gcd_dvd_left d period
  have hp : g ∣ period := hg ▸ Nat.gcd_dvd_right d period
  have hle : g ≤ d := Nat.le_of_dvd h0 hd
  have hpos : 0 < g := Nat.pos_of_dvd_of_pos hd h0
  rcases Nat.lt_or_ge g 2 with h | h
  · omega
  exfalso
  obtain ⟨q, hq⟩ := hp
  rcases Nat.lt_or_ge g 65538 with hs | hs
  · exact noDiv_eq 16 2 g noDiv_all h (by simpa using hs) (by rw [hq]; simp)
  · have hq1 : q < 65538 := by
      apply Nat.lt_of_not_le
      intro hh
      have : 65538 * 65538 ≤ g * q := Nat.mul_le_mul hs hh
      unfold period at hq
      omega
    have hq2 : 2 ≤ q := by
      rcases Nat.lt_or_ge q 2 with h2 | h2
      · have : q = 0 ∨ q = 1 := by omega
        rcases this with rfl | rfl
        · unfold period at hq; omega
        · unfold period at *; omega
      · exact h2
    exact noDiv_eq 16 2 q noDiv_all hq2 (by simpa using hq1) (by rw [hq, Nat.mul_comm]; simp)
theorem stn_gcd (a b s : Nat) : stn a s = s → stn b s = s → stn (Nat.gcd a b) s = s := by
  induction a, b using Nat.gcd.induction with
  | H0 n => intro _ h; rwa [Nat.gcd_zero_left]
  | H1 m n _ ih =>
    intro h1 h2
    rw [Nat.gcd_rec]
    apply ih _ h1
    have e : n = m * (n / m) + n % m := (Nat.div_add_mod n m).symm
    rw [e, stn_add, stn_mul h1] at h2
    exact h2
/-- Below 2^31 - 1 steps nothing leads back to the unit. -/
theorem no_return {d : Nat} (h0 : 0 < d) (h1 : d < period) : stn d unit ≠ unit := by
  intro h
  have hg := stn_gcd _ _ _ h period_unit
  rw [period_prime d h0 h1] at hg
  exact absurd hg (by decide)
/-- The same of 1, which 31 steps make of the unit. -/
theorem no_return_one {d : Nat} (h0 : 0 < d) (h1 : d < period) : stn d 1 ≠ 1 := by
  intro h
  have e : (1 : Nat) = stn 31 unit := by decide
  rw [e, ← stn_add, Nat.add_comm, stn_add] at h
  exact no_return h0 h1 (stn_inj (stn_lt (by decide)) (by decide) h)

/-! Parity: whether an odd number of bits is set. -/
def par : Nat → Nat → Bool
  | 0, _ => false
  | n + 1, s => (s % 2 == 1) ^^ par n (s / 2)
theorem par_zero (n : Nat) : par n 0 = false := by
  induction n with
  | zero => rfl
  | succ n ih => simp [par, ih]
theorem par_xor (n a b : Nat) : par n (a ^^^ b) = (par n a ^^ par n b) := by
  induction n generalizing a b with
  | zero => rfl
  | succ n ih =>
    rw [par, par, par, Nat.xor_div_two, ih]
    have h := @Nat.xor_mod_two_eq_one a b
    have e : ((a ^^^ b) % 2 == 1) = ((a % 2 == 1) ^^ (b % 2 == 1)) := by
      rcases Nat.mod_two_eq_zero_or_one a with ha | ha <;> rcases Nat.mod_two_eq_zero_or_one b with hb | hb <;>
        rcases Nat.mod_two_eq_zero_or_one (a ^^^ b) with hc | hc <;> simp_all
    rw [e]
    cases (a % 2 == 1) <;> cases (b % 2 == 1) <;> cases par n (a / 2) <;> cases par n (b / 2) <;> rfl
theorem par_more (n s : Nat) (h : s < 2 ^ n) : par (n + 1) s = par n s := by
  induction n generalizing s with
  | zero => obtain rfl : s = 0 := by simpa using h
            rfl
  | succ n ih =>
    have e := ih (s / 2) (by rw [Nat.pow_succ] at h; omega)
    show ((s % 2 == 1) ^^ par (n + 1) (s / 2)) = ((s % 2 == 1) ^^ par n (s / 2))
    rw [e]
theorem par_st {s : Nat} (h : s < full) : par 32 (st s) = par 32 s := by
  unfold st
  rw [par_xor]
  have e : par 32 s = ((s % 2 == 1) ^^ par 31 (s / 2)) := rfl
  have e2 : par 32 (s / 2) = par 31 (s / 2) := par_more 31 _ (by unfold full at h; omega)
  rw [e, e2]
  rcases Nat.mod_two_eq_zero_or_one s with hs | hs
  · rw [if_neg (by omega), par_zero, hs]; simp
  · rw [if_pos hs, hs, show par 32 pat = true by decide]; simp [Bool.xor_comm]
theorem par_stn {n s : Nat} (h : s < full) : par 32 (stn n s) = par 32 s := by
  induction n generalizing s with
  | zero => rfl
  | succ n ih => rw [stn, ih (st_lt h), par_st h]

/-! What turning bits of a sealed text does: the bit at place j of N is 1, stepped on N - j times. -/
def bitD (N j : Nat) : Nat := stn (N - j) 1
def errD (N : Nat) (at_ : List Nat) : Nat := at_.foldl (fun d j => d ^^^ bitD N j) 0
theorem bitD_lt (N j : Nat) : bitD N j < full := stn_lt (by decide)
theorem bitD_par (N j : Nat) : par 32 (bitD N j) = true := by
  unfold bitD; rw [par_stn (by decide)]; decide
theorem one_seen (N i : Nat) : errD N [i] ≠ 0 := by
  intro h
  have h' : bitD N i = 0 := by simpa [errD] using h
  have := bitD_par N i
  rw [h'] at this
  exact absurd this (by decide)
theorem three_seen (N i j k : Nat) : errD N [i, j, k] ≠ 0 := by
  intro h
  have h' : bitD N i ^^^ bitD N j ^^^ bitD N k = 0 := by simpa [errD] using h
  have := congrArg (par 32) h'
  rw [par_xor, par_xor, bitD_par, bitD_par, bitD_par] at this
  exact absurd this (by decide)
theorem two_seen {N i j : Nat} (hi : i < j) (hj : j < N) (hN : N < period) : bitD N i ^^^ bitD N j ≠ 0 := by
  intro h
  have h' := xor_cancel h
  unfold bitD at h'
  rw [show N - i = (j - i) + (N - j) by omega, stn_add] at h'
  exact no_return_one (by omega) (by omega) (stn_inj (stn_lt (by decide)) (by decide) h')
theorem pair_seen {N i j : Nat} (hij : i ≠ j) (hi : i < N) (hj : j < N) (hN : N < period) : errD N [i, j] ≠ 0 := by
  intro h
  have h' : bitD N i ^^^ bitD N j = 0 := by simpa [errD] using h
  rcases Nat.lt_or_ge i j with hl | hl
  · exact two_seen hl hj hN h'
  · rw [Nat.xor_comm] at h'
    exact two_seen (by omega) hi hN h'
/-- The places of a row of bits that are set, from place p on, within N. -/
def places (p bits N : Nat) : Nat → List Nat
  | 0 => []
  | n + 1 => places p bits N n ++ (if bits / 2 ^ n % 2 = 1 ∧ p + n < N then [p + n] else [])
def maskB (p bits N : Nat) : Nat → Nat
  | 0 => 0
  | n + 1 => maskB p bits N n + (if bits / 2 ^ n % 2 = 1 ∧ p + n < N then 2 ^ n else 0)
theorem maskB_lt (p bits N n : Nat) : maskB p bits N n < 2 ^ n := by
  induction n with
  | zero => simp [maskB]
  | succ n ih => rw [maskB, Nat.pow_succ]; split <;> omega
theorem places_D (p bits N n : Nat) (hp : p ≤ N) : errD N (places p bits N n) = stn (N - p) (maskB p bits N n) := by
  induction n with
  | zero => simp [errD, places, maskB, stn_zero]
  | succ n ih =>
    rw [places, maskB]
    split
    · rename_i h
      have e : errD N (places p bits N n ++ [p + n]) = errD N (places p bits N n) ^^^ bitD N (p + n) := by simp [errD]
      have := xor_add (q := 1) n (maskB_lt p bits N n)
      rw [Nat.mul_one] at this
      rw [e, ih, ← this, stn_xor]
      congr 1
      unfold bitD
      rw [show N - p = n + (N - (p + n)) by omega, stn_add, stn_pow]
    · simpa using ih
theorem places_nil {p bits N n : Nat} (h : maskB p bits N n = 0) : places p bits N n = [] := by
  induction n with
  | zero => rfl
  | succ n ih =>
    rw [maskB] at h
    rw [places, ih (by omega)]
    split
    · rename_i h1; rw [if_pos h1] at h; have := Nat.two_pow_pos n; omega
    · rfl
/-- Bits within 32 side by side are noticed. -/
theorem burst_seen (p bits N : Nat) (hp : p ≤ N) (h : places p bits N 32 ≠ []) : errD N (places p bits N 32) ≠ 0 := by
  intro h0
  rw [places_D p bits N 32 hp] at h0
  exact h (places_nil (stn_null (maskB_lt p bits N 32) h0))
theorem places_mem {p bits N n j : Nat} (h : j ∈ places p bits N n) : p ≤ j ∧ j < p + n ∧ j < N := by
  induction n with
  | zero => simp [places] at h
  | succ n ih =>
    rw [places, List.mem_append] at h
    rcases h with h | h
    · have := ih h; omega
    · split at h
      · rename_i h1
        obtain rfl : j = p + n := by simpa using h
        omega
      · simp at h
theorem places_nodup (p bits N n : Nat) : (places p bits N n).Nodup := by
  induction n with
  | zero => simp [places]
  | succ n ih =>
    rw [places, List.nodup_append]
    refine ⟨ih, by split <;> simp, ?_⟩
    intro a ha b hb
    have := places_mem ha
    split at hb
    · have : b = p + n := by simpa using hb
      omega
    · simp at hb

/-- The bit at place j is turned. -/
def flip (l : List UInt8) (j : Nat) : List UInt8 := l.set (j / 8) (l.getD (j / 8) 0 ^^^ UInt8.ofNat (2 ^ (j % 8)))
def flips (l : List UInt8) (at_ : List Nat) : List UInt8 := at_.foldl flip l
@[simp] theorem flip_length (l : List UInt8) (j : Nat) : (flip l j).length = l.length := by simp [flip]
@[simp] theorem flips_length (l : List UInt8) (at_ : List Nat) : (flips l at_).length = l.length := by
  induction at_ generalizing l with
  | nil => rfl
  | cons j r ih => simp only [flips, List.foldl_cons] at ih ⊢; rw [ih]; simp
theorem flip_D (s : Nat) (l : List UInt8) (j : Nat) (hj : j < 8 * l.length) : addL s (flip l j) = addL s l ^^^ bitD (8 * l.length) j := by
  have hi : j / 8 < l.length := by omega
  have hg : l.getD (j / 8) 0 = l[j / 8] := by simp [List.getD, hi]
  have e1 : flip l j = l.take (j / 8) ++ ((l[j / 8] ^^^ UInt8.ofNat (2 ^ (j % 8))) :: l.drop (j / 8 + 1)) := by
    unfold flip; rw [List.set_eq_take_append_cons_drop, if_pos hi, hg]
  have e2 : l = l.take (j / 8) ++ (l[j / 8] :: l.drop (j / 8 + 1)) := by
    rw [List.getElem_cons_drop, List.take_append_drop]
  have h2 : (2 : Nat) ^ (j % 8) < 256 := by
    have : (2 : Nat) ^ (j % 8) ≤ 2 ^ 7 := Nat.pow_le_pow_right (by omega) (by omega)
    omega
  have h3 : (UInt8.ofNat (2 ^ (j % 8))).toNat = 2 ^ (j % 8) := by
    rw [UInt8.toNat_ofNat']; exact Nat.mod_eq_of_lt h2
  rw [e1]
  conv => rhs; rw [e2]
  rw [addL_append, addL_append, addL_cons, addL_cons, UInt8.toNat_xor, h3]
  have hx := addB_xor (addL s (l.take (j / 8))) 0 l[j / 8].toNat (2 ^ (j % 8))
  rw [Nat.xor_zero] at hx
  rw [hx, addL_turned, ← e2]
  congr 1
  unfold addB bitD
  rw [Nat.zero_xor, ← stn_add, List.length_drop]
  have e4 : 8 + 8 * (l.length - (j / 8 + 1)) = j % 8 + (8 * l.length - j) := by omega
  rw [e4, stn_add, stn_pow]
theorem errD_from (N : Nat) (at_ : List Nat) (d : Nat) : at_.foldl (fun d j => d ^^^ bitD N j) d = d ^^^ errD N at_ := by
  unfold errD
  induction at_ generalizing d with
  | nil => simp
  | cons j r ih => rw [List.foldl_cons, ih, List.foldl_cons, ih (0 ^^^ bitD N j), Nat.zero_xor, Nat.xor_assoc]
theorem flips_D (s : Nat) (l : List UInt8) (at_ : List Nat) (h : ∀ j ∈ at_, j < 8 * l.length) : addL s (flips l at_) = addL s l ^^^ errD (8 * l.length) at_ := by
  induction at_ generalizing l with
  | nil => simp [flips, errD]
  | cons j r ih =>
    have hj := h j (by simp)
    have h2 := ih (flip l j) (fun k hk => by rw [flip_length]; exact h k (by simp [hk]))
    rw [flip_D s l j hj, flip_length] at h2
    have e : errD (8 * l.length) (j :: r) = bitD (8 * l.length) j ^^^ errD (8 * l.length) r := by
      have := errD_from (8 * l.length) r (0 ^^^ bitD (8 * l.length) j)
      rw [Nat.zero_xor] at this
      unfold errD at this ⊢
      rw [List.foldl_cons, Nat.zero_xor, this]
    rw [e, ← Nat.xor_assoc]
    exact h2

/-! Sealing and opening. -/
def seal_ (l : List UInt8) : List UInt8 := l ++ le4 (crc l)
/-- Is it sealed: are there four bytes, the sum of what stands ahead. -/
def sealed (l : List UInt8) : Bool := decide (4 ≤ l.length) && decide (l.drop (l.length - 4) = le4 (crc (l.take (l.length - 4))))
def rest : Nat := stn 32 ones
theorem rest_of (b : List UInt8) (a c d e : UInt8) (h : [a, c, d, e] = le4 (crc b)) : addL ones (b ++ [a, c, d, e]) = rest := by
  have hu : un4 a c d e = crc b := by
    have h1 : [a, c, d, e] = le4 (un4 a c d e) := (le4_un4 a c d e).symm
    rw [h1] at h
    have hl := crc_lt b
    unfold le4 at h
    simp only [List.cons.injEq, and_true] at h
    have e1 := un4_le4 hl
    rw [← h.1, ← h.2.1, ← h.2.2.1, ← h.2.2.2] at e1
    rw [un4_le4 (un4_lt a c d e)] at e1
    exact e1
  rw [addL_append, addL_four, hu]
  unfold crc rest
  rw [Nat.xor_comm ones, xor_left_back]
theorem of_rest (b : List UInt8) (a c d e : UInt8) (h : addL ones (b ++ [a, c, d, e]) = rest) : [a, c, d, e] = le4 (crc b) := by
  rw [addL_append, addL_four] at h
  have h1 := stn_inj (Nat.xor_lt_two_pow (n := 32) (addL_lt ones_lt) (un4_lt a c d e)) ones_lt h
  have h2 : un4 a c d e = crc b := by
    unfold crc
    apply xor_left_inj (a := addL ones b)
    rw [h1, Nat.xor_comm ones, xor_left_back]
  rw [← h2, le4_un4]
theorem four_of {l : List UInt8} (h : l.length = 4) : ∃ a b c d, l = [a, b, c, d] := by
  match l, h with
  | [a, b, c, d], _ => exact ⟨a, b, c, d, rfl⟩
theorem sealed_iff (l : List UInt8) : sealed l = true ↔ 4 ≤ l.length ∧ addL ones l = rest := by
  unfold sealed
  rw [Bool.and_eq_true, decide_eq_true_eq, decide_eq_true_eq]
  constructor
  · rintro ⟨h4, h⟩
    obtain ⟨a, b, c, d, hl⟩ := four_of (l := l.drop (l.length - 4)) (by rw [List.length_drop]; omega)
    refine ⟨h4, ?_⟩
    rw [hl] at h
    have := rest_of _ a b c d h
    rwa [← hl, List.take_append_drop] at this
  · rintro ⟨h4, h⟩
    obtain ⟨a, b, c, d, hl⟩ := four_of (l := l.drop (l.length - 4)) (by rw [List.length_drop]; omega)
    refine ⟨h4, ?_⟩
    rw [hl]
    apply of_rest
    rwa [← hl, List.take_append_drop]
@[simp] theorem seal_length (l : List UInt8) : (seal_ l).length = l.length + 4 := by simp [seal_]
theorem sealed_seal (l : List UInt8) : sealed (seal_ l) = true := by
  unfold sealed
  rw [Bool.and_eq_true, decide_eq_true_eq, decide_eq_true_eq]
  refine ⟨by simp, ?_⟩
  rw [seal_length, Nat.add_sub_cancel]
  simp [seal_]
theorem take_seal (l : List UInt8) : (seal_ l).take l.length = l := by simp [seal_]
/-- A sealed text of which bits are turned is sealed no more, where what they make of the register is not nought. -/
theorem spoilt (l : List UInt8) (at_ : List Nat) (h : ∀ j ∈ at_, j < 8 * (l.length + 4)) (hd : errD (8 * (l.length + 4)) at_ ≠ 0) : sealed (flips (seal_ l) at_) = false := by
  rw [Bool.eq_false_iff]
  intro hs
  have h1 := ((sealed_iff _).1 hs).2
  have h2 := ((sealed_iff _).1 (sealed_seal l)).2
  rw [flips_D _ _ _ (by simpa using h), h2, seal_length] at h1
  apply hd
  apply xor_left_inj (a := rest)
  rw [h1, Nat.xor_zero]
theorem few_seen {N : Nat} (hN : N < period) {at_ : List Nat} (h0 : 1 ≤ at_.length) (h3 : at_.length ≤ 3) (hr : ∀ j ∈ at_, j < N) (hn : at_.Nodup) : errD N at_ ≠ 0 := by
  match at_, h0, h3, hr, hn with
  | [i], _, _, _, _ => exact one_seen N i
  | [i, j], _, _, hr, hn => exact pair_seen (by simpa using hn) (hr i (by simp)) (hr j (by simp)) hN
  | [i, j, k], _, _, _, _ => exact three_seen N i j k

/-! Sums of texts taken together bit by bit. -/
def xors (a b : List UInt8) : List UInt8 := List.zipWith (· ^^^ ·) a b
theorem addL_xors (s t : Nat) (a b : List UInt8) (h : a.length = b.length) : addL (s ^^^ t) (xors a b) = addL s a ^^^ addL t b := by
  induction a generalizing b s t with
  | nil => cases b with
    | nil => rfl
    | cons => simp at h
  | cons x a ih => cases b with
    | nil => simp at h
    | cons y b =>
      unfold xors at ih ⊢
      rw [List.zipWith_cons_cons, addL_cons, addL_cons, addL_cons, UInt8.toNat_xor, addB_xor]
      exact ih _ _ _ (by simpa using h)
theorem addL_noughts (s : Nat) (n : Nat) : addL s (List.replicate n 0) = stn (8 * n) s := by
  induction n generalizing s with
  | zero => rfl
  | succ n ih =>
    rw [List.replicate_succ, addL_cons, ih, show 8 * (n + 1) = 8 + 8 * n by omega, stn_add]
    simp [addB]
theorem crc_xors (a b : List UInt8) (h : a.length = b.length) : crc (xors a b) = (crc a ^^^ crc b) ^^^ crc (List.replicate a.length 0) := by
  unfold crc
  have h1 := addL_xors (ones ^^^ ones) ones a b h
  rw [Nat.xor_self, Nat.zero_xor] at h1
  have h2 := addL_turned ones ones a
  rw [Nat.xor_self] at h2
  rw [h1, h2, addL_noughts]
  generalize addL ones a = A
  generalize addL ones b = B
  generalize stn (8 * a.length) ones = Z
  rw [xor_four ones A ones B, Nat.xor_self, Nat.zero_xor, ← xor_left_com ones, Nat.xor_assoc A Z B, Nat.xor_comm Z B, ← Nat.xor_assoc A B Z]
theorem crc_more (l : List UInt8) (c d : UInt8) (h : c ≠ d) : crc (l ++ [c]) ≠ crc (l ++ [d]) := by
  intro he
  have h1 := xor_left_inj he
  rw [addL_snoc, addL_snoc] at h1
  unfold addB at h1
  have h2 := stn_inj (Nat.xor_lt_two_pow (n := 32) (addL_lt ones_lt) (u8_full c)) (Nat.xor_lt_two_pow (n := 32) (addL_lt ones_lt) (u8_full d)) h1
  exact h (UInt8.toNat.inj (xor_left_inj h2))
end Go.Proofs.Ytlcddfkhklmieaa.Crc
