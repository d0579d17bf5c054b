/- Sums of bytes as plain numbers: a bit, a half byte by a table, a byte; what follows of parts and of turned bits. -/
namespace Go.Proofs.YtimoncjdfmfojaaDoor.Crc

/-- One bit of the polynomial. -/
def R (s : Nat) : Nat := (s / 2) ^^^ (if s % 2 = 1 then 2197175160 else 0)
/-- Four bits, eight bits. -/
def R4 (s : Nat) : Nat := R (R (R (R s)))
def R8 (s : Nat) : Nat := R4 (R4 s)
def tab : List Nat := [0, 274646895, 549293790, 820201905, 1098587580, 1361435347, 1640403810, 1905808397, 2197175160, 2460548119, 2722870694, 2987750089, 3280807620, 3553878443, 3811616794, 4084100981]
/-- A half byte by the table. -/
def stepN (s : Nat) : Nat := (s / 16) ^^^ tab.getD (s % 16) 0

theorem R_odd {s : Nat} (h : s % 2 = 1) : R s = (s / 2) ^^^ 2197175160 := by unfold R; rw [if_pos h]
theorem R_even {s : Nat} (h : ¬ s % 2 = 1) : R s = s / 2 := by unfold R; rw [if_neg h, Nat.xor_zero]
theorem R_lt {s : Nat} (h : s < 4294967296) : R s < 4294967296 := by
  unfold R
  refine Nat.xor_lt_two_pow (n := 32) (by omega) ?_
  split <;> decide
theorem R4_lt {s : Nat} (h : s < 4294967296) : R4 s < 4294967296 := R_lt (R_lt (R_lt (R_lt h)))
theorem R8_lt {s : Nat} (h : s < 4294967296) : R8 s < 4294967296 := R4_lt (R4_lt h)

theorem xor_div2 (a b : Nat) : (a ^^^ b) / 2 = (a / 2) ^^^ (b / 2) := by
  have h := Nat.shiftRight_xor_distrib (a := a) (b := b) (i := 1)
  simpa [Nat.shiftRight_eq_div_pow] using h
theorem xor_mod2 (a b : Nat) : (a ^^^ b) % 2 = (a % 2 + b % 2) % 2 := by
  have h := Nat.xor_mod_two_pow (a := a) (b := b) (n := 1)
  rw [Nat.pow_one] at h
  rw [h]
  rcases Nat.mod_two_eq_zero_or_one a with h1 | h1 <;> rcases Nat.mod_two_eq_zero_or_one b with h2 | h2 <;> rw [h1, h2] <;> decide
theorem xor_swap4 (a b c d : Nat) : (a ^^^ b) ^^^ (c ^^^ d) = (a ^^^ c) ^^^ (b ^^^ d) := by
  rw [Nat.xor_assoc, ← Nat.xor_assoc b c d, Nat.xor_comm b c, Nat.xor_assoc c b d, ← Nat.xor_assoc]
theorem R_xor (a b : Nat) : R (a ^^^ b) = R a ^^^ R b := by
  unfold R
  rw [xor_div2, xor_mod2, xor_swap4]
  congr 1
  rcases Nat.mod_two_eq_zero_or_one a with h1 | h1 <;> rcases Nat.mod_two_eq_zero_or_one b with h2 | h2 <;> rw [h1, h2] <;> decide
theorem R4_xor (a b : Nat) : R4 (a ^^^ b) = R4 a ^^^ R4 b := by unfold R4; simp only [R_xor]
theorem R8_xor (a b : Nat) : R8 (a ^^^ b) = R8 a ^^^ R8 b := by unfold R8; simp only [R4_xor]

theorem R_double (n : Nat) : R (2 * n) = n := by rw [R_even (by omega)]; omega
theorem R4_up (q : Nat) : R4 (16 * q) = q := by
  unfold R4
  rw [show 16 * q = 2 * (2 * (2 * (2 * q))) by omega, R_double, R_double, R_double, R_double]
theorem R4_low : ∀ r, r < 16 → R4 r = tab.getD r 0 := by decide
theorem split16 (s : Nat) : s = (16 * (s / 16)) ^^^ (s % 16) := by
  have h1 : 16 * (s / 16) + s % 16 = (16 * (s / 16)) ^^^ (s % 16) := by
    apply Nat.eq_of_testBit_eq
    intro i
    have := Nat.two_pow_add_eq_or_of_lt (i := 4) (b := s % 16) (Nat.mod_lt _ (by decide)) (s / 16)
    rw [show (16 : Nat) = 2 ^ 4 from rfl] at *
    rw [this]
    rw [Nat.testBit_or, Nat.testBit_xor]
    by_cases hi : i < 4
    · have : (2 ^ 4 * (s / 2 ^ 4)).testBit i = false := by
        rw [Nat.testBit_two_pow_mul]; simp; omega
      rw [this]; simp
    · have : (s % 2 ^ 4).testBit i = false := by rw [Nat.testBit_mod_two_pow]; simp [hi]
      rw [this]; simp
  omega
/-- The table answers four bits at once. -/
theorem step_eq (s : Nat) : stepN s = R4 s := by
  have h : R4 s = R4 ((16 * (s / 16)) ^^^ (s % 16)) := by rw [← split16]
  rw [h, R4_xor, R4_up, R4_low _ (Nat.mod_lt _ (by decide))]
  rfl
theorem step2_eq (s : Nat) : stepN (stepN s) = R8 s := by rw [step_eq, step_eq]; rfl

/-- The bytes' sum without its turned bits. -/
def crc (s : Nat) (l : List UInt8) : Nat := l.foldl (fun s b => R8 (s ^^^ b.toNat)) s
theorem crc_nil (s : Nat) : crc s [] = s := rfl
theorem crc_append (s : Nat) (a b : List UInt8) : crc s (a ++ b) = crc (crc s a) b := List.foldl_append ..
theorem crc_snoc (s : Nat) (a : List UInt8) (b : UInt8) : crc s (a ++ [b]) = R8 (crc s a ^^^ b.toNat) := by rw [crc_append]; rfl
theorem byte_lt {s : Nat} (h : s < 4294967296) (b : UInt8) : s ^^^ b.toNat < 4294967296 :=
  Nat.xor_lt_two_pow (n := 32) h (by have := b.toNat_lt; omega)
theorem crc_lt {s : Nat} (l : List UInt8) (h : s < 4294967296) : crc s l < 4294967296 := by
  induction l generalizing s with
  | nil => exact h
  | cons b t ih => exact ih (R8_lt (byte_lt h b))
/-- A sum, of what stands ahead and of bytes. -/
def sumN (s : Nat) (l : List UInt8) : Nat := 4294967295 - crc (4294967295 - s) l
theorem sum_lt (s : Nat) (l : List UInt8) : sumN s l < 4294967296 := by unfold sumN; omega
theorem sum_nil {s : Nat} (h : s < 4294967296) : sumN s [] = s := by unfold sumN; rw [crc_nil]; omega
theorem sum_append (s : Nat) (a b : List UInt8) : sumN (sumN s a) b = sumN s (a ++ b) := by
  unfold sumN
  have h := crc_lt (s := 4294967295 - s) a (by omega)
  rw [crc_append, show 4294967295 - (4294967295 - crc (4294967295 - s) a) = crc (4294967295 - s) a by omega]

/-! ### what is turned is seen -/
theorem R_zero {d : Nat} (hd : d < 4294967296) (h : R d = 0) : d = 0 := by
  by_cases ho : d % 2 = 1
  · rw [R_odd ho] at h
    have : d / 2 = 2197175160 := by
      have h2 : (d / 2) ^^^ 2197175160 ^^^ 2197175160 = 0 ^^^ 2197175160 := by rw [h]
      rw [Nat.xor_assoc, Nat.xor_self, Nat.xor_zero, Nat.zero_xor] at h2
      exact h2
    omega
  · rw [R_even ho] at h
    omega
theorem R4_zero {d : Nat} (hd : d < 4294967296) (h : R4 d = 0) : d = 0 :=
  R_zero hd (R_zero (R_lt hd) (R_zero (R_lt (R_lt hd)) (R_zero (R_lt (R_lt (R_lt hd))) h)))
theorem R8_zero {d : Nat} (hd : d < 4294967296) (h : R8 d = 0) : d = 0 := R4_zero hd (R4_zero (R4_lt hd) h)
theorem xor_zero_eq {a b : Nat} (h : a ^^^ b = 0) : a = b := by
  have h2 : a ^^^ b ^^^ b = 0 ^^^ b := by rw [h]
  rw [Nat.xor_assoc, Nat.xor_self, Nat.xor_zero, Nat.zero_xor] at h2
  exact h2
theorem R8_inj {a b : Nat} (ha : a < 4294967296) (hb : b < 4294967296) (h : R8 a = R8 b) : a = b := by
  refine xor_zero_eq (R8_zero (Nat.xor_lt_two_pow (n := 32) ha hb) ?_)
  rw [R8_xor, h, Nat.xor_self]
theorem xor_cancel {a b c : Nat} (h : a ^^^ c = b ^^^ c) : a = b := by
  have h2 : a ^^^ c ^^^ c = b ^^^ c ^^^ c := by rw [h]
  rw [Nat.xor_assoc, Nat.xor_assoc, Nat.xor_self, Nat.xor_zero, Nat.xor_zero] at h2
  exact h2
theorem crc_inj {a b : Nat} (l : List UInt8) (ha : a < 4294967296) (hb : b < 4294967296) (h : crc a l = crc b l) : a = b := by
  induction l generalizing a b with
  | nil => exact h
  | cons x t ih =>
    exact xor_cancel (R8_inj (byte_lt ha x) (byte_lt hb x) (ih (R8_lt (byte_lt ha x)) (R8_lt (byte_lt hb x)) h))

/-- One turned bit of a byte is seen far above what a byte behind it could hide. -/
theorem R8_bit : ∀ k, k < 8 → 256 ≤ R8 (2 ^ k) := by decide
theorem far_byte {c d : Nat} (x y : UInt8) {k : Nat} (hk : k < 8) (hd : d = c ^^^ 2 ^ k) : R8 c ^^^ x.toNat ≠ R8 d ^^^ y.toNat := by
  intro h
  have h1 : R8 d = R8 c ^^^ R8 (2 ^ k) := by rw [hd, R8_xor]
  rw [h1] at h
  have h2 : x.toNat = R8 (2 ^ k) ^^^ y.toNat := by
    have h3 : R8 c ^^^ (R8 c ^^^ x.toNat) = R8 c ^^^ (R8 c ^^^ R8 (2 ^ k) ^^^ y.toNat) := by rw [h]
    rw [Nat.xor_assoc (R8 c) (R8 (2 ^ k)) y.toNat, ← Nat.xor_assoc, Nat.xor_self, Nat.zero_xor, ← Nat.xor_assoc, Nat.xor_self, Nat.zero_xor] at h3
    exact h3
  have h4 : R8 (2 ^ k) = x.toNat ^^^ y.toNat := by
    rw [h2, Nat.xor_assoc, Nat.xor_self, Nat.xor_zero]
  have h5 : x.toNat ^^^ y.toNat < 2 ^ 8 := Nat.xor_lt_two_pow (by have := x.toNat_lt; omega) (by have := y.toNat_lt; omega)
  have := R8_bit k hk
  omega
theorem two_pow_pos' (k : Nat) : 2 ^ k ≠ 0 := by have := Nat.two_pow_pos k; omega

/-- One bit of one byte turned: the sum is another. -/
theorem sum_turned (s : Nat) (a t : List UInt8) (x x' : UInt8) {k : Nat} (_hk : k < 8) (hx : x'.toNat = x.toNat ^^^ 2 ^ k) : sumN s (a ++ x' :: t) ≠ sumN s (a ++ x :: t) := by
  intro h
  unfold sumN at h
  have hs : 4294967295 - s < 4294967296 := by omega
  have hA := crc_lt a hs
  have h1 := crc_lt (a ++ x' :: t) hs
  have h2 := crc_lt (a ++ x :: t) hs
  have h3 : crc (4294967295 - s) (a ++ x' :: t) = crc (4294967295 - s) (a ++ x :: t) := by omega
  rw [crc_append, crc_append] at h3
  have h4 := R8_inj (byte_lt hA x') (byte_lt hA x) (crc_inj t (R8_lt (byte_lt hA x')) (R8_lt (byte_lt hA x)) h3)
  rw [Nat.xor_comm, Nat.xor_comm (crc (4294967295 - s) a) x.toNat] at h4
  have h5 := xor_cancel h4
  rw [h5] at hx
  have h6 : x.toNat ^^^ x.toNat = x.toNat ^^^ (x.toNat ^^^ 2 ^ k) := by rw [← hx]
  rw [Nat.xor_self, ← Nat.xor_assoc, Nat.xor_self, Nat.zero_xor] at h6
  exact two_pow_pos' k h6.symm
/-- One bit of a byte, and whatever of the next: the sum is another. -/
theorem sum_turned2 (s : Nat) (a t : List UInt8) (x x' y y' : UInt8) {k : Nat} (hk : k < 8) (hx : x'.toNat = x.toNat ^^^ 2 ^ k) : sumN s (a ++ x' :: y' :: t) ≠ sumN s (a ++ x :: y :: t) := by
  intro h
  unfold sumN at h
  have hs : 4294967295 - s < 4294967296 := by omega
  have hA := crc_lt a hs
  have h1 := crc_lt (a ++ x' :: y' :: t) hs
  have h2 := crc_lt (a ++ x :: y :: t) hs
  have h3 : crc (4294967295 - s) (a ++ x' :: y' :: t) = crc (4294967295 - s) (a ++ x :: y :: t) := by omega
  rw [crc_append, crc_append] at h3
  have l1 := R8_lt (byte_lt hA x')
  have l2 := R8_lt (byte_lt hA x)
  have h4 := R8_inj (byte_lt l1 y') (byte_lt l2 y) (crc_inj t (R8_lt (byte_lt l1 y')) (R8_lt (byte_lt l2 y)) h3)
  exact far_byte y y' hk (by rw [hx, ← Nat.xor_assoc]) h4.symm

/-- The word that everybody asks. -/
theorem sum_word : sumN 0 [49, 50, 51, 52, 53, 54, 55, 56, 57] = 3808858755 := by decide +kernel
end Go.Proofs.YtimoncjdfmfojaaDoor.Crc
