/-
  Plain arithmetic under math/bits.Div64: one digit of the long division by a divisor whose upper half has its top bit. No program.
-/
namespace Go.Proofs.Ytcgblbbadbkdgaa.Knuth

/-- The test of the loop: the guess q is too great just if q times the lower half is more than what is left. -/
theorem test_iff {q a r U u1 b B Y N : Nat} (hU : q * a + r = U) (hY : Y = a * B + b) (hN : N = U * B + u1) : N < q * Y ↔ r * B + u1 < q * b := by
  have e : q * Y = q * a * B + q * b := by rw [hY, Nat.mul_add, Nat.mul_assoc]
  have f : N = q * a * B + r * B + u1 := by rw [hN, ← hU, Nat.add_mul]
  omega

/-- No guess is less than the digit. -/
theorem guess_le {U a B b u1 Y N : Nat} (ha : 0 < a) (hY : Y = a * B + b) (hN : N = U * B + u1) (hu : u1 < B) : N / Y ≤ U / a := by
  have hB : 0 < B := by omega
  have hYp : 0 < Y := by have := Nat.mul_pos ha hB; omega
  have e : N / B = U := by rw [hN, Nat.add_comm, Nat.add_mul_div_right _ _ hB, Nat.div_eq_of_lt hu, Nat.zero_add]
  calc N / Y ≤ N / (a * B) := Nat.div_le_div_left (by omega) (Nat.mul_pos ha hB)
    _ = N / B / a := by rw [Nat.mul_comm, Nat.div_div_eq_div_mul]
    _ = U / a := by rw [e]

/-- The digit is less than the base. -/
theorem digit_lt {U B u1 Y N : Nat} (hUY : U < Y) (hN : N = U * B + u1) (hu : u1 < B) : N / Y < B := by
  have hYp : 0 < Y := by omega
  rw [Nat.div_lt_iff_lt_mul hYp, hN]
  have : (U + 1) * B ≤ Y * B := Nat.mul_le_mul_right B hUY
  rw [Nat.add_mul] at this
  rw [Nat.mul_comm B Y]; omega

/-- The first guess is at most one above the base. -/
theorem guess_hi {U a b Y : Nat} (ha : 2147483648 ≤ a) (hb : b < 4294967296) (hY : Y = a * 4294967296 + b) (hUY : U < Y) : U / a ≤ 4294967297 := by
  have : U / a < 4294967298 := by
    rw [Nat.div_lt_iff_lt_mul (by omega)]
    omega
  omega

/-- The test fails: the guess is the digit. -/
theorem stop_no {q Y N : Nat} (hY : 0 < Y) (h1 : N / Y ≤ q) (h2 : ¬ N < q * Y) : q = N / Y := by
  have : q ≤ N / Y := (Nat.le_div_iff_mul_le hY).2 (by omega)
  omega

/-- The test holds: one less is still not less than the digit. -/
theorem go_on {q Y N : Nat} (hY : 0 < Y) (h2 : N < q * Y) : N / Y ≤ q - 1 := by
  have : N / Y < q := by rw [Nat.div_lt_iff_lt_mul hY]; omega
  omega

/-- What is left has no room below the base: the guess is the digit. -/
theorem stop_far {q a r U u1 b B Y N : Nat} (hY0 : 0 < Y) (hU : q * a + r = U) (hY : Y = a * B + b) (hN : N = U * B + u1) (hb : b < B) (hq : q ≤ B) (hr : B ≤ r) (h1 : N / Y ≤ q) : q = N / Y := by
  refine stop_no hY0 h1 ?_
  rw [test_iff hU hY hN]
  have x : B * B ≤ r * B := Nat.mul_le_mul_right B hr
  have y : q * b ≤ B * B := Nat.mul_le_mul hq (by omega)
  omega

/-- The next state of the loop: what is left grows by the upper half. -/
theorem next {q a r U : Nat} (hU : q * a + r = U) (hq : 0 < q) : (q - 1) * a + (r + a) = U := by
  obtain ⟨p, rfl⟩ := Nat.exists_eq_add_of_lt hq
  rw [← hU]
  have : 0 + p + 1 - 1 = p := by omega
  rw [this, Nat.zero_add, Nat.add_mul]
  omega

/-- The rest of a digit, as 64 bits have it. -/
theorem rest_mod {U B u1 Y N q M : Nat} (hN : N = U * B + u1) (hq : q = N / Y) (hY0 : 0 < Y) (hYM : Y ≤ M) : (U * B % M + u1 % M + M - q * Y % M) % M = N % Y := by
  have h : N = q * Y + N % Y := by rw [hq, Nat.mul_comm]; exact (Nat.div_add_mod N Y).symm
  have hl := Nat.mod_lt N hY0
  have e : (q * Y + N % Y) % M = (U * B + u1) % M := by rw [← h, hN]
  generalize q * Y = s at *
  generalize U * B = t at *
  generalize N % Y = v at *
  have hM : 0 < M := by omega
  have e1 : (U * 0 + (t % M + u1 % M + M - s % M)) % M = v % M := by
    have a1 := Nat.div_add_mod t M
    have a2 := Nat.div_add_mod u1 M
    have a3 := Nat.div_add_mod s M
    have a4 := Nat.mod_lt s hM
    have e2 : t + u1 = s + v := by omega
    have e3 : (t % M + u1 % M + M - s % M) + M * (t / M + u1 / M) = v + M * (s / M + 1) := by
      rw [Nat.mul_add, Nat.mul_add]; omega
    have := congrArg (· % M) e3
    simp only [Nat.add_mul_mod_self_left] at this
    simpa using this
  rw [Nat.mul_zero, Nat.zero_add] at e1
  rw [e1, Nat.mod_eq_of_lt (by omega)]

/-- Two digits make the quotient; the last rest is the rest. -/
theorem two_digits {H u1 u0 B Y : Nat} (hY0 : 0 < Y) :
    (H * B + u1) / Y * B + ((H * B + u1) % Y * B + u0) / Y = (H * (B * B) + u1 * B + u0) / Y ∧ ((H * B + u1) % Y * B + u0) % Y = (H * (B * B) + u1 * B + u0) % Y := by
  have e : H * (B * B) + u1 * B + u0 = Y * ((H * B + u1) / Y * B) + ((H * B + u1) % Y * B + u0) := by
    have h := Nat.div_add_mod (H * B + u1) Y
    have : (H * B + u1) * B = (Y * ((H * B + u1) / Y) + (H * B + u1) % Y) * B := by rw [h]
    rw [Nat.add_mul, Nat.add_mul, Nat.mul_assoc, Nat.mul_assoc] at this
    omega
  constructor
  · rw [e, Nat.mul_add_div hY0]
  · rw [e, Nat.mul_add_mod]

/-- A common factor of dividend and divisor. -/
theorem shifted {x y k : Nat} (hk : 0 < k) : x * k / (y * k) = x / y ∧ x * k % (y * k) / k = x % y := by
  constructor
  · exact Nat.mul_div_mul_right x y hk
  · rw [Nat.mul_mod_mul_right, Nat.mul_div_cancel _ hk]

end Go.Proofs.Ytcgblbbadbkdgaa.Knuth
