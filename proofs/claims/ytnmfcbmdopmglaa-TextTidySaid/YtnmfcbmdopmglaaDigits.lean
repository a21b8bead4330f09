/-
  Plain arithmetic: numbers as lists of digits of base 2, the lowest first. No program.
-/
namespace Go.Proofs.Ytnmfcbmdopmglaa.Dg

def b2n (b : Bool) : Nat := if b then 1 else 0
def val : List Bool → Nat
  | [] => 0
  | b :: l => b2n b + 2 * val l
def dig (l : List Bool) (i : Nat) : Nat := b2n (l.getD i false)

theorem b2n_le (b : Bool) : b2n b ≤ 1 := by cases b <;> decide
theorem dig_le (l : List Bool) (i : Nat) : dig l i ≤ 1 := b2n_le _

theorem val_lt : ∀ l : List Bool, val l < 2 ^ l.length
  | [] => by decide
  | b :: l => by
    have := val_lt l
    have := b2n_le b
    simp only [val, List.length_cons, Nat.pow_succ]
    omega

theorem val_append : ∀ l m : List Bool, val (l ++ m) = val l + 2 ^ l.length * val m
  | [], m => by simp [val]
  | b :: l, m => by
    simp only [List.cons_append, val, List.length_cons, Nat.pow_succ, val_append l m, Nat.mul_add]
    rw [Nat.mul_comm (2 ^ l.length) 2, Nat.mul_assoc]
    omega

theorem val_snoc (l : List Bool) (b : Bool) : val (l ++ [b]) = val l + 2 ^ l.length * b2n b := by
  rw [val_append]; simp [val]

theorem val_drop (l : List Bool) (i : Nat) : val (l.drop i) = dig l i + 2 * val (l.drop (i + 1)) := by
  rcases Nat.lt_or_ge i l.length with h | h
  · rw [List.drop_eq_getElem_cons h]
    simp [val, dig, List.getElem?_eq_getElem h]
  · rw [List.drop_of_length_le h, List.drop_of_length_le (by omega)]
    have e : l[i]? = none := List.getElem?_eq_none h
    simp [val, dig, e, b2n]

theorem val_split (l : List Bool) (i : Nat) : ∃ t, t < 2 ^ i ∧ val l = t + 2 ^ i * val (l.drop i) := by
  rcases Nat.lt_or_ge i l.length with h | h
  · refine ⟨val (l.take i), ?_, ?_⟩
    · have := val_lt (l.take i)
      rwa [List.length_take, Nat.min_eq_left (Nat.le_of_lt h)] at this
    · have := val_append (l.take i) (l.drop i)
      rwa [List.take_append_drop, List.length_take, Nat.min_eq_left (Nat.le_of_lt h)] at this
  · refine ⟨val l, ?_, ?_⟩
    · exact Nat.lt_of_lt_of_le (val_lt l) (Nat.pow_le_pow_right (by omega) h)
    · rw [List.drop_of_length_le h]; simp [val]

/-- Where the digits above agree, the first that differ tell which number is less. -/
theorem less_at (a b : List Bool) (i : Nat) (h : val (a.drop (i + 1)) = val (b.drop (i + 1))) (hd : dig a i ≠ dig b i) : (dig a i < dig b i) ↔ (val a < val b) := by
  obtain ⟨s, hs, ea⟩ := val_split a i
  obtain ⟨t, ht, eb⟩ := val_split b i
  rw [val_drop, h] at ea
  rw [val_drop] at eb
  have h1 := dig_le a i
  have h2 := dig_le b i
  generalize val (b.drop (i + 1)) = r at *
  constructor
  · intro hl
    have e1 : dig a i = 0 := by omega
    have e2 : dig b i = 1 := by omega
    rw [e1] at ea; rw [e2] at eb
    have : 2 ^ i * (1 + 2 * r) = 2 ^ i + 2 ^ i * (0 + 2 * r) := by rw [Nat.mul_add, Nat.mul_one, Nat.zero_add]
    omega
  · intro hl
    rcases Nat.lt_or_ge (dig a i) (dig b i) with h3 | h3
    · exact h3
    · have e1 : dig a i = 1 := by omega
      have e2 : dig b i = 0 := by omega
      rw [e1] at ea; rw [e2] at eb
      have : 2 ^ i * (1 + 2 * r) = 2 ^ i + 2 ^ i * (0 + 2 * r) := by rw [Nat.mul_add, Nat.mul_one, Nat.zero_add]
      omega

/-- Where all digits agree the numbers do. -/
theorem same_at (a b : List Bool) (i : Nat) (h : val (a.drop (i + 1)) = val (b.drop (i + 1))) (hd : dig a i = dig b i) : val (a.drop i) = val (b.drop i) := by
  rw [val_drop a, val_drop b, h, hd]

/-- One digit of a sum. -/
theorem plus_step (a b out : List Bool) (more i S : Nat) (hl : out.length = i) (h : val out + 2 ^ i * (more + val (a.drop i) + val (b.drop i)) = S) (t : Bool) (ht : b2n t = (dig a i + dig b i + more) % 2) :
    val (out ++ [t]) + 2 ^ (i + 1) * ((dig a i + dig b i + more) / 2 + val (a.drop (i + 1)) + val (b.drop (i + 1))) = S := by
  rw [val_snoc, hl, ht, ← h, val_drop a i, val_drop b i, Nat.pow_succ]
  generalize val (a.drop (i + 1)) = p
  generalize val (b.drop (i + 1)) = q
  have e : more + (dig a i + 2 * p) + (dig b i + 2 * q) = (dig a i + dig b i + more) % 2 + 2 * ((dig a i + dig b i + more) / 2 + p + q) := by omega
  rw [e]
  generalize (dig a i + dig b i + more) / 2 + p + q = X
  generalize (dig a i + dig b i + more) % 2 = Z
  rw [Nat.mul_add (2 ^ i) Z, Nat.mul_assoc]
  omega

theorem plus_end (a b out : List Bool) (more i : Nat) (hl : out.length = i) (ha : a.length < i) (hb : b.length < i) (h : val out + 2 ^ i * (more + val (a.drop i) + val (b.drop i)) = val a + val b) : val out = val a + val b := by
  rw [List.drop_of_length_le (by omega), List.drop_of_length_le (by omega)] at h
  simp only [val, Nat.add_zero] at h
  have h1 := val_lt a
  have h2 := val_lt b
  have h3 : 2 ^ a.length ≤ 2 ^ (i - 1) := Nat.pow_le_pow_right (by omega) (by omega)
  have h4 : 2 ^ b.length ≤ 2 ^ (i - 1) := Nat.pow_le_pow_right (by omega) (by omega)
  have h5 : 2 ^ i = 2 * 2 ^ (i - 1) := by
    obtain ⟨j, rfl⟩ : ∃ j, i = j + 1 := ⟨i - 1, by omega⟩
    rw [Nat.pow_succ]; simp; omega
  rcases Nat.eq_zero_or_pos more with h6 | h6
  · subst h6; omega
  · have : 2 ^ i * 1 ≤ 2 ^ i * more := Nat.mul_le_mul_left _ h6
    omega

/-- One digit of a difference. -/
theorem minus_step (a b out : List Bool) (less i : Nat) (S : Int) (hl : out.length = i) (h : (val out : Int) + ((2 ^ i : Nat) : Int) * ((val (a.drop i) : Int) - val (b.drop i) - less) = S) (t : Bool) (n : Nat)
    (ht : (b2n t : Int) - 2 * n = (dig a i : Int) - dig b i - less) :
    (val (out ++ [t]) : Int) + ((2 ^ (i + 1) : Nat) : Int) * ((val (a.drop (i + 1)) : Int) - val (b.drop (i + 1)) - n) = S := by
  rw [val_snoc, hl, ← h, val_drop a i, val_drop b i, Nat.pow_succ]
  generalize val (a.drop (i + 1)) = p
  generalize val (b.drop (i + 1)) = q
  have e : (((dig a i + 2 * p : Nat) : Int) - ((dig b i + 2 * q : Nat) : Int) - (less : Int)) = (b2n t : Int) + 2 * ((p : Int) - q - n) := by omega
  rw [e, Int.mul_add, Int.natCast_add, Int.natCast_mul, Int.natCast_mul, Int.mul_assoc, show ((2 : Nat) : Int) = 2 from rfl]
  omega

theorem minus_end (a b out : List Bool) (less : Nat) (hl : out.length = a.length) (hb : val b ≤ val a) (h : (val out : Int) + ((2 ^ a.length : Nat) : Int) * ((val (a.drop a.length) : Int) - val (b.drop a.length) - less) = (val a : Int) - val b) : val out + val b = val a := by
  rw [List.drop_of_length_le (Nat.le_refl _)] at h
  simp only [val] at h
  have h1 := val_lt out
  have h2 := val_lt a
  rw [hl] at h1
  generalize hz : val (b.drop a.length) = z at h
  have e : ((0 : Nat) : Int) - (z : Int) - (less : Int) = -(((z + less : Nat)) : Int) := by omega
  rw [e, Int.mul_neg, ← Int.natCast_mul] at h
  rcases Nat.eq_zero_or_pos (z + less) with h6 | h6
  · rw [h6] at h; omega
  · have : 2 ^ a.length * 1 ≤ 2 ^ a.length * (z + less) := Nat.mul_le_mul_left _ h6
    omega

theorem val_zero : ∀ l : List Bool, val l = 0 → ∀ i, l.getD i false = false
  | [], _, i => by simp
  | b :: l, h, i => by
    simp only [val] at h
    have hb : b2n b = 0 := by omega
    have hb' : b = false := by cases b <;> simp_all [b2n]
    cases i with
    | zero => simp [hb']
    | succ i => simpa using val_zero l (by omega) i

/-- Noughts at the top say nothing. -/
theorem val_take (l : List Bool) (k : Nat) (h : val (l.drop k) = 0) : val (l.take k) = val l := by
  rcases Nat.lt_or_ge k l.length with hk | hk
  · have := val_append (l.take k) (l.drop k)
    rw [List.take_append_drop, h] at this
    omega
  · rw [List.take_of_length_le hk]

theorem val_top (l : List Bool) (k : Nat) (h : l.getD k false = true) : 0 < val l := by
  obtain ⟨t, _, e⟩ := val_split l k
  rw [e, val_drop]
  have : dig l k = 1 := by unfold dig; rw [h]; rfl
  rw [this]
  have : 0 < 2 ^ k := Nat.two_pow_pos k
  have : 2 ^ k * 1 ≤ 2 ^ k * (1 + 2 * val (l.drop (k + 1))) := Nat.mul_le_mul_left _ (by omega)
  omega

end Go.Proofs.Ytnmfcbmdopmglaa.Dg
