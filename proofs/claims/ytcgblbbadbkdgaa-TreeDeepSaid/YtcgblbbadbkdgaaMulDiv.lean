/-
  The contract of au.MulDiv: the floor of a quotient of a product, cut; of a divisor 0: 0 and true. And of au.Part.
-/
import Derived.Test.YtcgblbbadbkdgaaDiv
import Derived.Test.YtcgblbbadbkdgaaFloor
namespace Go.Proofs.Ytcgblbbadbkdgaa
open Go.RowKit

theorem div64_any (h l y : Nat) (hy : y < 18446744073709551616) (hl : l < 18446744073709551616) (hh : h < y) (w : World) :
    Calls Try.prog 89 #[.int .u64 h, .int .u64 l, .int .u64 y] w fun e w' => e = .returned (.tuple #[.int .u64 (((h * 18446744073709551616 + l) / y : Nat) : Int), .int .u64 (((h * 18446744073709551616 + l) % y : Nat) : Int)]) ∧ ∃ n, w.drewN n = w' := by
  by_cases h0 : h = 0
  · subst h0
    rw [Nat.zero_mul, Nat.zero_add]
    exact div64_low l y hy hl (by omega) w
  · refine (div64_pos h l y hy hl hh (by omega) w).mono ?_
    rintro e w' ⟨rfl, rfl⟩
    exact ⟨rfl, 0, rfl⟩

set_option maxRecDepth 100000 in
theorem md_zero (a b : Int) (w : World) :
    Calls Try.prog 84 #[.int .i64 a, .int .i64 b, .int .i64 0] w fun e w' => e = .returned (.tuple #[.int .i64 0, .bool true]) ∧ ∃ n, w.drewN n = w' := by
  go_enter Try.func84, Try.ntmps84
  go_wp2_with fail
  go_ret2
  exact ⟨rfl, 0, rfl⟩

section core
variable (a b c : Int) (A B C H L Q R : Nat) (s : Bool) (ha : -9223372036854775808 ≤ a) (ha' : a ≤ 9223372036854775807) (hb : -9223372036854775808 ≤ b) (hb' : b ≤ 9223372036854775807) (hc : -9223372036854775808 ≤ c) (hc' : c ≤ 9223372036854775807) (h0 : (c == 0) = false)
  (hA : Hid (sizeI a = (A : Int))) (hB : Hid (sizeI b = (B : Int))) (hC : Hid (sizeI c = (C : Int))) (hAl : A ≤ 9223372036854775808) (hBl : B ≤ 9223372036854775808) (hCl : C ≤ 9223372036854775808)
  (hH : Hid (A * B / 18446744073709551616 = H)) (hL : Hid (A * B % 18446744073709551616 = L)) (hLl : L < 18446744073709551616)
  (hQ : Hid ((H * 18446744073709551616 + L) / C = Q)) (hR : Hid ((H * 18446744073709551616 + L) % C = R))
  (w : World)
include ha ha' hb hb' hc hc' h0 hA hB hC hAl hBl hH hL

set_option maxRecDepth 100000 in
theorem md_big (hs : (!((!(decide (a < 0) == decide (b < 0))) == decide (c < 0))) = s) (hHC : C ≤ H) :
    Calls Try.prog 84 #[.int .i64 a, .int .i64 b, .int .i64 c] w fun e w' => e = .returned (.tuple #[.int .i64 (boundI s), .bool true]) ∧ ∃ n, w.drewN n = w' := by
  go_enter Try.func84, Try.ntmps84
  go_wp2_with fail
  refine (size_any c hc hc' _).mono ?_; rintro e w' ⟨rfl, rfl⟩; rw [hC.out]
  go_wp2_with fail
  refine (size_any a ha ha' _).mono ?_; rintro e w' ⟨rfl, rfl⟩; rw [hA.out]
  go_wp2_with fail
  refine (size_any b hb hb' _).mono ?_; rintro e w' ⟨rfl, rfl⟩; rw [hB.out]
  go_wp2_with fail
  refine (mul64_any A B (by omega) (by omega) _).mono ?_; rintro e w' ⟨rfl, rfl⟩; rw [hH.out, hL.out]
  go_wp2_with fail
  refine (bound_any s _).mono ?_; rintro e w' ⟨rfl, rfl⟩
  go_wp2_with fail
  go_ret2
  exact ⟨rfl, 0, rfl⟩

include hCl hLl hQ hR
set_option maxRecDepth 100000 in
theorem md_far (hs : (!((!(decide (a < 0) == decide (b < 0))) == decide (c < 0))) = s) (hHC : H < C) (hQf : 1099511627776 < Q) :
    Calls Try.prog 84 #[.int .i64 a, .int .i64 b, .int .i64 c] w fun e w' => e = .returned (.tuple #[.int .i64 (boundI s), .bool true]) ∧ ∃ n, w.drewN n = w' := by
  go_enter Try.func84, Try.ntmps84
  go_wp2_with fail
  refine (size_any c hc hc' _).mono ?_; rintro e w' ⟨rfl, rfl⟩; rw [hC.out]
  go_wp2_with fail
  refine (size_any a ha ha' _).mono ?_; rintro e w' ⟨rfl, rfl⟩; rw [hA.out]
  go_wp2_with fail
  refine (size_any b hb hb' _).mono ?_; rintro e w' ⟨rfl, rfl⟩; rw [hB.out]
  go_wp2_with fail
  refine (mul64_any A B (by omega) (by omega) _).mono ?_; rintro e w' ⟨rfl, rfl⟩; rw [hH.out, hL.out]
  go_wp2_with fail
  refine (div64_any H L C (by omega) hLl hHC _).mono ?_; rintro e w' ⟨rfl, n, rfl⟩; rw [hQ.out, hR.out]
  go_wp2_with fail
  refine (bound_any s _).mono ?_; rintro e w' ⟨rfl, rfl⟩
  go_wp2_with fail
  go_ret2
  exact ⟨rfl, n, rfl⟩

set_option maxRecDepth 100000 in
theorem md_pos (hs : (!((!(decide (a < 0) == decide (b < 0))) == decide (c < 0))) = false) (hHC : H < C) (hQn : Q ≤ 1099511627776) :
    Calls Try.prog 84 #[.int .i64 a, .int .i64 b, .int .i64 c] w fun e w' => e = .returned (.tuple #[.int .i64 (Q : Int), .bool false]) ∧ ∃ n, w.drewN n = w' := by
  go_enter Try.func84, Try.ntmps84
  go_wp2_with fail
  refine (size_any c hc hc' _).mono ?_; rintro e w' ⟨rfl, rfl⟩; rw [hC.out]
  go_wp2_with fail
  refine (size_any a ha ha' _).mono ?_; rintro e w' ⟨rfl, rfl⟩; rw [hA.out]
  go_wp2_with fail
  refine (size_any b hb hb' _).mono ?_; rintro e w' ⟨rfl, rfl⟩; rw [hB.out]
  go_wp2_with fail
  refine (mul64_any A B (by omega) (by omega) _).mono ?_; rintro e w' ⟨rfl, rfl⟩; rw [hH.out, hL.out]
  go_wp2_with fail
  refine (div64_any H L C (by omega) hLl hHC _).mono ?_; rintro e w' ⟨rfl, n, rfl⟩; rw [hQ.out, hR.out]
  go_wp2_with fail
  go_ret2
  exact ⟨rfl, n, rfl⟩

set_option maxRecDepth 100000 in
theorem md_neg (hs : (!((!(decide (a < 0) == decide (b < 0))) == decide (c < 0))) = true) (hHC : H < C) (hQn : Q ≤ 1099511627776) :
    Calls Try.prog 84 #[.int .i64 a, .int .i64 b, .int .i64 c] w fun e w' => e = .returned (.tuple #[.int .i64 (cutI (qS true Q R)), .bool (farI (qS true Q R))]) ∧ ∃ n, w.drewN n = w' := by
  by_cases hr : 0 < R
  · have e1 : qS true Q R = -(Q : Int) - 1 := by simp [qS, hr]
    rw [e1]; clear e1
    go_enter Try.func84, Try.ntmps84
    go_wp2_with fail
    refine (size_any c hc hc' _).mono ?_; rintro e w' ⟨rfl, rfl⟩; rw [hC.out]
    go_wp2_with fail
    refine (size_any a ha ha' _).mono ?_; rintro e w' ⟨rfl, rfl⟩; rw [hA.out]
    go_wp2_with fail
    refine (size_any b hb hb' _).mono ?_; rintro e w' ⟨rfl, rfl⟩; rw [hB.out]
    go_wp2_with fail
    refine (mul64_any A B (by omega) (by omega) _).mono ?_; rintro e w' ⟨rfl, rfl⟩; rw [hH.out, hL.out]
    go_wp2_with fail
    refine (div64_any H L C (by omega) hLl hHC _).mono ?_; rintro e w' ⟨rfl, n, rfl⟩; rw [hQ.out, hR.out]
    go_wp2_with fail
    refine (cut_any _ _).mono ?_; rintro e w' ⟨rfl, rfl⟩
    go_wp2_with fail
    go_ret2
    exact ⟨rfl, n, rfl⟩
  · have e1 : qS true Q R = -(Q : Int) := by simp [qS, hr]
    rw [e1]; clear e1
    go_enter Try.func84, Try.ntmps84
    go_wp2_with fail
    refine (size_any c hc hc' _).mono ?_; rintro e w' ⟨rfl, rfl⟩; rw [hC.out]
    go_wp2_with fail
    refine (size_any a ha ha' _).mono ?_; rintro e w' ⟨rfl, rfl⟩; rw [hA.out]
    go_wp2_with fail
    refine (size_any b hb hb' _).mono ?_; rintro e w' ⟨rfl, rfl⟩; rw [hB.out]
    go_wp2_with fail
    refine (mul64_any A B (by omega) (by omega) _).mono ?_; rintro e w' ⟨rfl, rfl⟩; rw [hH.out, hL.out]
    go_wp2_with fail
    refine (div64_any H L C (by omega) hLl hHC _).mono ?_; rintro e w' ⟨rfl, n, rfl⟩; rw [hQ.out, hR.out]
    go_wp2_with fail
    refine (cut_any _ _).mono ?_; rintro e w' ⟨rfl, rfl⟩
    go_wp2_with fail
    go_ret2
    exact ⟨rfl, n, rfl⟩
end core

/-- The quotient's floor out of the sizes and the sign. -/
theorem qI_sizes (a b c : Int) (A B C : Nat) (s : Bool) (hA : sizeI a = (A : Int)) (hB : sizeI b = (B : Int)) (hC : sizeI c = (C : Int)) (hc : c ≠ 0)
    (hs : (!((!(decide (a < 0) == decide (b < 0))) == decide (c < 0))) = s) : qI a b c = qS s (A * B / C) (A * B % C) := by
  have hCp : 0 < C := by unfold sizeI at hC; split at hC <;> omega
  have hX : ∃ X : Int, qI a b c = X / (C : Int) ∧ X = (if s then -((A * B : Nat) : Int) else ((A * B : Nat) : Int)) := by
    by_cases h3 : c < 0
    · have hcC : -c = (C : Int) := by unfold sizeI at hC; rw [if_pos h3] at hC; exact hC
      refine ⟨-(a * b), by unfold qI; rw [if_neg (by omega), hcC], ?_⟩
      by_cases h1 : a < 0 <;> by_cases h2 : b < 0 <;> simp only [sizeI, h1, h2, if_true, if_false] at hA hB <;> subst hs <;> simp [h1, h2, h3, ← hA, ← hB, Int.neg_mul, Int.mul_neg]
    · have hcC : c = (C : Int) := by unfold sizeI at hC; rw [if_neg h3] at hC; exact hC
      refine ⟨a * b, by unfold qI; rw [if_pos (by omega), ← hcC], ?_⟩
      by_cases h1 : a < 0 <;> by_cases h2 : b < 0 <;> simp only [sizeI, h1, h2, if_true, if_false] at hA hB <;> subst hs <;> simp [h1, h2, h3, ← hA, ← hB, Int.neg_mul, Int.mul_neg]
  obtain ⟨X, h1, h2⟩ := hX
  rw [h1, h2]
  cases s
  · simp [qS]
  · simp only [if_true, qS]
    exact floor_neg (A * B) C hCp

theorem cut_of (s : Bool) (Q R : Nat) (h : 1099511627776 < Q) : cutI (qS s Q R) = boundI s ∧ farI (qS s Q R) = true := by
  unfold cutI farI qS boundI
  cases s <;> simp <;> split <;> omega

theorem muldiv_any (a b c : Int) (ha : -9223372036854775808 ≤ a) (ha' : a ≤ 9223372036854775807) (hb : -9223372036854775808 ≤ b) (hb' : b ≤ 9223372036854775807) (hc : -9223372036854775808 ≤ c) (hc' : c ≤ 9223372036854775807) (h0 : c ≠ 0) (w : World) :
    Calls Try.prog 84 #[.int .i64 a, .int .i64 b, .int .i64 c] w fun e w' => e = .returned (.tuple #[.int .i64 (cutI (qI a b c)), .bool (farI (qI a b c))]) ∧ ∃ n, w.drewN n = w' := by
  have size_nat : ∀ x : Int, -9223372036854775808 ≤ x → x ≤ 9223372036854775807 → ∃ X : Nat, sizeI x = (X : Int) ∧ X ≤ 9223372036854775808 := by
    intro x h1 h2
    unfold sizeI
    split
    · exact ⟨(-x).toNat, by omega, by omega⟩
    · exact ⟨x.toNat, by omega, by omega⟩
  obtain ⟨A, hA, hAl⟩ := size_nat a ha ha'
  obtain ⟨B, hB, hBl⟩ := size_nat b hb hb'
  obtain ⟨C, hC, hCl⟩ := size_nat c hc hc'
  have hCp : 0 < C := by unfold sizeI at hC; split at hC <;> omega
  obtain ⟨s, hs⟩ : ∃ s, (!((!(decide (a < 0) == decide (b < 0))) == decide (c < 0))) = s := ⟨_, rfl⟩
  rw [qI_sizes a b c A B C s hA hB hC h0 hs]
  have h0' : (c == 0) = false := by simpa using h0
  have hd := Nat.div_add_mod (A * B) 18446744073709551616
  have hm := Nat.mod_lt (A * B) (show 18446744073709551616 > 0 by omega)
  have hP : A * B / 18446744073709551616 * 18446744073709551616 + A * B % 18446744073709551616 = A * B := by omega
  by_cases hHC : A * B / 18446744073709551616 < C
  · by_cases hQ : 1099511627776 < A * B / C
    · obtain ⟨e1, e2⟩ := cut_of s (A * B / C) (A * B % C) hQ
      rw [e1, e2]
      exact md_far a b c A B C _ _ _ _ s ha ha' hb hb' hc hc' h0' (Lib.hid hA) (Lib.hid hB) (Lib.hid hC) hAl hBl hCl (Lib.hid rfl) (Lib.hid rfl) hm (Lib.hid (by rw [hP])) (Lib.hid rfl) w hs hHC hQ
    · cases s
      · have e1 : cutI (qS false (A * B / C) (A * B % C)) = ((A * B / C : Nat) : Int) := by
          generalize A * B / C = z at *
          unfold qS cutI; simp; omega
        have e2 : farI (qS false (A * B / C) (A * B % C)) = false := by
          generalize A * B / C = z at *
          unfold qS farI; simp; omega
        rw [e1, e2]
        exact md_pos a b c A B C _ _ _ _ ha ha' hb hb' hc hc' h0' (Lib.hid hA) (Lib.hid hB) (Lib.hid hC) hAl hBl hCl (Lib.hid rfl) (Lib.hid rfl) hm (Lib.hid (by rw [hP])) (Lib.hid rfl) w hs hHC (by omega)
      · exact md_neg a b c A B C _ _ _ _ ha ha' hb hb' hc hc' h0' (Lib.hid hA) (Lib.hid hB) (Lib.hid hC) hAl hBl hCl (Lib.hid rfl) (Lib.hid rfl) hm (Lib.hid (by rw [hP])) (Lib.hid (by rw [hP])) w hs hHC (by omega)
  · have hQ : 1099511627776 < A * B / C := by
      have : 1099511627777 ≤ A * B / C := by
        rw [Nat.le_div_iff_mul_le hCp]
        have : C * 18446744073709551616 ≤ A * B := by
          have : C * 18446744073709551616 ≤ A * B / 18446744073709551616 * 18446744073709551616 := Nat.mul_le_mul_right _ (by omega)
          omega
        omega
      omega
    obtain ⟨e1, e2⟩ := cut_of s (A * B / C) (A * B % C) hQ
    rw [e1, e2]
    exact md_big a b c A B C _ _ s ha ha' hb hb' hc hc' h0' (Lib.hid hA) (Lib.hid hB) (Lib.hid hC) hAl hBl (Lib.hid rfl) (Lib.hid rfl) w hs (by omega)

/-- What au.MulDiv answers, of any divisor. -/
def mv (a b c : Int) : Int := if c = 0 then 0 else cutI (qI a b c)
def mf (a b c : Int) : Bool := if c = 0 then true else farI (qI a b c)

theorem muldiv_all (a b c : Int) (ha : -9223372036854775808 ≤ a) (ha' : a ≤ 9223372036854775807) (hb : -9223372036854775808 ≤ b) (hb' : b ≤ 9223372036854775807) (hc : -9223372036854775808 ≤ c) (hc' : c ≤ 9223372036854775807) (w : World) :
    Calls Try.prog 84 #[.int .i64 a, .int .i64 b, .int .i64 c] w fun e w' => e = .returned (.tuple #[.int .i64 (mv a b c), .bool (mf a b c)]) ∧ ∃ n, w.drewN n = w' := by
  unfold mv mf
  by_cases h0 : c = 0
  · subst h0
    rw [if_pos rfl, if_pos rfl]
    exact md_zero a b w
  · rw [if_neg h0, if_neg h0]
    exact muldiv_any a b c ha ha' hb hb' hc hc' h0 w

theorem part_any (a n : Int) (ha : -9223372036854775808 ≤ a) (ha' : a ≤ 9223372036854775807) (hb : -9223372036854775808 ≤ n) (hb' : n ≤ 9223372036854775807) (w : World) :
    Calls Try.prog 49 #[.int .i64 a, .int .i64 n] w fun e w' => e = .returned (.tuple #[.int .i64 (cutI (qI a n 10000)), .bool (farI (qI a n 10000))]) ∧ ∃ n, w.drewN n = w' := by
  go_enter Try.func49, Try.ntmps49
  go_wp2_with fail
  refine (muldiv_any a n 10000 ha ha' hb hb' (by omega) (by omega) (by omega) _).mono ?_; rintro e w' ⟨rfl, m, rfl⟩
  go_wp2_with fail
  go_ret2
  exact ⟨rfl, m, rfl⟩
end Go.Proofs.Ytcgblbbadbkdgaa
