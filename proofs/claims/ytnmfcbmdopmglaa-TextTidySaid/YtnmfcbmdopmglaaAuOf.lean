/-
  Contracts of package au's small functions: Cut, size, bound, Within: what each answers for every input; no memory is made or changed.
-/
import Derived.Test.YtnmfcbmdopmglaaCore
namespace Go.Proofs.Ytnmfcbmdopmglaa
open Go.RowKit

/-- A whole number, cut to a length. -/
def cutI (x : Int) : Int := if 1099511627776 < x then 1099511627776 else if x < -1099511627776 then -1099511627776 else x
/-- Is it beyond? -/
def farI (x : Int) : Bool := decide (1099511627776 < x ∨ x < -1099511627776)
def sizeI (x : Int) : Int := if x < 0 then -x else x
def boundI (b : Bool) : Int := if b then -1099511627776 else 1099511627776
def withinI (x least most : Int) : Int := max (min x most) least

theorem cut_any (x : Int) (w : World) :
    Calls Try.prog 37 #[.int .i64 x] w fun e w' => e = .returned (.tuple #[.int .i64 (cutI x), .bool (farI x)]) ∧ w = w' := by
  have h1 : 1099511627776 < x → cutI x = 1099511627776 ∧ farI x = true := fun h => ⟨by simp [cutI, h], by simp [farI, h]⟩
  have h2 : x < -1099511627776 → cutI x = -1099511627776 ∧ farI x = true := fun h => ⟨by simp [cutI, h]; omega, by simp [farI, h]⟩
  have h3 : ¬ 1099511627776 < x → ¬ x < -1099511627776 → cutI x = x ∧ farI x = false := fun h k => ⟨by simp [cutI, h, k], by simp [farI]; omega⟩
  by_cases a : 1099511627776 < x
  · obtain ⟨e1, e2⟩ := h1 a
    rw [e1, e2]; clear h1 h2 h3 e1 e2
    go_enter Try.func37, Try.ntmps37
    go_wp2
    go_ret2
    exact ⟨rfl, rfl⟩
  · by_cases b : x < -1099511627776
    · obtain ⟨e1, e2⟩ := h2 b
      rw [e1, e2]; clear h1 h2 h3 e1 e2
      go_enter Try.func37, Try.ntmps37
      go_wp2
      go_ret2
      exact ⟨rfl, rfl⟩
    · obtain ⟨e1, e2⟩ := h3 a b
      rw [e1, e2]; clear h1 h2 h3 e1 e2
      go_enter Try.func37, Try.ntmps37
      go_wp2
      go_ret2
      exact ⟨rfl, rfl⟩

theorem bound_any (b : Bool) (w : World) :
    Calls Try.prog 61 #[.bool b] w fun e w' => e = .returned (.int .i64 (boundI b)) ∧ w = w' := by
  cases b
  · show Calls _ _ _ _ fun e w' => e = .returned (.int .i64 1099511627776) ∧ w = w'
    go_enter Try.func61, Try.ntmps61
    go_wp2
    go_ret
    exact ⟨rfl, rfl⟩
  · show Calls _ _ _ _ fun e w' => e = .returned (.int .i64 (-1099511627776)) ∧ w = w'
    go_enter Try.func61, Try.ntmps61
    go_wp2
    go_ret
    exact ⟨rfl, rfl⟩
end Go.Proofs.Ytnmfcbmdopmglaa
