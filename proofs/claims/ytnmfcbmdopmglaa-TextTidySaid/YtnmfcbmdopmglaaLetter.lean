/-
  Contract of the document's letter.
-/
import Derived.Test.YtnmfcbmdopmglaaRWide
namespace Go.Proofs.Ytnmfcbmdopmglaa
open Go.RowKit
set_option linter.unusedVariables false

theorem wAt_get {u : List Int} {k : Nat} (h : k < u.length) : wAt u k = isW (u.getD k 0) := by
  unfold wAt
  rw [List.getD_eq_getElem?_getD, List.getElem?_eq_getElem h]
  rfl
theorem wAt_out {u : List Int} {k : Nat} (h : u.length ≤ k) : wAt u k = false := by
  unfold wAt
  rw [List.getElem?_eq_none h]

set_option maxRecDepth 100000 in
theorem letter_h (U : Option Addr) (n c : Nat) (u : List Int) (k : Nat) (w : World) (hU : Hid (Sl u16E w U n c u)) (hu : Hid (∀ x ∈ u, U16 x)) (hk : k ≤ 1000000) :
    Calls Try.prog 40 #[.slice U n c, .int .i64 k] w fun e w' => e = .returned (.bool (wAt u k)) ∧ w = w' := by
  have k0 : (0 : Int) ≤ (k : Int) := by omega
  by_cases hlt : k < n
  · obtain ⟨b, rfl, _, hc⟩ := u16_cell hU.out hlt
    have hx := u16_get hu.out k
    rw [wAt_get (by rw [← hU.out.len]; exact hlt)]
    obtain ⟨x0, x1⟩ := hx
    have hlt' : (k : Int) < (n : Int) := by omega
    generalize u.getD k 0 = x at *
    by_cases h1 : x = 32
    · subst h1
      go_enter Try.func40, Try.ntmps40
      go_wp2_with fail
      go_ret
      exact ⟨rfl, rfl⟩
    · by_cases h2 : x = 10
      · subst h2
        go_enter Try.func40, Try.ntmps40
        go_wp2_with fail
        go_ret
        exact ⟨rfl, rfl⟩
      · have t0 : (x != 32) = true := by simpa using h1
        have e : isW x = true := by simp [isW, h1, h2]
        rw [e]
        have t2 : (x != 10) = true := by simpa using h2
        clear h1 h2 e
        go_enter Try.func40, Try.ntmps40
        go_wp2_with fail
        go_ret
        exact ⟨rfl, rfl⟩
  · rw [wAt_out (by rw [← hU.out.len]; omega)]
    have hlt' : ¬ (k : Int) < (n : Int) := by omega
    go_enter Try.func40, Try.ntmps40
    go_wp2_with fail
    go_ret
    exact ⟨rfl, rfl⟩
set_option maxRecDepth 100000 in
theorem letter_no (U : Option Addr) (n c : Nat) (w : World) :
    Calls Try.prog 40 #[.slice U n c, .int .i64 (-1)] w fun e w' => e = .returned (.bool false) ∧ w = w' := by
  go_enter Try.func40, Try.ntmps40
  go_wp2_with fail
  go_ret
  exact ⟨rfl, rfl⟩
end Go.Proofs.Ytnmfcbmdopmglaa
