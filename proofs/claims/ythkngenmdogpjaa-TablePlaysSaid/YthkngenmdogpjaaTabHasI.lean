/-
  Contracts of package table at one type of values: has, Size; of no table.
-/
import Derived.Test.YthkngenmdogpjaaTabNewI
namespace Go.Proofs.Ythkngenmdogpjaa
open Go.RowKit

theorem hasI_h (tb cb vb : Nat) (l : List (Option Int)) (i : Int) (w : World) (h : Hid (Tab intE int0 w tb cb vb l)) :
    Calls Try.prog 35 #[.pointer (some ⟨tb, 0, none⟩), .int .i64 i] w fun e w' => e = .returned (.bool (slot l i).isSome) ∧ w = w' := by
  have h0 := h.out.head.cell 0 _ rfl
  rcases slot_cases l i with ⟨e, hi⟩ | ⟨k, o, rfl, hk, e, hl⟩
  · rw [e]
    simp only [Option.isSome_none]
    generalize l.length = n at *
    clear h e
    by_cases h1 : i < 0
    · have h2 : ¬ 0 ≤ i := by omega
      go_enter Try.func35, Try.ntmps35
      go_wp2_with fail
      go_ret
      exact ⟨rfl, rfl⟩
    · have h2 : 0 ≤ i := by omega
      have h3 : ¬ i < n := by omega
      go_enter Try.func35, Try.ntmps35
      go_wp2_with fail
      go_ret
      exact ⟨rfl, rfl⟩
  · rw [e]
    simp only [Option.isSome_some]
    clear hk e h
    generalize l.length = n at *
    have h2 : (0 : Int) ≤ (k : Int) := by omega
    have h3 : (k : Int) < (n : Int) := by omega
    go_enter Try.func35, Try.ntmps35
    go_wp2_with fail
    go_ret
    exact ⟨rfl, rfl⟩

theorem sizeI_h (tb cb vb : Nat) (l : List (Option Int)) (w : World) (h : Hid (Tab intE int0 w tb cb vb l)) :
    Calls Try.prog 25 #[.pointer (some ⟨tb, 0, none⟩)] w fun e w' => e = .returned (.int .i64 l.length) ∧ w = w' := by
  have h0 := h.out.head.cell 0 _ rfl
  clear h
  generalize l.length = n at *
  go_enter Try.func25, Try.ntmps25
  go_wp2_with fail
  go_ret
  exact ⟨rfl, rfl⟩
end Go.Proofs.Ythkngenmdogpjaa
