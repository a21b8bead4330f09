/-
  Contracts of package au's small functions: size, Within: what each answers for every input; no memory is made or changed.
-/
import Derived.Test.YtcgblbbadbkdgaaAuOf
namespace Go.Proofs.Ytcgblbbadbkdgaa
open Go.RowKit

theorem size_any (x : Int) (hx : -9223372036854775808 ≤ x) (hy : x ≤ 9223372036854775807) (w : World) :
    Calls Try.prog 86 #[.int .i64 x] w fun e w' => e = .returned (.int .u64 (sizeI x)) ∧ w = w' := by
  by_cases a : x < 0
  · have e : sizeI x = -x := if_pos a
    rw [e]; clear e
    go_enter Try.func86, Try.ntmps86
    go_wp2
    go_ret
    refine ⟨ret_int ?_, rfl⟩
    simp only [IntKind.wrap_u64]
    omega
  · have e : sizeI x = x := if_neg a
    rw [e]; clear e
    go_enter Try.func86, Try.ntmps86
    go_wp2
    go_ret
    exact ⟨rfl, rfl⟩

theorem within_any (x l m : Int) (w : World) :
    Calls Try.prog 50 #[.int .i64 x, .int .i64 l, .int .i64 m] w fun e w' => e = .returned (.int .i64 (withinI x l m)) ∧ w = w' := by
  go_enter Try.func50, Try.ntmps50
  go_wp2
  all_goals
    go_ret
    refine ⟨ret_int ?_, rfl⟩
    unfold withinI
    omega
end Go.Proofs.Ytcgblbbadbkdgaa
