/-
  Contract of the document's answer for lengths: Within.
-/
import Derived.Test.YtjjaeloamogfdaaRef
namespace Go.Proofs.Ytjjaeloamogfdaa
open Go.RowKit

theorem refwithin_any (x l m : Int) (w : World) :
    Calls Try.prog 29 #[.int .i64 x, .int .i64 l, .int .i64 m] w fun e w' => e = .returned (.int .i64 (withinI x l m)) ∧ w = w' := by
  go_enter Try.func29, Try.ntmps29
  go_wp2
  all_goals
    go_ret
    refine ⟨ret_int ?_, rfl⟩
    unfold withinI
    omega
end Go.Proofs.Ytjjaeloamogfdaa
