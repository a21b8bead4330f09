/-
  Contract of the statements' vast.
-/
import Derived.Test.YtcgblbbadbkdgaaLoad4
namespace Go.Proofs.Ytcgblbbadbkdgaa
open Go.RowKit

theorem vast_any (s : Style) (w : World) : Calls Try.prog 10 #[styV s] w fun e w' => e = .returned (.bool (decide (131072 < s.un))) ∧ Below w.heap.size w w' := by
  unfold styV
  obtain ⟨L, hL⟩ : ∃ L, (styE s).toArray = L := ⟨_, rfl⟩
  rw [hL]
  have c0 : (w.alloc (.cells L 28)).cell? ⟨w.heap.size, 42, none⟩ = some (.slice s.ua s.un s.uc) := by rw [← hL]; exact (at_new w s _).2 42 _ rfl
  have hb0 := Lib.hid ((Below.refl w.heap.size w).alloc (Nat.le_refl _) (.cells L 28))
  clear hL
  go_enter Try.func10, Try.ntmps10
  go_wp2
  go_ret
  refine ⟨congrArg (fun b => Ending.returned (.bool b)) (show decide ((131072 : Int) < (s.un : Int)) = decide (131072 < s.un) by rw [Bool.eq_iff_iff]; simp; omega), hb0.out⟩
end Go.Proofs.Ytcgblbbadbkdgaa
