/-
  Contract of the document's Right: it says of any style what the chapter says.
-/
import Derived.Test.YtcgblbbadbkdgaaRempty
import Derived.Test.YtcgblbbadbkdgaaLoad4
namespace Go.Proofs.Ytcgblbbadbkdgaa
open Go.RowKit

theorem text_split (s : Style) : textB s = (emptyB s && decide (s.un ≤ 65536)) := by
  simp only [textB, emptyB, List.all_cons, List.all_nil, Bool.and_true]
  rw [Bool.and_comm]
  rfl

set_option maxRecDepth 100000 in
theorem rright_any (s : Style) (w : World) : Calls Try.prog 13 #[styV s] w fun e w' => e = .returned (.bool (rightB s)) ∧ Below w.heap.size w w' := by
  have hBox := fun w => rbox_any s w
  have hEmp := fun w => rempty_any s w
  unfold styV at *
  obtain ⟨L, hL⟩ : ∃ L, (styE s).toArray = L := ⟨_, rfl⟩
  rw [hL] at hBox hEmp ⊢
  have hA := show AtS (w.alloc (.cells L 28)) w.heap.size s by rw [← hL]; exact at_new w s _
  have hb0 := Lib.hid ((Below.refl w.heap.size w).alloc (Nat.le_refl _) (.cells L 28))
  replace hL := Lib.hid hL
  have c0 := hA.2 0 _ rfl
  have l0 := Lib.hid hA
  clear hA
  by_cases h1 : s.kind = 1 ∨ s.kind = 2
  · have hr : Hid (rightB s = boxB s) := Lib.hid (by unfold rightB; rw [if_pos h1])
    rcases h1 with h1 | h1
    all_goals
      rw [h1] at c0
      clear h1
      go_enter Try.func13, Try.ntmps13
      go_wp2_with (refine wpList_load_sty (by rfl) _ rfl w.heap.size rfl s L hL l0 ?_)
      refine (hBox _).mono ?_; rintro e w1 ⟨rfl, hb1⟩
      have hb2 := Lib.hid (hb0.out.trans (hb1.mono hb0.out.size))
      clear hb1
      go_wp2_with fail
      go_ret
      exact ⟨by rw [hr.out]; rfl, hb2.out⟩
  · have q1 : (s.kind == 1) = false := by simp; omega
    have q2 : (s.kind == 2) = false := by simp; omega
    by_cases h3 : s.kind = 3
    · have hr : Hid (rightB s = (emptyB s && decide (s.un ≤ 65536))) := Lib.hid (by unfold rightB; rw [if_neg h1, if_pos h3, text_split])
      rw [h3] at c0
      clear h1 h3 q1 q2
      generalize emptyB s = z at *
      go_enter Try.func13, Try.ntmps13
      go_wp2_with (refine wpList_load_sty (by rfl) _ rfl w.heap.size rfl s L hL l0 ?_)
      refine (hEmp _).mono ?_; rintro e w1 ⟨rfl, hb1⟩
      have hb2 := Lib.hid (hb0.out.trans (hb1.mono hb0.out.size))
      have hA2 := l0.out.below hb1
      have c42 := hA2.2 42 _ rfl
      clear hb1 hA2
      cases z
      · go_wp2_with fail
        go_ret
        exact ⟨by rw [hr.out]; rfl, hb2.out⟩
      · go_wp2_with fail
        go_ret
        exact ⟨by rw [hr.out]; exact congrArg (fun b => Ending.returned (.bool b)) (show decide ((s.un : Int) ≤ 65536) = (true && decide (s.un ≤ 65536)) by rw [Bool.true_and, Bool.eq_iff_iff]; simp; omega), hb2.out⟩
    · have q3 : (s.kind == 3) = false := by simpa using h3
      have hr : Hid (rightB s = false) := Lib.hid (by unfold rightB; rw [if_neg h1, if_neg h3])
      clear h1 h3
      go_enter Try.func13, Try.ntmps13
      go_wp2_with fail
      go_ret
      exact ⟨by rw [hr.out]; rfl, hb0.out⟩
end Go.Proofs.Ytcgblbbadbkdgaa
