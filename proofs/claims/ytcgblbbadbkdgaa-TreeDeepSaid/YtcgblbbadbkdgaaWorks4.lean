/-
  The contract of the statements' anchor of stage 4: it answers true; of what was in memory nothing changes.
-/
import Derived.Test.YtcgblbbadbkdgaaRight2
import Derived.Test.YtcgblbbadbkdgaaOf4
import Derived.BigGuard
namespace Go.Proofs.Ytcgblbbadbkdgaa
open Go.RowKit

theorem px_any (n : Int) (w : World) : Calls Try.prog 33 #[.int .i64 n] w fun e w' => e = .returned (lenV ⟨1, n⟩) ∧ Below w.heap.size w w' := by
  go_enter Try.func33, Try.ntmps33
  go_wp2_with fail
  generalize hW : World.alloc w _ = W
  obtain ⟨b1, hb⟩ : Box W w.heap.size (lenE ⟨1, n⟩) ∧ Below w.heap.size w W := by
    subst hW
    exact ⟨Box.new w (lenE ⟨1, n⟩) _, (Below.refl _ _).alloc (Nat.le_refl _) _⟩
  have x0 := b1.cell 0 _ rfl
  have x1 := b1.cell 1 _ rfl
  refine bodyPost_ret (v := .agg #[.int .u8 1, .int .i64 n]) (by simp [results, Try.results33, go_sem, x0, x1]) rfl ⟨rfl, hb⟩

def style0 : Style := ⟨0, false, 0, 0, ⟨0, 0⟩, ⟨0, 0⟩, ⟨0, 0⟩, ⟨0, 0⟩, ⟨0, 0⟩, ⟨0, 0⟩, ⟨0, 0⟩, ⟨0, 0⟩, ⟨0, 0⟩, ⟨0, 0⟩, 0, 0, 0, 0, 0, 0, 0, 0, 0, 0, false, 0, 0, 0, 0, 0, ⟨0, 0⟩, none, 0, 0⟩
theorem i64_small (x : Int) (h : -100000 ≤ x ∧ x ≤ 100000) : I64 x := by unfold I64; omega
theorem w41 : ofN ⟨2, 5000⟩ 7 = 3 ∧ ofAuto ⟨2, 5000⟩ = false ∧ ofFar ⟨2, 5000⟩ 7 = false := by decide
theorem w42 : sizeN ⟨1, 5⟩ ⟨1, 8⟩ ⟨1, 6⟩ 0 = 8 ∧ ofAuto ⟨1, 5⟩ = false ∧ sizeFar ⟨1, 5⟩ ⟨1, 8⟩ ⟨1, 6⟩ 0 = false := by decide

theorem ws1 (w : World) : Calls Try.prog 12 #[.agg #[.int .u8 1, .bool false, .int .u8 0, .int .u8 0, .int .u8 0, .int .i64 0, .int .u8 0, .int .i64 0, .int .u8 0, .int .i64 0, .int .u8 0, .int .i64 0, .int .u8 0, .int .i64 0, .int .u8 0, .int .i64 0, .int .u8 0, .int .i64 0, .int .u8 0, .int .i64 0, .int .u8 0, .int .i64 0, .int .u8 0, .int .i64 0, .int .i64 0, .int .i64 0, .int .i64 0, .int .i64 0, .int .i64 0, .int .i64 0, .int .i64 0, .int .i64 0, .int .u8 0, .int .i64 0, .bool false, .int .u8 0, .int .u8 0, .int .i64 0, .int .i64 0, .int .i64 0, .int .u8 0, .int .i64 0, .slice none 0 0]] w fun e w' => e = .returned (.bool true) ∧ Below w.heap.size w w' :=
  (right_any { style0 with kind := 1 } w).mono fun e w' h => by rw [show rightB { style0 with kind := 1 } = true by decide] at h; exact h
theorem ws2 (g : Nat) (w : World) : Calls Try.prog 12 #[.agg #[.int .u8 3, .bool false, .int .u8 0, .int .u8 0, .int .u8 0, .int .i64 0, .int .u8 0, .int .i64 0, .int .u8 0, .int .i64 0, .int .u8 0, .int .i64 0, .int .u8 0, .int .i64 0, .int .u8 0, .int .i64 0, .int .u8 0, .int .i64 0, .int .u8 0, .int .i64 0, .int .u8 0, .int .i64 0, .int .u8 0, .int .i64 0, .int .i64 0, .int .i64 0, .int .i64 0, .int .i64 0, .int .i64 0, .int .i64 0, .int .i64 0, .int .i64 0, .int .u8 0, .int .i64 0, .bool false, .int .u8 0, .int .u8 0, .int .i64 0, .int .i64 0, .int .i64 0, .int .u8 0, .int .i64 0, .slice (some ⟨g, 0, none⟩) 1 1]] w fun e w' => e = .returned (.bool true) ∧ Below w.heap.size w w' :=
  right_any { style0 with kind := 3, ua := some ⟨g, 0, none⟩, un := 1, uc := 1 } w
theorem ws3 (w : World) : Calls Try.prog 12 #[.agg #[.int .u8 4, .bool false, .int .u8 0, .int .u8 0, .int .u8 0, .int .i64 0, .int .u8 0, .int .i64 0, .int .u8 0, .int .i64 0, .int .u8 0, .int .i64 0, .int .u8 0, .int .i64 0, .int .u8 0, .int .i64 0, .int .u8 0, .int .i64 0, .int .u8 0, .int .i64 0, .int .u8 0, .int .i64 0, .int .u8 0, .int .i64 0, .int .i64 0, .int .i64 0, .int .i64 0, .int .i64 0, .int .i64 0, .int .i64 0, .int .i64 0, .int .i64 0, .int .u8 0, .int .i64 0, .bool false, .int .u8 0, .int .u8 0, .int .i64 0, .int .i64 0, .int .i64 0, .int .u8 0, .int .i64 0, .slice none 0 0]] w fun e w' => e = .returned (.bool false) ∧ Below w.heap.size w w' :=
  (right_any { style0 with kind := 4 } w).mono fun e w' h => by rw [show rightB { style0 with kind := 4 } = false by decide] at h; exact h
theorem ws4 (w : World) : Calls Try.prog 12 #[.agg #[.int .u8 1, .bool false, .int .u8 0, .int .u8 0, .int .u8 1, .int .i64 (-1), .int .u8 0, .int .i64 0, .int .u8 0, .int .i64 0, .int .u8 0, .int .i64 0, .int .u8 0, .int .i64 0, .int .u8 0, .int .i64 0, .int .u8 0, .int .i64 0, .int .u8 0, .int .i64 0, .int .u8 0, .int .i64 0, .int .u8 0, .int .i64 0, .int .i64 0, .int .i64 0, .int .i64 0, .int .i64 0, .int .i64 0, .int .i64 0, .int .i64 0, .int .i64 0, .int .u8 0, .int .i64 0, .bool false, .int .u8 0, .int .u8 0, .int .i64 0, .int .i64 0, .int .i64 0, .int .u8 0, .int .i64 0, .slice none 0 0]] w fun e w' => e = .returned (.bool false) ∧ Below w.heap.size w w' :=
  (right_any { style0 with kind := 1, w := ⟨1, -1⟩ } w).mono fun e w' h => by rw [show rightB { style0 with kind := 1, w := ⟨1, -1⟩ } = false by decide] at h; exact h
theorem wo1 : ∀ w, Calls Try.prog 31 #[.agg #[.int .u8 2, .int .i64 5000], .int .i64 7] w fun e w' => e = .returned (.tuple #[.int .i64 3, .bool false, .bool false]) ∧ Below w.heap.size w w' := fun w =>
  (of4_any ⟨2, 5000⟩ 7 (i64_small _ (by simp)) (i64_small _ (by omega)) w).mono fun e w' h => by rw [w41.1, w41.2.1, w41.2.2] at h; exact h
theorem wo2 : ∀ w, Calls Try.prog 32 #[.agg #[.int .u8 1, .int .i64 5], .agg #[.int .u8 1, .int .i64 8], .agg #[.int .u8 1, .int .i64 6], .int .i64 0] w fun e w' => e = .returned (.tuple #[.int .i64 8, .bool false, .bool false]) ∧ Below w.heap.size w w' := fun w =>
  (size_of ⟨1, 5⟩ ⟨1, 8⟩ ⟨1, 6⟩ 0 (of4_any _ _ (i64_small _ (by simp)) (i64_small _ (by omega))) (of4_any _ _ (i64_small _ (by simp)) (i64_small _ (by omega))) (of4_any _ _ (i64_small _ (by simp)) (i64_small _ (by omega))) w).mono fun e w' h => by rw [w42.1, w42.2.1, w42.2.2] at h; exact h

set_option maxRecDepth 100000 in
set_option maxHeartbeats 1600000 in
theorem works4_any (w : World) : Calls Try.prog 11 #[] w fun e w' => e = .returned (.bool true) ∧ Below w.heap.size w w' := by
  have h1 := wo1
  have h2 := wo2
  go_enter Try.func11, Try.ntmps11
  go_wp2_with fail
  refine (h1 _).mono ?_; rintro e w1 ⟨rfl, hb1⟩
  replace hb1 := Lib.hid hb1
  go_wp2_with fail
  refine (px_any _ _).mono ?_; rintro e w2 ⟨rfl, hb⟩
  have hb2 := Lib.hid (hb1.out.trans (hb.mono hb1.out.size))
  clear hb hb1
  go_wp2_with fail
  refine (px_any _ _).mono ?_; rintro e w3 ⟨rfl, hb⟩
  have hb3 := Lib.hid (hb2.out.trans (hb.mono hb2.out.size))
  clear hb hb2
  go_wp2_with fail
  refine (px_any _ _).mono ?_; rintro e w4 ⟨rfl, hb⟩
  have hb4 := Lib.hid (hb3.out.trans (hb.mono hb3.out.size))
  clear hb hb3
  go_wp2_with fail
  refine (h2 _).mono ?_; rintro e w5 ⟨rfl, hb⟩
  have hb5 := Lib.hid (hb4.out.trans (hb.mono hb4.out.size))
  clear hb hb4
  go_wp2_with fail
  refine (ws1 _).mono ?_; rintro e w6 ⟨rfl, hb⟩
  have hb6 := Lib.hid (hb5.out.trans (hb.mono hb5.out.size))
  clear hb hb5
  go_wp2_with fail
  refine (ws2 _ _).mono ?_; rintro e w7 ⟨rfl, hb⟩
  have hx : Below w6.heap.size w6 w7 := ((Below.refl w6.heap.size w6).alloc (Nat.le_refl _) (.cells #[.int .u16 97] 50)).trans (hb.mono (by simp))
  have hb7 := Lib.hid (hb6.out.trans (hx.mono hb6.out.size))
  clear hb hb6 hx
  go_wp2_with fail
  refine (ws3 _).mono ?_; rintro e w8 ⟨rfl, hb⟩
  have hb8 := Lib.hid (hb7.out.trans (hb.mono hb7.out.size))
  clear hb hb7
  go_wp2_with fail
  refine (px_any _ _).mono ?_; rintro e w9 ⟨rfl, hb⟩
  have hb9 := Lib.hid (hb8.out.trans (hb.mono hb8.out.size))
  clear hb hb8
  go_wp2_with fail
  refine (ws4 _).mono ?_; rintro e w10 ⟨rfl, hb⟩
  have hb10 := Lib.hid (hb9.out.trans (hb.mono hb9.out.size))
  clear hb hb9
  go_wp2_with fail
  go_ret
  exact ⟨rfl, hb10.out⟩
end Go.Proofs.Ytcgblbbadbkdgaa
