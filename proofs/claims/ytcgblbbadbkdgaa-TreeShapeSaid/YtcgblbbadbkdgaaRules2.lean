/-
  Contracts of the functions in style's list of rules that are asked of texts.
-/
import Derived.Test.YtcgblbbadbkdgaaRules
import Derived.Test.YtcgblbbadbkdgaaEq4
import Derived.Deep.QuietTactic
import Derived.BigQuiet
namespace Go.Proofs.Ytcgblbbadbkdgaa
open Go.RowKit Go.Shelf

set_option maxRecDepth 100000 in
theorem rule14 (g : Nat) (s : Style) : Says 75 g s (rule s 14) := fun w h => by
  have hr : Hid (rule s 14 = (zeroLen s.w && zeroLen s.h && zeroLen s.minW && zeroLen s.maxW && zeroLen s.minH && zeroLen s.maxH && zeroLen s.basis)) := Lib.hid rfl
  generalize rule s 14 = b at *
  have e1 := fun w => (len_eq s.w.k s.w.n 0 0 w).trans (show _ = Result.ok (zeroLen s.w) w from rfl)
  have e2 := fun w => (len_eq s.h.k s.h.n 0 0 w).trans (show _ = Result.ok (zeroLen s.h) w from rfl)
  have e3 := fun w => (len_eq s.minW.k s.minW.n 0 0 w).trans (show _ = Result.ok (zeroLen s.minW) w from rfl)
  have e4 := fun w => (len_eq s.maxW.k s.maxW.n 0 0 w).trans (show _ = Result.ok (zeroLen s.maxW) w from rfl)
  have e5 := fun w => (len_eq s.minH.k s.minH.n 0 0 w).trans (show _ = Result.ok (zeroLen s.minH) w from rfl)
  have e6 := fun w => (len_eq s.maxH.k s.maxH.n 0 0 w).trans (show _ = Result.ok (zeroLen s.maxH) w from rfl)
  have e7 := fun w => (len_eq s.basis.k s.basis.n 0 0 w).trans (show _ = Result.ok (zeroLen s.basis) w from rfl)
  generalize zeroLen s.w = z1 at *
  generalize zeroLen s.h = z2 at *
  generalize zeroLen s.minW = z3 at *
  generalize zeroLen s.maxW = z4 at *
  generalize zeroLen s.minH = z5 at *
  generalize zeroLen s.maxH = z6 at *
  generalize zeroLen s.basis = z7 at *
  have hz := len_zero
  go_enter Try.func75, Try.ntmps75
  go_wp2_with fail
  generalize hW : World.alloc w _ = W
  obtain ⟨hA, hB, hb⟩ : AtS W g s ∧ Box W w.heap.size (lenE ⟨0, 0⟩) ∧ Below w.heap.size w W := by
    subst hW
    exact ⟨h.below ((Below.refl _ _).alloc (Nat.le_refl _) _), Box.new w (lenE ⟨0, 0⟩) _, (Below.refl _ _).alloc (Nat.le_refl _) _⟩
  clear hW h
  have d0 := hB.cell 0 _ rfl
  have d1 := hB.cell 1 _ rfl
  have hb := Lib.hid hb
  have c4 := hA.2 4 _ rfl
  have c5 := hA.2 5 _ rfl
  have c6 := hA.2 6 _ rfl
  have c7 := hA.2 7 _ rfl
  have c8 := hA.2 8 _ rfl
  have c9 := hA.2 9 _ rfl
  have c10 := hA.2 10 _ rfl
  have c11 := hA.2 11 _ rfl
  have c12 := hA.2 12 _ rfl
  have c13 := hA.2 13 _ rfl
  have c14 := hA.2 14 _ rfl
  have c15 := hA.2 15 _ rfl
  have c40 := hA.2 40 _ rfl
  have c41 := hA.2 41 _ rfl
  clear hA hB
  cases z1
  · go_quiet (fail)
    go_wp2_with fail
    go_ret
    exact ⟨by rw [hr.out]; rfl, bl_drewN hb.out _⟩
  cases z2
  · go_quiet (fail)
    go_wp2_with fail
    go_ret
    exact ⟨by rw [hr.out]; rfl, bl_drewN hb.out _⟩
  cases z3
  · go_quiet (fail)
    go_wp2_with fail
    go_ret
    exact ⟨by rw [hr.out]; rfl, bl_drewN hb.out _⟩
  cases z4
  · go_quiet (fail)
    go_wp2_with fail
    go_ret
    exact ⟨by rw [hr.out]; rfl, bl_drewN hb.out _⟩
  cases z5
  · go_quiet (fail)
    go_wp2_with fail
    go_ret
    exact ⟨by rw [hr.out]; rfl, bl_drewN hb.out _⟩
  cases z6
  · go_quiet (fail)
    go_wp2_with fail
    go_ret
    exact ⟨by rw [hr.out]; rfl, bl_drewN hb.out _⟩
  · go_quiet (fail)
    go_wp2_with fail
    go_ret
    exact ⟨by rw [hr.out]; rfl, bl_drewN hb.out _⟩

theorem rule15 (g : Nat) (s : Style) : Says 76 g s (rule s 15) := fun w h => by
  have e1 := fun w => lens_eq s.m0.k s.m0.n s.m1.k s.m1.n 0 0 0 0 s.m2.k s.m2.n s.m3.k s.m3.n 0 0 0 0 w
  have e2 := fun w => sides_eq4 s.b0 s.b1 s.b2 s.b3 0 0 0 0 w
  have e3 := fun w => sides_eq4 s.p0 s.p1 s.p2 s.p3 0 0 0 0 w
  have hr : Hid (rule s 15 = (((s.m0.k == 0 && s.m0.n == 0) && ((s.m1.k == 0 && s.m1.n == 0) && ((s.m2.k == 0 && s.m2.n == 0) && (s.m3.k == 0 && s.m3.n == 0)))) && (s.b0 == 0 && s.b1 == 0 && s.b2 == 0 && s.b3 == 0) && (s.p0 == 0 && s.p1 == 0 && s.p2 == 0 && s.p3 == 0))) :=
    Lib.hid (by simp [rule, Style.margins, Style.borders, Style.paddings, zeroLen, Bool.and_assoc])
  generalize rule s 15 = b at *
  generalize ((s.m0.k == 0 && s.m0.n == 0) && ((s.m1.k == 0 && s.m1.n == 0) && ((s.m2.k == 0 && s.m2.n == 0) && (s.m3.k == 0 && s.m3.n == 0)))) = z1 at *
  generalize (s.b0 == 0 && s.b1 == 0 && s.b2 == 0 && s.b3 == 0) = z2 at *
  generalize (s.p0 == 0 && s.p1 == 0 && s.p2 == 0 && s.p3 == 0) = z3 at *
  have hz1 := lens_zero
  have hz2 := sides_zero
  have c16 := h.2 16 _ rfl
  have c17 := h.2 17 _ rfl
  have c18 := h.2 18 _ rfl
  have c19 := h.2 19 _ rfl
  have c20 := h.2 20 _ rfl
  have c21 := h.2 21 _ rfl
  have c22 := h.2 22 _ rfl
  have c23 := h.2 23 _ rfl
  have c24 := h.2 24 _ rfl
  have c25 := h.2 25 _ rfl
  have c26 := h.2 26 _ rfl
  have c27 := h.2 27 _ rfl
  have c28 := h.2 28 _ rfl
  have c29 := h.2 29 _ rfl
  have c30 := h.2 30 _ rfl
  have c31 := h.2 31 _ rfl
  clear h
  cases z1
  · go_enter Try.func76, Try.ntmps76
    go_wp2_with fail
    go_ret
    exact ⟨by rw [hr.out]; rfl, Below.refl _ _⟩
  cases z2
  · go_enter Try.func76, Try.ntmps76
    go_wp2_with fail
    go_ret
    exact ⟨by rw [hr.out]; rfl, Below.refl _ _⟩
  · go_enter Try.func76, Try.ntmps76
    go_wp2_with fail
    go_ret
    exact ⟨by rw [hr.out]; rfl, Below.refl _ _⟩

end Go.Proofs.Ytcgblbbadbkdgaa
