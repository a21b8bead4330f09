/-
  Contracts of the functions in style's list of rules: what each says of a style.
-/
import Derived.Test.YtcgblbbadbkdgaaStyle
import Derived.Test.YtcgblbbadbkdgaaAllLen
import Derived.Test.YtcgblbbadbkdgaaAllI64
import Derived.Test.YtcgblbbadbkdgaaAllU8
import Derived.Laws.IdiomArrays
import Derived.StillTailTactics
namespace Go.Proofs.Ytcgblbbadbkdgaa
open Go.RowKit Go.Shelf

/-- A rule's contract: of a style that lies in block g the function f says b. -/
def Says (f : FuncId) (g : Nat) (s : Style) (b : Bool) : Prop :=
  ∀ w, AtS w g s → Calls Try.prog f #[.pointer (some ⟨g, 0, none⟩)] w fun e w' => e = .returned (.bool b) ∧ Below w.heap.size w w'

theorem rule0 (g : Nat) (s : Style) : Says 51 g s (rule s 0) := fun w h => by
  have c0 := h.2 2 _ rfl
  go_enter Try.func51, Try.ntmps51
  go_wp2
  go_ret
  exact ⟨rfl, Below.refl _ _⟩
theorem rule1 (g : Nat) (s : Style) : Says 52 g s (rule s 1) := fun w h => by
  have c0 := h.2 3 _ rfl
  go_enter Try.func52, Try.ntmps52
  go_wp2
  go_ret
  exact ⟨rfl, Below.refl _ _⟩
set_option maxRecDepth 100000 in
theorem rule2 (g : Nat) (s : Style) : Says 53 g s (rule s 2) := fun w h => by
  have c0 := h.2 4 _ rfl
  have c1 := h.2 5 _ rfl
  have c2 := h.2 8 _ rfl
  have c3 := h.2 9 _ rfl
  have c4 := h.2 10 _ rfl
  have c5 := h.2 11 _ rfl
  have c6 := h.2 40 _ rfl
  have c7 := h.2 41 _ rfl
  have hr : Hid (rule s 2 = [s.w, s.minW, s.maxW, s.basis].all wideB) := Lib.hid rfl
  generalize rule s 2 = b at *
  have hc : ∀ A w, Holds lenE w w.heap.size A [s.w, s.minW, s.maxW, s.basis] → Calls Try.prog 54 #[.func (.func 55) #[] #[], .slice A 4 4] w fun e w' => e = .returned (.bool b) ∧ Below w.heap.size w w' := fun A w hm => by
    rw [hr.out]
    exact allLen_any wideB 55 (enters_of Try.func55 (by kernel_rfl) rfl) (Lib.hid wide_any) A 4 4 _ w hm (Lib.hid rfl) (by omega)
  clear hr h
  go_enter Try.func53, Try.ntmps53
  go_wp2_with fail
  go_still_tail 16, (by kernel_rfl)
  change wpList _ _ _ _ _ w.drew
  have hb0 : Below w.heap.size w w.drew := (Below.refl _ _).drew
  have hh : Hid (w.drew.heap = w.heap) := Lib.hid rfl
  generalize w.drew = w2 at *
  go_wp2_with (go_at_call 54; refine (hc _ _ (Holds.lit (f := lenE) w2 [s.w, s.minW, s.maxW, s.basis] _)).mono ?_; rintro e w1 ⟨rfl, hb⟩)
  go_ret
  exact ⟨rfl, (hb0.alloc hb0.size _).trans (hb.mono (by have := hb0.size; simp; omega))⟩
set_option maxRecDepth 100000 in
theorem rule3 (g : Nat) (s : Style) : Says 56 g s (rule s 3) := fun w h => by
  have c0 := h.2 6 _ rfl
  have c1 := h.2 7 _ rfl
  have c2 := h.2 12 _ rfl
  have c3 := h.2 13 _ rfl
  have c4 := h.2 14 _ rfl
  have c5 := h.2 15 _ rfl
  have hr : Hid (rule s 3 = [s.h, s.minH, s.maxH].all highB) := Lib.hid rfl
  generalize rule s 3 = b at *
  have hc : ∀ A w, Holds lenE w w.heap.size A [s.h, s.minH, s.maxH] → Calls Try.prog 54 #[.func (.func 57) #[] #[], .slice A 3 3] w fun e w' => e = .returned (.bool b) ∧ Below w.heap.size w w' := fun A w hm => by
    rw [hr.out]
    exact allLen_any highB 57 (enters_of Try.func57 (by kernel_rfl) rfl) (Lib.hid high_any) A 3 3 _ w hm (Lib.hid rfl) (by omega)
  clear hr h
  go_enter Try.func56, Try.ntmps56
  go_wp2_with fail
  go_still_tail 12, (by kernel_rfl)
  change wpList _ _ _ _ _ w.drew
  have hb0 : Below w.heap.size w w.drew := (Below.refl _ _).drew
  have hh : Hid (w.drew.heap = w.heap) := Lib.hid rfl
  generalize w.drew = w2 at *
  go_wp2_with (go_at_call 54; refine (hc _ _ (Holds.lit (f := lenE) w2 [s.h, s.minH, s.maxH] _)).mono ?_; rintro e w1 ⟨rfl, hb⟩)
  go_ret
  exact ⟨rfl, (hb0.alloc hb0.size _).trans (hb.mono (by have := hb0.size; simp; omega))⟩
theorem rule4 (g : Nat) (s : Style) : Says 58 g s (rule s 4) := fun w h => by
  have hm := h.margins
  go_enter Try.func58, Try.ntmps58
  go_wp2_with fail
  refine (allLen_any marginB 59 (enters_of Try.func59 (by kernel_rfl) rfl) (Lib.hid margin_any) _ 4 4 s.margins _ hm (Lib.hid rfl) (by omega)).mono ?_; rintro e w1 ⟨rfl, hb⟩
  go_wp2_with fail
  go_ret
  exact ⟨rfl, hb⟩
theorem rule5 (g : Nat) (s : Style) : Says 60 g s (rule s 5) := fun w h => by
  have hm := h.borders
  go_enter Try.func60, Try.ntmps60
  go_wp2_with fail
  refine (allI64_any edgeB 62 (enters_of Try.func62 (by kernel_rfl) rfl) (Lib.hid size4_any) _ 4 4 s.borders _ hm (Lib.hid rfl) (by omega)).mono ?_; rintro e w1 ⟨rfl, hb⟩
  go_wp2_with fail
  go_ret
  exact ⟨rfl, hb⟩
theorem rule6 (g : Nat) (s : Style) : Says 63 g s (rule s 6) := fun w h => by
  have hm := h.paddings
  go_enter Try.func63, Try.ntmps63
  go_wp2_with fail
  refine (allI64_any edgeB 62 (enters_of Try.func62 (by kernel_rfl) rfl) (Lib.hid size4_any) _ 4 4 s.paddings _ hm (Lib.hid rfl) (by omega)).mono ?_; rintro e w1 ⟨rfl, hb⟩
  go_wp2_with fail
  go_ret
  exact ⟨rfl, hb⟩
theorem rule7 (g : Nat) (s : Style) : Says 64 g s (rule s 7) := fun w h => by
  have c0 := h.2 32 _ rfl
  go_enter Try.func64, Try.ntmps64
  go_wp2
  go_ret
  exact ⟨rfl, Below.refl _ _⟩
set_option maxRecDepth 100000 in
theorem rule8 (g : Nat) (s : Style) : Says 65 g s (rule s 8) := fun w h => by
  have c0 := h.2 35 _ rfl
  have c1 := h.2 36 _ rfl
  have hr : Hid (rule s 8 = [s.justify, s.items].all choiceB) := Lib.hid rfl
  generalize rule s 8 = b at *
  have hc : ∀ A w, Holds u8E w w.heap.size A [s.justify, s.items] → Calls Try.prog 66 #[.func (.func 67) #[] #[], .slice A 2 2] w fun e w' => e = .returned (.bool b) ∧ Below w.heap.size w w' := fun A w hm => by
    rw [hr.out]
    exact allU8_any choiceB 67 (enters_of Try.func67 (by kernel_rfl) rfl) (Lib.hid choice_any) A 2 2 _ w hm (Lib.hid rfl) (by omega)
  clear hr h
  go_enter Try.func65, Try.ntmps65
  go_wp2_with fail
  go_still_tail 8, (by kernel_rfl)
  change wpList _ _ _ _ _ w.drew
  have hb0 : Below w.heap.size w w.drew := (Below.refl _ _).drew
  have hh : Hid (w.drew.heap = w.heap) := Lib.hid rfl
  generalize w.drew = w2 at *
  go_wp2_with (go_at_call 66; refine (hc _ _ (Holds.lit (f := u8E) w2 [s.justify, s.items] _)).mono ?_; rintro e w1 ⟨rfl, hb⟩)
  go_ret
  exact ⟨rfl, (hb0.alloc hb0.size _).trans (hb.mono (by have := hb0.size; simp; omega))⟩
theorem rule9 (g : Nat) (s : Style) : Says 68 g s (rule s 9) := fun w h => by
  have c0 := h.2 33 _ rfl
  go_enter Try.func68, Try.ntmps68
  go_wp2_with fail
  refine (size4_any _ _).mono ?_; rintro e w1 ⟨rfl, hb⟩
  go_wp2_with fail
  go_ret
  exact ⟨rfl, hb⟩
theorem rule10 (g : Nat) (s : Style) : Says 69 g s (rule s 10) := fun w h => by
  have c0 := h.2 37 _ rfl
  go_enter Try.func69, Try.ntmps69
  go_wp2_with fail
  refine ((between_any _ _ _ _)).mono ?_; rintro e w1 ⟨rfl, rfl⟩
  go_wp2_with fail
  go_ret
  exact ⟨rfl, Below.refl _ _⟩
set_option maxRecDepth 100000 in
theorem rule11 (g : Nat) (s : Style) : Says 71 g s (rule s 11) := fun w h => by
  have c0 := h.2 38 _ rfl
  have c1 := h.2 39 _ rfl
  have hr : Hid (rule s 11 = [s.grow, s.shrink].all factorB) := Lib.hid rfl
  generalize rule s 11 = b at *
  have hc : ∀ A w, Holds intE w w.heap.size A [s.grow, s.shrink] → Calls Try.prog 61 #[.func (.func 72) #[] #[], .slice A 2 2] w fun e w' => e = .returned (.bool b) ∧ Below w.heap.size w w' := fun A w hm => by
    rw [hr.out]
    exact allI64_any factorB 72 (enters_of Try.func72 (by kernel_rfl) rfl) (Lib.hid factor_any) A 2 2 _ w hm (Lib.hid rfl) (by omega)
  clear hr h
  go_enter Try.func71, Try.ntmps71
  go_wp2_with fail
  go_still_tail 8, (by kernel_rfl)
  change wpList _ _ _ _ _ w.drew
  have hb0 : Below w.heap.size w w.drew := (Below.refl _ _).drew
  have hh : Hid (w.drew.heap = w.heap) := Lib.hid rfl
  generalize w.drew = w2 at *
  go_wp2_with (go_at_call 61; refine (hc _ _ (Holds.lit (f := intE) w2 [s.grow, s.shrink] _)).mono ?_; rintro e w1 ⟨rfl, hb⟩)
  go_ret
  exact ⟨rfl, (hb0.alloc hb0.size _).trans (hb.mono (by have := hb0.size; simp; omega))⟩
theorem rule12 (g : Nat) (s : Style) : Says 73 g s (rule s 12) := fun w h => by
  have c0 := h.2 42 _ rfl
  go_enter Try.func73, Try.ntmps73
  go_wp2
  go_ret
  exact ⟨congrArg (fun b => Ending.returned (.bool b)) (show ((s.un : Int) == 0) = decide (s.un = 0) by rw [Bool.eq_iff_iff]; simp), Below.refl _ _⟩
theorem rule13 (g : Nat) (s : Style) : Says 74 g s (rule s 13) := fun w h => by
  have c0 := h.2 42 _ rfl
  go_enter Try.func74, Try.ntmps74
  go_wp2
  go_ret
  exact ⟨congrArg (fun b => Ending.returned (.bool b)) (show decide ((s.un : Int) ≤ 65536) = decide (s.un ≤ 65536) by rw [Bool.eq_iff_iff]; simp; omega), Below.refl _ _⟩
end Go.Proofs.Ytcgblbbadbkdgaa
