/-
  Styles as values; contracts of package style's small functions on one length or number.
-/
import Derived.Test.YtnmfcbmdopmglaaAuOf
import Derived.Test.YtnmfcbmdopmglaaHolds
namespace Go.Proofs.Ytnmfcbmdopmglaa
open Go.RowKit

/-- A length of a style. -/
structure LenV where
  k : Int
  n : Int
def lenE (l : LenV) : List Value := [.int .u8 l.k, .int .i64 l.n]
theorem lenE_len (l : LenV) : (lenE l).length = 2 := rfl
theorem lenE_one (l : LenV) : ∀ u ∈ lenE l, u.oneCell' = true := by intro u hu; simp [lenE] at hu; rcases hu with rfl | rfl <;> rfl
/-- A small number as an element. -/
def u8E (z : Int) : List Value := [.int .u8 z]
theorem u8E_len (z : Int) : (u8E z).length = 1 := rfl
/-- As a value of its own. -/
abbrev lenV (l : LenV) : Value := .agg #[.int .u8 l.k, .int .i64 l.n]

def betweenB (x l m : Int) : Bool := decide (l ≤ x) && decide (x ≤ m)
def mayB (l : LenV) (px part : Int) : Bool :=
  if l.k = 0 then decide (l.n = 0) else if l.k = 1 then betweenB l.n px 1099511627776 else if l.k = 2 then betweenB l.n part 100000 else false
def wideB (l : LenV) : Bool := mayB l 0 0
def highB (l : LenV) : Bool := decide (l.k ≠ 2) && wideB l
def marginB (l : LenV) : Bool := mayB l (-1099511627776) (-100000)
def edgeB (x : Int) : Bool := betweenB x 0 1099511627776
def factorB (x : Int) : Bool := betweenB x 0 60
def choiceB (x : Int) : Bool := decide (x ≤ 3)

theorem between_any (x l m : Int) (w : World) :
    Calls Try.prog 86 #[.int .i64 x, .int .i64 l, .int .i64 m] w fun e w' => e = .returned (.bool (betweenB x l m)) ∧ w = w' := by
  unfold betweenB
  by_cases a : l ≤ x
  · have a' : decide (l ≤ x) = true := by simpa using a
    rw [a', Bool.true_and]
    go_enter Try.func86, Try.ntmps86
    go_wp2
    go_ret
    exact ⟨rfl, rfl⟩
  · have a' : decide (l ≤ x) = false := by simpa using a
    rw [a', Bool.false_and]
    go_enter Try.func86, Try.ntmps86
    go_wp2
    go_ret
    exact ⟨rfl, rfl⟩

theorem may_any (l : LenV) (px part : Int) (w : World) :
    Calls Try.prog 94 #[lenV l, .int .i64 px, .int .i64 part] w fun e w' => e = .returned (.bool (mayB l px part)) ∧ Below w.heap.size w w' := by
  obtain ⟨k, n⟩ := l
  unfold mayB
  simp only
  by_cases h0 : k = 0
  · subst h0
    rw [if_pos rfl]
    go_enter Try.func94, Try.ntmps94
    go_wp2
    go_ret
    exact ⟨by rfl, (Below.refl _ _).alloc (Nat.le_refl _) _⟩
  · rw [if_neg h0]
    have h0' : (k == 0) = false := by simpa using h0
    by_cases h1 : k = 1
    · subst h1
      rw [if_pos rfl]
      go_enter Try.func94, Try.ntmps94
      go_wp2_with (go_at_call 86; refine (between_any _ _ _ _).mono ?_; rintro e w' ⟨rfl, rfl⟩)
      go_ret
      exact ⟨rfl, (Below.refl _ _).alloc (Nat.le_refl _) _⟩
    · rw [if_neg h1]
      have h1' : (k == 1) = false := by simpa using h1
      by_cases h2 : k = 2
      · subst h2
        rw [if_pos rfl]
        go_enter Try.func94, Try.ntmps94
        go_wp2_with (go_at_call 86; refine (between_any _ _ _ _).mono ?_; rintro e w' ⟨rfl, rfl⟩)
        go_ret
        exact ⟨rfl, (Below.refl _ _).alloc (Nat.le_refl _) _⟩
      · rw [if_neg h2]
        have h2' : (k == 2) = false := by simpa using h2
        go_enter Try.func94, Try.ntmps94
        go_wp2
        go_ret
        exact ⟨rfl, (Below.refl _ _).alloc (Nat.le_refl _) _⟩

theorem wide_any (l : LenV) (w : World) : Calls Try.prog 71 #[lenV l] w fun e w' => e = .returned (.bool (wideB l)) ∧ Below w.heap.size w w' := by
  have hm := fun w => may_any l 0 0 w
  go_enter Try.func71, Try.ntmps71
  go_wp2_with (go_at_call 94; refine (hm _).mono ?_; rintro e w' ⟨rfl, hb⟩)
  go_ret
  exact ⟨rfl, ((Below.refl _ _).alloc (Nat.le_refl _) _).trans (hb.mono (by simp))⟩

theorem high_any (l : LenV) (w : World) : Calls Try.prog 73 #[lenV l] w fun e w' => e = .returned (.bool (highB l)) ∧ Below w.heap.size w w' := by
  unfold highB
  have hm := fun w => wide_any l w
  obtain ⟨k, n⟩ := l
  by_cases h2 : k = 2
  · subst h2
    rw [show decide ((2 : Int) ≠ 2) = false from rfl, Bool.false_and]
    go_enter Try.func73, Try.ntmps73
    go_wp2
    go_ret
    exact ⟨rfl, (Below.refl _ _).alloc (Nat.le_refl _) _⟩
  · rw [show decide (k ≠ 2) = true by simpa using h2, Bool.true_and]
    have h2' : (k != 2) = true := by simpa using h2
    go_enter Try.func73, Try.ntmps73
    go_wp2_with (go_at_call 71; refine (hm _).mono ?_; rintro e w' ⟨rfl, hb⟩)
    go_ret
    exact ⟨rfl, ((Below.refl _ _).alloc (Nat.le_refl _) _).trans (hb.mono (by simp))⟩

theorem margin_any (l : LenV) (w : World) : Calls Try.prog 75 #[lenV l] w fun e w' => e = .returned (.bool (marginB l)) ∧ Below w.heap.size w w' := by
  have hm := fun w => may_any l (-1099511627776) (-100000) w
  go_enter Try.func75, Try.ntmps75
  go_wp2_with (go_at_call 94; refine (hm _).mono ?_; rintro e w' ⟨rfl, hb⟩)
  go_ret
  exact ⟨rfl, ((Below.refl _ _).alloc (Nat.le_refl _) _).trans (hb.mono (by simp))⟩

theorem size4_any (x : Int) (w : World) : Calls Try.prog 78 #[.int .i64 x] w fun e w' => e = .returned (.bool (edgeB x)) ∧ Below w.heap.size w w' := by
  go_enter Try.func78, Try.ntmps78
  go_wp2_with (go_at_call 86; refine (between_any _ _ _ _).mono ?_; rintro e w' ⟨rfl, rfl⟩)
  go_ret
  exact ⟨rfl, Below.refl _ _⟩
theorem factor_any (x : Int) (w : World) : Calls Try.prog 88 #[.int .i64 x] w fun e w' => e = .returned (.bool (factorB x)) ∧ Below w.heap.size w w' := by
  go_enter Try.func88, Try.ntmps88
  go_wp2_with (go_at_call 86; refine (between_any _ _ _ _).mono ?_; rintro e w' ⟨rfl, rfl⟩)
  go_ret
  exact ⟨rfl, Below.refl _ _⟩
theorem choice_any (x : Int) (w : World) : Calls Try.prog 83 #[.int .u8 x] w fun e w' => e = .returned (.bool (choiceB x)) ∧ Below w.heap.size w w' := by
  go_enter Try.func83, Try.ntmps83
  go_wp2
  go_ret
  exact ⟨rfl, Below.refl _ _⟩
end Go.Proofs.Ytnmfcbmdopmglaa
