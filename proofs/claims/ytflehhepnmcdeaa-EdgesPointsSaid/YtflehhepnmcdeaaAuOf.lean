/-
  Contracts of package au's small functions: Cut, size, bound, Within: what each answers for every input; no memory is made or changed.
-/
import Derived.Test.YtflehhepnmcdeaaRows
import Derived.WalkKit
import Derived.Lib.Hide
import Derived.RowKit3
import Derived.Deep.Draws
namespace Go.Proofs.Ytflehhepnmcdeaa
open Go.RowKit

/-- A whole number, cut to a length. -/
def cutI (x : Int) : Int := if 1099511627776 < x then 1099511627776 else if x < -1099511627776 then -1099511627776 else x
/-- Is it beyond? -/
def farI (x : Int) : Bool := decide (1099511627776 < x ∨ x < -1099511627776)
def sizeI (x : Int) : Int := if x < 0 then -x else x
def boundI (b : Bool) : Int := if b then -1099511627776 else 1099511627776
def withinI (x least most : Int) : Int := max (min x most) least

/-- From w to w' nothing turns below block B, and no mark of a cell that may not be written. -/
def Qt (B : Nat) (w w' : World) : Prop := Below B w w' ∧ ∀ a, w'.frozen? a = w.frozen? a
theorem Qt.refl (B : Nat) (w : World) : Qt B w w := ⟨Below.refl _ _, fun _ => rfl⟩
theorem Qt.trans {B : Nat} {a b c : World} (h : Qt B a b) (k : Qt B b c) : Qt B a c := ⟨h.1.trans k.1, fun x => (k.2 x).trans (h.2 x)⟩
theorem Qt.mono {B C : Nat} {a b : World} (h : Qt B a b) (hC : C ≤ B) : Qt C a b := ⟨h.1.mono hC, h.2⟩
theorem Qt.alloc {B : Nat} {a w : World} (h : Qt B a w) (hB : B ≤ w.heap.size) (c : Array Value) (t : TypeId) : Qt B a (w.alloc (.cells c t)) :=
  ⟨h.1.alloc hB _, fun x => (frozen?_alloc_cells _ _ _ x).trans (h.2 x)⟩
theorem Qt.setCell {B : Nat} {a w : World} (h : Qt B a w) {p : Addr} (hp : B ≤ p.block) (u : Value) : Qt B a (w.setCell p u) :=
  ⟨h.1.setCell hp u, fun x => (World.frozen?_setCell _ _ _ _).trans (h.2 x)⟩
theorem Qt.drewN {B : Nat} {a w : World} (h : Qt B a w) (n : Nat) : Qt B a (w.drewN n) := ⟨⟨h.1.os, h.1.tape, h.1.output, h.1.size, h.1.block⟩, h.2⟩
theorem Qt.drew {B : Nat} {a w : World} (h : Qt B a w) : Qt B a w.drew := ⟨h.1.drew, h.2⟩
theorem Qt.grown {w w' : World} (h : Qt w.heap.size w w') : Grown w w' := ⟨h.1.frame _, h.2, h.1.size⟩

theorem ret_int {k : IntKind} {a b : Int} (h : a = b) : Ending.returned (.int k a) = .returned (.int k b) := by rw [h]

theorem cut_any (x : Int) (w : World) :
    Calls Try.prog 41 #[.int .i64 x] w fun e w' => e = .returned (.tuple #[.int .i64 (cutI x), .bool (farI x)]) ∧ w = w' := by
  have h1 : 1099511627776 < x → cutI x = 1099511627776 ∧ farI x = true := fun h => ⟨by simp [cutI, h], by simp [farI, h]⟩
  have h2 : x < -1099511627776 → cutI x = -1099511627776 ∧ farI x = true := fun h => ⟨by simp [cutI, h]; omega, by simp [farI, h]⟩
  have h3 : ¬ 1099511627776 < x → ¬ x < -1099511627776 → cutI x = x ∧ farI x = false := fun h k => ⟨by simp [cutI, h, k], by simp [farI]; omega⟩
  by_cases a : 1099511627776 < x
  · obtain ⟨e1, e2⟩ := h1 a
    rw [e1, e2]; clear h1 h2 h3 e1 e2
    go_enter Try.func41, Try.ntmps41
    go_wp2
    go_ret2
    exact ⟨rfl, rfl⟩
  · by_cases b : x < -1099511627776
    · obtain ⟨e1, e2⟩ := h2 b
      rw [e1, e2]; clear h1 h2 h3 e1 e2
      go_enter Try.func41, Try.ntmps41
      go_wp2
      go_ret2
      exact ⟨rfl, rfl⟩
    · obtain ⟨e1, e2⟩ := h3 a b
      rw [e1, e2]; clear h1 h2 h3 e1 e2
      go_enter Try.func41, Try.ntmps41
      go_wp2
      go_ret2
      exact ⟨rfl, rfl⟩

theorem bound_any (b : Bool) (w : World) :
    Calls Try.prog 56 #[.bool b] w fun e w' => e = .returned (.int .i64 (boundI b)) ∧ w = w' := by
  cases b
  · show Calls _ _ _ _ fun e w' => e = .returned (.int .i64 1099511627776) ∧ w = w'
    go_enter Try.func56, Try.ntmps56
    go_wp2
    go_ret
    exact ⟨rfl, rfl⟩
  · show Calls _ _ _ _ fun e w' => e = .returned (.int .i64 (-1099511627776)) ∧ w = w'
    go_enter Try.func56, Try.ntmps56
    go_wp2
    go_ret
    exact ⟨rfl, rfl⟩
end Go.Proofs.Ytflehhepnmcdeaa
