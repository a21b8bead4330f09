/-
  What every text here stands on: worlds in which nothing turns below a block; slices of numbers; what a law's proof ends in.
-/
import Derived.Test.YtnmfcbmdopmglaaRows
import Derived.WalkKit
import Derived.Lib.Hide
import Derived.RowKit3
import Derived.Deep.Draws
namespace Go.Proofs.Ytnmfcbmdopmglaa
open Go.RowKit

/-- From w to w' nothing turns below block B, and no mark of a cell that may not be written. -/
def Qt (B : Nat) (w w' : World) : Prop := Below B w w' ∧ ∀ a, w'.frozen? a = w.frozen? a
theorem Qt.refl (B : Nat) (w : World) : Qt B w w := ⟨Below.refl _ _, fun _ => rfl⟩
theorem Qt.trans {B : Nat} {a b c : World} (h : Qt B a b) (k : Qt B b c) : Qt B a c := ⟨h.1.trans k.1, fun x => (k.2 x).trans (h.2 x)⟩
theorem Qt.mono {B C : Nat} {a b : World} (h : Qt B a b) (hC : C ≤ B) : Qt C a b := ⟨h.1.mono hC, h.2⟩
theorem Qt.alloc {B : Nat} {a w : World} (h : Qt B a w) (hB : B ≤ w.heap.size) (c : Array Value) (t : TypeId) : Qt B a (w.alloc (.cells c t)) :=
  ⟨h.1.alloc hB _, fun x => (frozen?_alloc_cells _ _ _ x).trans (h.2 x)⟩
theorem Qt.setCell {B : Nat} {a w : World} (h : Qt B a w) {p : Addr} (hp : B ≤ p.block) (u : Value) : Qt B a (w.setCell p u) :=
  ⟨h.1.setCell hp u, fun x => (World.frozen?_setCell _ _ _ _).trans (h.2 x)⟩
theorem Qt.drewN {B : Nat} {a w : World} (h : Qt B a w) (n : Nat) : Qt B a (w.drewN n) := ⟨⟨h.1.os, h.1.tape, h.1.output, h.1.size, h.1.block⟩, h.2⟩
theorem Qt.drew {B : Nat} {a w : World} (h : Qt B a w) : Qt B a w.drew := ⟨h.1.drew, h.2⟩
theorem Qt.grown {w w' : World} (h : Qt w.heap.size w w') : Grown w w' := ⟨h.1.frame _, h.2, h.1.size⟩

theorem ret_int {k : IntKind} {a b : Int} (h : a = b) : Ending.returned (.int k a) = .returned (.int k b) := by rw [h]

/-- Whole numbers of 64 bits. -/
def I64 (x : Int) : Prop := -9223372036854775808 ≤ x ∧ x ≤ 9223372036854775807

/-- What the slice's address leads to: the numbers zs. -/
def Ints (w : World) (B : Nat) (A : Option Addr) (zs : List Int) : Prop :=
  (∀ z ∈ zs, I64 z) ∧ (0 < zs.length → ∃ a, A = some a ∧ a.block < B ∧ ∀ i, i < zs.length → w.cell? (a.add i) = some (.int .i64 (zs.getD i 0)))

theorem add_block (a : Addr) (i : Nat) : (a.add i).block = a.block := by unfold Addr.add; split <;> rfl

theorem Ints.keep {w w' : World} {B : Nat} {A : Option Addr} {zs : List Int} (h : Ints w B A zs) (hb : Below B w w') : Ints w' B A zs :=
  ⟨h.1, fun hl => by
    obtain ⟨a, e, hB, hc⟩ := h.2 hl
    exact ⟨a, e, hB, fun i hi => (hb.cell (p := a.add i) (by rw [add_block]; exact hB)).trans (hc i hi)⟩⟩

end Go.Proofs.Ytnmfcbmdopmglaa
