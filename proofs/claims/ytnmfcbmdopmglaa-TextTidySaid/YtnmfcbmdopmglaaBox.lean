/-
  A block whose cells are known and may be written: how it stays so.
-/
import Derived.Test.YtnmfcbmdopmglaaCore
import Derived.Laws.AppendOwn
namespace Go.Proofs.Ytnmfcbmdopmglaa
open Go.RowKit

theorem bl_drewN {B : Nat} {a w : World} (h : Below B a w) (n : Nat) : Below B a (w.drewN n) := ⟨h.os, h.tape, h.output, h.size, h.block⟩

/-- Block g holds the cells cs (from its beginning), each of which may be written. -/
structure Box (w : World) (g : Nat) (cs : List Value) : Prop where
  lt : g < w.heap.size
  cell : ∀ i u, cs[i]? = some u → w.cell? ⟨g, i, none⟩ = some u
  free : ∀ i, i < cs.length → w.frozen? ⟨g, i, none⟩ = false

theorem Box.keep {w w' : World} {g B : Nat} {cs : List Value} (h : Box w g cs) (hb : Below B w w') (hg : g < B) : Box w' g cs :=
  ⟨Nat.lt_of_lt_of_le h.lt hb.size, fun i u hu => (hb.cell (p := ⟨g, i, none⟩) hg).trans (h.cell i u hu), fun i hi => (hb.frozen (p := ⟨g, i, none⟩) hg).trans (h.free i hi)⟩
theorem Box.below {w w' : World} {g : Nat} {cs : List Value} (h : Box w g cs) (hb : Below w.heap.size w w') : Box w' g cs := h.keep hb h.lt
theorem Box.alloc {w : World} {g : Nat} {cs : List Value} (h : Box w g cs) (o : Obj) : Box (w.alloc o) g cs := h.below ((Below.refl _ _).alloc (Nat.le_refl _) o)
theorem Box.drew {w : World} {g : Nat} {cs : List Value} (h : Box w g cs) : Box w.drew g cs := ⟨h.lt, h.cell, h.free⟩
theorem Box.drewN {w : World} {g : Nat} {cs : List Value} (h : Box w g cs) (n : Nat) : Box (w.drewN n) g cs := ⟨h.lt, h.cell, h.free⟩
theorem Box.new (w : World) (cs : List Value) (t : TypeId) : Box (w.alloc (.cells cs.toArray t)) w.heap.size cs :=
  ⟨by simp, fun i u hu => by rw [World.cell?_alloc_new]; simpa using hu, fun i hi => by simp⟩
theorem Box.far {w : World} {g : Nat} {cs : List Value} (h : Box w g cs) {p : Addr} (hp : p.block ≠ g) (u : Value) : Box (w.setCell p u) g cs :=
  have hb : (w.setCell p u).heap[g]? = w.heap[g]? := Below.heap_setCell _ _ _ _ (fun e => hp e.symm)
  ⟨by simpa [World.setCell] using h.lt, fun i v hv => (World.cell?_of_block (a := ⟨g, i, none⟩) hb).trans (h.cell i v hv), fun i hi => (World.frozen?_of_block (a := ⟨g, i, none⟩) hb).trans (h.free i hi)⟩
theorem Box.off {w : World} {g q : Nat} {cs : List Value} (h : Box w g cs) (hp : q ≠ g) (i : Nat) (u : Value) : Box (w.setCell ⟨q, i, none⟩ u) g cs := h.far (p := ⟨q, i, none⟩) hp u
theorem Box.set {w : World} {g : Nat} {cs : List Value} (h : Box w g cs) (i : Nat) (u : Value) (hi : i < cs.length) : Box (w.setCell ⟨g, i, none⟩ u) g (cs.set i u) := by
  refine ⟨by simpa [World.setCell] using h.lt, fun j v hv => ?_, fun j hj => (World.frozen?_setCell _ _ _ _).trans (h.free j (by simpa using hj))⟩
  by_cases e : i = j
  · subst e
    rw [List.getElem?_set_self hi] at hv
    cases hv
    exact World.cell?_setCell_same _ _ _ (h.cell i cs[i] (List.getElem?_eq_getElem hi))
  · rw [List.getElem?_set_ne e] at hv
    exact (World.cell?_setCell_other _ _ _ _ (by simp only [ne_eq, Addr.mk.injEq, true_and, and_true]; exact fun h => e h)).trans (h.cell j v hv)
theorem Box.grown {w w' : World} {g : Nat} {cs : List Value} {row : Option Nat} (h : Box w g cs) (hG : w.grownBy w' row) (hr : some g ≠ row) : Box w' g cs :=
  have hb := hG.block g h.lt hr
  ⟨Nat.lt_of_lt_of_le h.lt hG.size, fun i u hu => (World.cell?_of_block (a := ⟨g, i, none⟩) hb).trans (h.cell i u hu), fun i hi => (World.frozen?_of_block (a := ⟨g, i, none⟩) hb).trans (h.free i hi)⟩
theorem Box.four {w : World} {g : Nat} {a b c d : Value} (h : Box w g [a, b, c, d]) :
    w.cell? ⟨g, 0, none⟩ = some a ∧ w.cell? ⟨g, 1, none⟩ = some b ∧ w.cell? ⟨g, 2, none⟩ = some c ∧ w.cell? ⟨g, 3, none⟩ = some d := ⟨h.cell 0 a rfl, h.cell 1 b rfl, h.cell 2 c rfl, h.cell 3 d rfl⟩
theorem Box.four_free {w : World} {g : Nat} {a b c d : Value} (h : Box w g [a, b, c, d]) :
    w.frozen? ⟨g, 0, none⟩ = false ∧ w.frozen? ⟨g, 1, none⟩ = false ∧ w.frozen? ⟨g, 2, none⟩ = false ∧ w.frozen? ⟨g, 3, none⟩ = false := ⟨h.free 0 (by simp), h.free 1 (by simp), h.free 2 (by simp), h.free 3 (by simp)⟩
end Go.Proofs.Ytnmfcbmdopmglaa
