/-
  Slices of numbers that the call has built, as lists.
-/
import Derived.Test.YtflehhepnmcdeaaSum
namespace Go.Proofs.Ytflehhepnmcdeaa
open Go.RowKit

theorem ints_lit (w : World) (zs : List Int) (t : TypeId) (hz : ∀ z ∈ zs, I64 z) :
    Ints (w.alloc (.cells (zs.map (Value.int .i64)).toArray t)) (w.alloc (.cells (zs.map (Value.int .i64)).toArray t)).heap.size (some ⟨w.heap.size, 0, none⟩) zs := by
  refine ⟨hz, fun _ => ⟨_, rfl, by simp, fun i hi => ?_⟩⟩
  have e : (Addr.add ⟨w.heap.size, 0, none⟩ i) = ⟨w.heap.size, i, none⟩ := by
    unfold Addr.add; by_cases h : i = 0 <;> simp [h]
  rw [e, World.cell?_alloc_new]
  simp [List.getD, List.getElem?_eq_getElem hi]
end Go.Proofs.Ytflehhepnmcdeaa
