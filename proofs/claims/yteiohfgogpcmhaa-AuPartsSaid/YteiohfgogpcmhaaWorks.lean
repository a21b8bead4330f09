/-
  The contract of the statements' anchor: it answers true; of what was in memory nothing changes.
-/
import Derived.Test.YteiohfgogpcmhaaSum
namespace Go.Proofs.Yteiohfgogpcmhaa
open Go.RowKit

theorem withins : withinI 5 4 3 = 4 := by decide
theorem cut_top : cutI 1099511627777 = 1099511627776 ∧ farI 1099511627777 = true := by decide
theorem sum_few : cutI [1, 2, -4].sum = -1 ∧ farI [1, 2, -4].sum = false := by decide
theorem md_few : cutI (qI (-7) 3 2) = -11 ∧ farI (qI (-7) 3 2) = false := by decide
theorem part_few : cutI (qI 600 3333 10000) = 199 ∧ farI (qI 600 3333 10000) = false := by decide

set_option maxRecDepth 100000 in
theorem works_any (w : World) :
    Calls Try.prog 15 #[] w fun e w' => e = .returned (.bool true) ∧ Qt w.heap.size w w' := by
  have hints : Hid (Ints (w.alloc (Obj.cells #[Value.int IntKind.i64 1, Value.int IntKind.i64 2, Value.int IntKind.i64 (-4)] 2)) (w.alloc (Obj.cells #[Value.int IntKind.i64 1, Value.int IntKind.i64 2, Value.int IntKind.i64 (-4)] 2)).heap.size (some ⟨w.heap.size, 0, none⟩) [1, 2, -4]) := by
    refine Lib.hid ⟨?_, fun _ => ⟨_, rfl, by simp, ?_⟩⟩
    · intro z hz
      simp only [List.mem_cons, List.not_mem_nil, or_false] at hz
      unfold I64
      omega
    · intro i hi
      simp only [List.length_cons, List.length_nil] at hi
      rcases (show i = 0 ∨ i = 1 ∨ i = 2 by omega) with rfl | rfl | rfl <;> simp [Addr.add, World.cell?_alloc_new]
  go_enter Try.func15, Try.ntmps15
  go_wp2_with fail
  refine (cut_any _ _).mono ?_; rintro e w' ⟨rfl, rfl⟩; rw [cut_top.1, cut_top.2]
  go_wp2_with fail
  refine (sum_any _ _ _ _ _ hints.out (Lib.hid rfl) (by decide)).mono ?_
  rintro e w1 ⟨rfl, hq⟩; rw [sum_few.1, sum_few.2]
  have hq1 := Lib.hid (Qt.trans ((Qt.refl _ w).alloc (Nat.le_refl _) _ _) (hq.mono (by simp)))
  clear hq
  go_wp2_with fail
  refine (muldiv_any (-7) 3 2 (by omega) (by omega) (by omega) (by omega) (by omega) (by omega) (by omega) _).mono ?_
  rintro e w2 ⟨rfl, m, rfl⟩; rw [md_few.1, md_few.2]
  go_wp2_with fail
  refine (part_any 600 3333 (by omega) (by omega) (by omega) (by omega) _).mono ?_
  rintro e w2 ⟨rfl, m2, rfl⟩; rw [part_few.1, part_few.2]
  go_wp2_with fail
  refine (within_any 5 4 3 _).mono ?_
  rintro e w2 ⟨rfl, rfl⟩; rw [withins]
  go_wp2_with fail
  go_ret
  exact ⟨rfl, hq1.out.drewN _⟩
end Go.Proofs.Yteiohfgogpcmhaa
