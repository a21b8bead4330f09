/-
  Contracts of package table at one type of values: New.
-/
import Derived.Test.YthkngenmdogpjaaTable
namespace Go.Proofs.Ythkngenmdogpjaa
open Go.RowKit

theorem infoI : (Try.prog.info? 2).map (fun i => (i.zero, i.size, i.bytes)) = some (some (.int .i64 0), 1, 8) := by kernel_rfl

set_option maxRecDepth 100000 in
set_option maxHeartbeats 1600000 in
theorem newI_h (n : Nat) (hn : n ≤ 65536) (w : World) :
    Calls Try.prog 23 #[.int .i64 n] w fun e w' => ∃ tb cb vb : Nat, e = .returned (.tuple #[.pointer (some ⟨tb, 0, none⟩), .int .i64 0]) ∧ NewInv intE int0 w n n tb cb vb w' := by
  have hm1 := fun w => make_row (P := Try.prog) 62 78 (.agg #[.int .u32 0, .int .u64 0, .int .u32 0]) 3 24 Try.underlying62 infoCell (by decide) n n _ _ rfl rfl (Nat.le_refl _) (by omega) w
  have hm2 := fun w => make_row (P := Try.prog) 55 2 (.int .i64 0) 1 8 Try.underlying55 infoI (by decide) n n _ _ rfl rfl (Nat.le_refl _) (by omega) w
  go_enter Try.func23, Try.ntmps23
  go_upto_region 3 with fail
  go_cut [4] (fun p wx => ∃ tb cb vb : Nat, p = .pointer (some ⟨tb, 0, none⟩) ∧ Hid (NewInv intE int0 w n 0 tb cb vb wx))
  case first =>
    go_region
    all_goals (go_wp2_with fail)
    · go_meet
      exact ⟨_, _, _, rfl, Lib.hid (new_start1 (f := intE) (z0 := int0) (z := .int .i64 0) w rfl n _ (Nat.mul_one n).symm _ _ _)⟩
    · go_meet
      exact ⟨_, _, _, rfl, Lib.hid (new_start2 (f := intE) (z0 := int0) (z := .int .i64 0) w rfl n _ (Nat.mul_one n).symm _ _ _)⟩
  case rest =>
    obtain ⟨tb, cb, vb, rfl, hI⟩ := hcut
    clear hm1 hm2
    have h0 := hI.out.head.cell 0 _ rfl
    go_wp2_with fail
    go_loopw [23] (fun i wr => ∃ k : Nat, k ≤ n ∧ i = .int .i64 k ∧ Hid (NewInv intE int0 w n k tb cb vb wr)) (fun i _ => n - (intOf i).toNat)
    case atStart => exact ⟨0, Nat.zero_le _, rfl, hI⟩
    case round =>
      clear h0
      obtain ⟨k, hk, rfl, hJ⟩ := hrel
      have h0 := hJ.out.head.cell 0 _ rfl
      by_cases hlt : k < n
      · obtain ⟨c1, f1, c2⟩ := hJ.out.at_ hlt
        have hnx := Lib.hid (hJ.out.step hlt)
        have hi1 : (0 : Int) ≤ (k : Int) := by omega
        have hi2 : (k : Int) < (n : Int) := by omega
        have ka := fun h => group_add cb (k * 3 + 1) wr c1 f1 h
        clear hI hJ
        go_wp2_with (go_at_call 27; refine (ka c2).mono ?_; rintro e w' ⟨rfl, rfl⟩)
        go_roundw
        case rel => exact ⟨k + 1, by omega, by go_num, hnx⟩
        case measure => simp [intOf]; omega
      · have e : k = n := by omega
        subst e
        go_wp2_with fail
        go_ret2
        exact ⟨tb, cb, vb, rfl, hJ.out⟩
end Go.Proofs.Ythkngenmdogpjaa
