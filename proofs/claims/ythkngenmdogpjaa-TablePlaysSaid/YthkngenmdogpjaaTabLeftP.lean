/-
  Contract of package table at one type of values: Left.
-/
import Derived.Test.YthkngenmdogpjaaTabGetP
namespace Go.Proofs.Ythkngenmdogpjaa
open Go.RowKit

set_option maxRecDepth 100000 in
set_option maxHeartbeats 1600000 in
theorem leftP_h (tb cb vb : Nat) (l : List (Option Pair)) (w : World) (h : Hid (Tab pairE pair0 w tb cb vb l)) (hn : l.length ≤ 65536) :
    Calls Try.prog 15 #[.pointer (some ⟨tb, 0, none⟩)] w fun e w' => e = .returned (.int .i64 (leftN l)) ∧ w = w' := by
  have h0 := h.out.head.cell 0 _ rfl
  obtain ⟨n, hl⟩ : ∃ n, Hid (l.length = n) := ⟨_, Lib.hid rfl⟩
  rw [hl.out] at h0
  have hnn : n ≤ 65536 := by rw [← hl.out]; exact hn
  clear hn
  go_enter Try.func15, Try.ntmps15
  go_wp2_with fail
  go_loopw [3, 12] (fun c i wr => ∃ k : Nat, k ≤ n ∧ i = .int .i64 k ∧ c = .int .i64 (leftN (l.take k)) ∧ w = wr) (fun _ i _ => n - (intOf i).toNat)
  case atStart => exact ⟨0, Nat.zero_le _, rfl, by simp [leftN], rfl⟩
  case round =>
    obtain ⟨k, hk, rfl, rfl, rfl⟩ := hrel
    by_cases hlt : k < n
    · obtain ⟨o, ho⟩ : ∃ o, l[k]? = some o := ⟨_, List.getElem?_eq_getElem (by rw [hl.out]; exact hlt)⟩
      have hb := Lib.hid (leftN_le (l.take k))
      have hs := Lib.hid (leftN_succ ho)
      have i1 : (0 : Int) ≤ (k : Int) := by omega
      have i2 : (k : Int) < (n : Int) := by omega
      cases o with
      | none =>
        have c0 := (h.out.at_ ho).1 0 _ rfl
        simp only [Nat.add_zero] at c0
        have kl := load32_any cb (k * 3) 0 w c0
        go_wp2_with (go_at_call 33; refine kl.mono ?_; rintro e w' ⟨rfl, rfl⟩)
        go_roundw
        case rel =>
          refine ⟨k + 1, by omega, by go_num, ?_, trivial⟩
          have h1 := hs.out
          have h2 := hb.out
          simp only [List.length_take, leftOf] at h1 h2
          rw [h1]
          exact congrArg (Value.int .i64) (by rw [wrap64_small (by omega) (by omega)]; omega)
        case measure => simp [intOf]; omega
      | some x =>
        have c0 := (h.out.at_ ho).1 0 _ rfl
        simp only [Nat.add_zero] at c0
        have kl := load32_any cb (k * 3) 2 w c0
        go_wp2_with (go_at_call 33; refine kl.mono ?_; rintro e w' ⟨rfl, rfl⟩)
        go_roundw
        case rel =>
          refine ⟨k + 1, by omega, by go_num, ?_, trivial⟩
          rw [hs.out]
          simp [leftOf]
        case measure => simp [intOf]; omega
    · have e : k = n := by omega
      subst e
      have ht : Hid (l.take k = l) := Lib.hid (List.take_of_length_le (by rw [hl.out]; exact Nat.le_refl _))
      rw [ht.out]
      clear ht
      go_wp2_with fail
      go_ret
      exact ⟨rfl, rfl⟩
end Go.Proofs.Ythkngenmdogpjaa
