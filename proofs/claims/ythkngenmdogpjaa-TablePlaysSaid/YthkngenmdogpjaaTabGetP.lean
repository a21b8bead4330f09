/-
  Contract of package table at one type of values: Get.
-/
import Derived.Test.YthkngenmdogpjaaTabHasP
namespace Go.Proofs.Ythkngenmdogpjaa
open Go.RowKit

set_option maxRecDepth 100000 in
set_option maxHeartbeats 1600000 in
theorem getP_h (tb cb vb : Nat) (l : List (Option Pair)) (i : Int) (w : World) (h : Hid (Tab pairE pair0 w tb cb vb l)) :
    Calls Try.prog 13 #[.pointer (some ⟨tb, 0, none⟩), .int .i64 i] w fun e w' => e = .returned (.tuple #[
      .agg #[.int .i64 ((slot l i).join.getD pair0).a, .string ((slot l i).join.getD pair0).b],
      .int .i64 (getE (slot l i))]) ∧ Below w.heap.size w w' := by
  have hT : Hid (Tab pairE pair0 (w.alloc (.cells #[.int .i64 0, .string ByteArray.empty] 30)) tb cb vb l) := Lib.hid (h.out.below ((Below.refl _ _).alloc (Nat.le_refl _) _))
  have hB : Hid (Below w.heap.size w (w.alloc (.cells #[.int .i64 0, .string ByteArray.empty] 30))) := Lib.hid ((Below.refl _ _).alloc (Nat.le_refl _) _)
  have kh := hasP_h tb cb vb l i _ hT
  rcases slot_cases l i with ⟨e, hi⟩ | ⟨k, o, rfl, hk, e, hl⟩
  · rw [e] at kh ⊢
    simp only [Option.isSome_none, Option.join_none, Option.getD_none, getE, pair0] at kh ⊢
    clear h hT e hi
    go_enter Try.func13, Try.ntmps13
    go_wp2_with (go_at_call 28; refine kh.mono ?_; rintro e w' ⟨rfl, rfl⟩)
    exact bodyPost_ret (v := .tuple #[.agg #[.int .i64 0, .string ByteArray.empty], .int .i64 1]) (by simp [results, Try.results13, go_sem]) rfl ⟨rfl, hB.out⟩
  · obtain ⟨hc, hf⟩ := hT.out.at_ hk
    obtain ⟨hv, hg⟩ := hT.out.val pairE_len hk
    have h0 := hT.out.head.cell 0 _ rfl
    have h1 := hT.out.head.cell 1 _ rfl
    have i1 : (0 : Int) ≤ (k : Int) := by omega
    have i2 : (k : Int) < (l.length : Int) := by omega
    rw [e] at kh ⊢
    generalize l.length = n at *
    cases o with
    | none =>
      have c0 := hc 0 _ rfl
      simp only [Option.isSome_some, Option.join_some, Option.getD_none, getE, pair0] at kh ⊢
      have kl := load32_any cb (k * 3) 0 _ c0
      clear h hT e hk hc hf hv hg hl
      go_enter Try.func13, Try.ntmps13
      go_wp2_with (first | (go_at_call 28; refine kh.mono ?_; rintro e w' ⟨rfl, rfl⟩) | (go_at_call 33; refine kl.mono ?_; rintro e w' ⟨rfl, rfl⟩))
      exact bodyPost_ret (v := .tuple #[.agg #[.int .i64 0, .string ByteArray.empty], .int .i64 4]) (by simp [results, Try.results13, go_sem]) rfl ⟨rfl, hB.out⟩
    | some x =>
      have c0 := hc 0 _ rfl
      have v0 := hv 0 _ rfl
      have v1 := hv 1 _ rfl
      simp only [Option.isSome_some, Option.join_some, Option.getD_some, getE] at kh ⊢
      simp only [Option.getD_some, Nat.add_zero] at v0
      simp only [Option.getD_some] at v1
      simp only [Nat.add_zero] at c0
      have kl := load32_any cb (k * 3) 2 _ c0
      clear h hT e hk hc hf hv hg hl
      go_enter Try.func13, Try.ntmps13
      go_wp2_with (first | (go_at_call 28; refine kh.mono ?_; rintro e w' ⟨rfl, rfl⟩) | (go_at_call 33; refine kl.mono ?_; rintro e w' ⟨rfl, rfl⟩))
      exact bodyPost_ret (v := .tuple #[.agg #[.int .i64 x.a, .string x.b], .int .i64 0]) (by simp [results, Try.results13, go_sem]) rfl ⟨rfl, (Below.refl _ _).alloc (Nat.le_refl _) _⟩
end Go.Proofs.Ythkngenmdogpjaa
