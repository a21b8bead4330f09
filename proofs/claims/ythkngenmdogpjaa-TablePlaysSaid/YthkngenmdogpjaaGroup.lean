/-
  Contracts of sync.WaitGroup, in the run of one goroutine: Add of one to a group of nobody; Done, in a group of one; Wait, in a group of nobody.
-/
import Derived.Test.YthkngenmdogpjaaSync
import Derived.Test.YthkngenmdogpjaaDeferMark
namespace Go.Proofs.Ythkngenmdogpjaa
open Go.RowKit

theorem sRead_conv (a : Addr) (v : Value) (w : World) (h : w.cell? a = some v) : (convert 99 93 (.pointer (some a))).run Try.prog w = .ok (.pointer (some a)) w :=
  run_convert_to_unsafe Try.underlying99 Try.underlying93 (by kernel_rfl) h
theorem sGroup_conv (a : Addr) (v : Value) (w : World) (h : w.cell? a = some v) : (convert 91 93 (.pointer (some a))).run Try.prog w = .ok (.pointer (some a)) w :=
  run_convert_to_unsafe Try.underlying91 Try.underlying93 (by kernel_rfl) h

theorem bits1 : bits BinOp.and IntKind.u64 4294967296 2147483648 = 0 := by decide
theorem bits2 : bits BinOp.and IntKind.u64 4294967296 2147483647 % 4294967296 = 0 := by decide
theorem bits3 : bits BinOp.and IntKind.u64 0 2147483648 = 0 := by decide
theorem bits4 : bits BinOp.and IntKind.u64 0 2147483647 % 4294967296 = 0 := by decide
theorem last_mark {fn : Func} {a : Act} {R : Ending → World → Prop} {w : World} (hd : a.defers = [{ target := .fn (.func 39) #[], args := #[] }]) (hr : fn.results = #[]) (h : R (.returned (.tuple #[])) w) :
    bodyPostE Try.prog fn R Exit.ret a w := by
  have k2 := sEnable
  show Outs _ _ _ _ a.defers w
  rw [hd]
  exact ⟨_, _, .tuple #[], w, rfl, by simp [invoke, k2], _, results_none hr _ _ _, h⟩
theorem last_mark' {fn : Func} {a : Act} {R : Ending → World → Prop} {w : World} (hd : a.defers = [{ target := .fn (.func 39) #[], args := #[] }]) (hr : fn.results = #[]) (h : R (.returned (.tuple #[])) w) :
    bodyPostE Try.prog fn R Exit.normal a w := last_mark hd hr h

set_option maxRecDepth 100000 in
set_option maxHeartbeats 1600000 in
theorem group_add (b o : Nat) (w : World) (h : w.cell? ⟨b, o, none⟩ = some (.int .u64 0)) (f : w.frozen? ⟨b, o, none⟩ = false) (h2 : w.cell? ⟨b, o + 1, none⟩ = some (.int .u32 0)) :
    Calls Try.prog 27 #[.pointer (some ⟨b, o, none⟩), .int .i64 1] w fun e w' => e = .returned (.tuple #[]) ∧ w.setCell ⟨b, o, none⟩ (.int .u64 4294967296) = w' := by
  have k1 := sDisable
  have k3 := sRead
  have k4 := sBubble
  have k5 := sRead_conv ⟨b, o + 1, none⟩ (.int .u32 0) (w.setCell ⟨b, o, none⟩ (.int .u64 4294967296)) (by simp [go_sem, h2])
  have ka := add64_any b o 0 4294967296 4294967296 w h f (by decide)
  have b1 := bits1
  have b2 := bits2
  refine calls_of_wp_mark Try.func27 rfl ?_
  simp only [Try.ntmps27, List.size_toArray, List.length_cons, List.length_nil, Nat.reduceAdd, Nat.reduceSub, Array.replicate_succ, Array.replicate_zero, List.push_toArray, List.append_toArray, List.nil_append, List.cons_append]
  go_wp2_with (go_at_call 44; refine ka.mono ?_; rintro e w' ⟨rfl, rfl⟩)
  exact last_mark rfl rfl ⟨rfl, rfl⟩

set_option maxRecDepth 100000 in
set_option maxHeartbeats 1600000 in
theorem group_less (b o : Nat) (w : World) (h : w.cell? ⟨b, o, none⟩ = some (.int .u64 4294967296)) (f : w.frozen? ⟨b, o, none⟩ = false) :
    Calls Try.prog 27 #[.pointer (some ⟨b, o, none⟩), .int .i64 (-1)] w fun e w' => e = .returned (.tuple #[]) ∧ w.setCell ⟨b, o, none⟩ (.int .u64 0) = w' := by
  have k1 := sDisable
  have k3 := sMerge
  have k4 := sBubble
  have k5 := sGroup_conv ⟨b, o, none⟩ _ w h
  have ka := add64_any b o 4294967296 18446744069414584320 0 w h f (by decide)
  have b1 := bits3
  have b2 := bits4
  refine calls_of_wp_mark Try.func27 rfl ?_
  simp only [Try.ntmps27, List.size_toArray, List.length_cons, List.length_nil, Nat.reduceAdd, Nat.reduceSub, Array.replicate_succ, Array.replicate_zero, List.push_toArray, List.append_toArray, List.nil_append, List.cons_append]
  go_wp2_with (go_at_call 44; refine ka.mono ?_; rintro e w' ⟨rfl, rfl⟩)
  exact last_mark rfl rfl ⟨rfl, rfl⟩

theorem group_done (b o : Nat) (w : World) (h : w.cell? ⟨b, o, none⟩ = some (.int .u64 4294967296)) (f : w.frozen? ⟨b, o, none⟩ = false) :
    Calls Try.prog 32 #[.pointer (some ⟨b, o, none⟩)] w fun e w' => e = .returned (.tuple #[]) ∧ w.setCell ⟨b, o, none⟩ (.int .u64 0) = w' := by
  go_enter Try.func32, Try.ntmps32
  go_wp2_with (go_at_call 27; refine (group_less b o w h f).mono ?_; rintro e w' ⟨rfl, rfl⟩)
  go_end0
  exact ⟨rfl, rfl⟩

set_option maxRecDepth 100000 in
theorem group_wait (b o : Nat) (w : World) (h : w.cell? ⟨b, o, none⟩ = some (.int .u64 0)) :
    Calls Try.prog 30 #[.pointer (some ⟨b, o, none⟩)] w fun e w' => e = .returned (.tuple #[]) ∧ w = w' := by
  have k1 := sDisable
  have k2 := sEnable
  have k3 := sAcquire
  have k5 := sGroup_conv ⟨b, o, none⟩ _ w h
  have ka := load64_any b o 0 w h
  have b1 := bits3
  have b2 := bits4
  go_enter Try.func30, Try.ntmps30
  go_wp2_with fail
  refine wp_loop_rounds 1 ?_
  rw [rounds_succ]
  go_wp2_with (go_at_call 46; refine ka.mono ?_; rintro e w' ⟨rfl, rfl⟩)
  refine bodyPost_ret (results_none rfl _ _ _) rfl ?_
  exact ⟨rfl, rfl⟩
end Go.Proofs.Ythkngenmdogpjaa
