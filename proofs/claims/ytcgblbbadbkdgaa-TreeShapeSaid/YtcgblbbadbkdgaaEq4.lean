/-
  Equations of runs: what '==' answers of lengths and of arrays of a style; their zero values.
-/
import Derived.Test.YtcgblbbadbkdgaaStyle
import Derived.Test.YtcgblbbadbkdgaaAuOf
import Derived.Laws.StructEq
import Derived.ChangeKeysEq
import Derived.KernelRfl
namespace Go.Proofs.Ytcgblbbadbkdgaa
open Go.RowKit

theorem len_zero (w : World) : (Instr.build 23 #[]).run Try.prog w = .ok (.agg #[.int .u8 0, .int .i64 0]) w := by kernel_rfl
theorem lens_zero (w : World) : (Instr.build 24 #[]).run Try.prog w = .ok (.agg #[.int .u8 0, .int .i64 0, .int .u8 0, .int .i64 0, .int .u8 0, .int .i64 0, .int .u8 0, .int .i64 0]) w := by kernel_rfl
theorem sides_zero (w : World) : (Instr.build 25 #[]).run Try.prog w = .ok (.agg #[.int .i64 0, .int .i64 0, .int .i64 0, .int .i64 0]) w := by kernel_rfl

theorem len_eq_f (n : Nat) (a b a' b' : Int) (w : World) : (Op.equalIn (n + 2) 23 (.agg #[.int .u8 a, .int .i64 b]) (.agg #[.int .u8 a', .int .i64 b'])).run Try.prog w = .ok (a == a' && b == b') w := by
  have u3 := Try.underlying2
  have a3 := Try.isAgg2
  have z3 := Try.sizeOf2
  have u5 := Try.underlying5
  have a5 := Try.isAgg5
  have z5 := Try.sizeOf5
  have hS : Try.prog.underlying 23 = some (.struct (Try.prog.fieldsOf 23)) := by kernel_rfl
  have hp : Try.prog.stoodInHeld 23 = false := by kernel_rfl
  rw [run_equalIn_agg w (n + 1) 23 _ _ hS hp]
  simp only [Program.fieldsOf, Try.underlying23]
  go_simp
  by_cases h1 : a = a' <;> by_cases h2 : b = b' <;> simp [h1, h2]
theorem len_eq (a b a' b' : Int) (w : World) : (Op.equalIn 10000 23 (.agg #[.int .u8 a, .int .i64 b]) (.agg #[.int .u8 a', .int .i64 b'])).run Try.prog w = .ok (a == a' && b == b') w := len_eq_f 9998 a b a' b' w
theorem lens_eq (a b c d a' b' c' d' e f g h e' f' g' h' : Int) (w : World) :
    (Op.equalIn 10000 24 (.agg #[.int .u8 a, .int .i64 b, .int .u8 c, .int .i64 d, .int .u8 e, .int .i64 f, .int .u8 g, .int .i64 h]) (.agg #[.int .u8 a', .int .i64 b', .int .u8 c', .int .i64 d', .int .u8 e', .int .i64 f', .int .u8 g', .int .i64 h'])).run Try.prog w =
    .ok ((a == a' && b == b') && ((c == c' && d == d') && ((e == e' && f == f') && (g == g' && h == h')))) w := by
  have p0 : ∀ w, (part 23 #[.int .u8 a, .int .i64 b, .int .u8 c, .int .i64 d, .int .u8 e, .int .i64 f, .int .u8 g, .int .i64 h] (0 * 2)).run Try.prog w = .ok (.agg #[.int .u8 a, .int .i64 b]) w := fun w => by kernel_rfl
  have q0 : ∀ w, (part 23 #[.int .u8 a', .int .i64 b', .int .u8 c', .int .i64 d', .int .u8 e', .int .i64 f', .int .u8 g', .int .i64 h'] (0 * 2)).run Try.prog w = .ok (.agg #[.int .u8 a', .int .i64 b']) w := fun w => by kernel_rfl
  have el0 : ∀ w, (Op.equalIn 9999 23 (.agg #[.int .u8 a, .int .i64 b]) (.agg #[.int .u8 a', .int .i64 b'])).run Try.prog w = .ok (a == a' && b == b') w := fun w => len_eq_f 9997 a b a' b' w
  generalize (a == a' && b == b') = e0 at *
  have p1 : ∀ w, (part 23 #[.int .u8 a, .int .i64 b, .int .u8 c, .int .i64 d, .int .u8 e, .int .i64 f, .int .u8 g, .int .i64 h] (1 * 2)).run Try.prog w = .ok (.agg #[.int .u8 c, .int .i64 d]) w := fun w => by kernel_rfl
  have q1 : ∀ w, (part 23 #[.int .u8 a', .int .i64 b', .int .u8 c', .int .i64 d', .int .u8 e', .int .i64 f', .int .u8 g', .int .i64 h'] (1 * 2)).run Try.prog w = .ok (.agg #[.int .u8 c', .int .i64 d']) w := fun w => by kernel_rfl
  have el1 : ∀ w, (Op.equalIn 9999 23 (.agg #[.int .u8 c, .int .i64 d]) (.agg #[.int .u8 c', .int .i64 d'])).run Try.prog w = .ok (c == c' && d == d') w := fun w => len_eq_f 9997 c d c' d' w
  generalize (c == c' && d == d') = e1 at *
  have p2 : ∀ w, (part 23 #[.int .u8 a, .int .i64 b, .int .u8 c, .int .i64 d, .int .u8 e, .int .i64 f, .int .u8 g, .int .i64 h] (2 * 2)).run Try.prog w = .ok (.agg #[.int .u8 e, .int .i64 f]) w := fun w => by kernel_rfl
  have q2 : ∀ w, (part 23 #[.int .u8 a', .int .i64 b', .int .u8 c', .int .i64 d', .int .u8 e', .int .i64 f', .int .u8 g', .int .i64 h'] (2 * 2)).run Try.prog w = .ok (.agg #[.int .u8 e', .int .i64 f']) w := fun w => by kernel_rfl
  have el2 : ∀ w, (Op.equalIn 9999 23 (.agg #[.int .u8 e, .int .i64 f]) (.agg #[.int .u8 e', .int .i64 f'])).run Try.prog w = .ok (e == e' && f == f') w := fun w => len_eq_f 9997 e f e' f' w
  generalize (e == e' && f == f') = e2 at *
  have p3 : ∀ w, (part 23 #[.int .u8 a, .int .i64 b, .int .u8 c, .int .i64 d, .int .u8 e, .int .i64 f, .int .u8 g, .int .i64 h] (3 * 2)).run Try.prog w = .ok (.agg #[.int .u8 g, .int .i64 h]) w := fun w => by kernel_rfl
  have q3 : ∀ w, (part 23 #[.int .u8 a', .int .i64 b', .int .u8 c', .int .i64 d', .int .u8 e', .int .i64 f', .int .u8 g', .int .i64 h'] (3 * 2)).run Try.prog w = .ok (.agg #[.int .u8 g', .int .i64 h']) w := fun w => by kernel_rfl
  have el3 : ∀ w, (Op.equalIn 9999 23 (.agg #[.int .u8 g, .int .i64 h]) (.agg #[.int .u8 g', .int .i64 h'])).run Try.prog w = .ok (g == g' && h == h') w := fun w => len_eq_f 9997 g h g' h' w
  generalize (g == g' && h == h') = e3 at *
  have z3 := Try.sizeOf23
  rw [show (10000 : Nat) = 9999 + 1 from rfl, Op.equalIn]
  simp only [Sem.run_bind, run_underlying Try.underlying24, Result.andThen_ok, z3]
  simp only [Std.Legacy.Range.forIn_eq_forIn_range', Std.Legacy.Range.size, Nat.sub_zero, Nat.div_one, List.range'_succ, List.range'_zero, List.forIn_cons, List.forIn_nil, Nat.zero_add, Nat.reduceAdd]
  cases e0
  · simp only [Sem.run_bind, p0, q0, el0, Result.andThen_ok, Bool.not_false, if_true, Sem.run_ite, Sem.run_pure, Bool.false_and]
  cases e1
  · simp only [Sem.run_bind, p0, q0, el0, p1, q1, el1, Result.andThen_ok, Bool.not_false, Bool.not_true, Bool.false_eq_true, if_false, if_true, Sem.run_ite, Sem.run_pure, Bool.false_and, Bool.true_and]
  cases e2
  · simp only [Sem.run_bind, p0, q0, el0, p1, q1, el1, p2, q2, el2, Result.andThen_ok, Bool.not_false, Bool.not_true, Bool.false_eq_true, if_false, if_true, Sem.run_ite, Sem.run_pure, Bool.false_and, Bool.true_and]
  cases e3
  · simp only [Sem.run_bind, p0, q0, el0, p1, q1, el1, p2, q2, el2, p3, q3, el3, Result.andThen_ok, Bool.not_false, Bool.not_true, Bool.false_eq_true, if_false, if_true, Sem.run_ite, Sem.run_pure, Bool.true_and]
  · simp only [Sem.run_bind, p0, q0, el0, p1, q1, el1, p2, q2, el2, p3, q3, el3, Result.andThen_ok, Bool.not_true, Bool.false_eq_true, if_false, Sem.run_ite, Sem.run_pure, Bool.true_and]
theorem flags_eq (a b a' b' : Bool) (w : World) : (Op.equalIn 10000 93 (.agg #[.bool a, .bool b]) (.agg #[.bool a', .bool b'])).run Try.prog w = .ok (a == a' && b == b') w := by
  have u3 := Try.underlying4
  have a3 := Try.isAgg4
  have z3 := Try.sizeOf4
  rw [show (10000 : Nat) = 9999 + 1 from rfl, Op.equalIn]
  simp only [Sem.run_bind, run_underlying Try.underlying93, Result.andThen_ok]
  simp only [Std.Legacy.Range.forIn_eq_forIn_range', Std.Legacy.Range.size, Nat.sub_zero, Nat.add_sub_cancel, Nat.div_one, List.range'_succ, List.range'_zero, List.forIn_cons, List.forIn_nil]
  go_simp
  by_cases h1 : a = a' <;> by_cases h2 : b = b' <;> simp [h1, h2]
theorem five_eq (a b c d e a' b' c' d' e' : Int) (w : World) : (Op.equalIn 10000 94 (.agg #[.int .u8 a, .int .u8 b, .int .u8 c, .int .u8 d, .int .u8 e]) (.agg #[.int .u8 a', .int .u8 b', .int .u8 c', .int .u8 d', .int .u8 e'])).run Try.prog w =
    .ok (a == a' && b == b' && c == c' && d == d' && e == e') w := by
  have u3 := Try.underlying5
  have a3 := Try.isAgg5
  have z3 := Try.sizeOf5
  rw [show (10000 : Nat) = 9999 + 1 from rfl, Op.equalIn]
  simp only [Sem.run_bind, run_underlying Try.underlying94, Result.andThen_ok]
  simp only [Std.Legacy.Range.forIn_eq_forIn_range', Std.Legacy.Range.size, Nat.sub_zero, Nat.add_sub_cancel, Nat.div_one, List.range'_succ, List.range'_zero, List.forIn_cons, List.forIn_nil]
  go_simp
  by_cases h1 : a = a' <;> by_cases h2 : b = b' <;> by_cases h3 : c = c' <;> by_cases h4 : d = d' <;> by_cases h5 : e = e' <;> simp [h1, h2, h3, h4, h5]
theorem flags_zero (w : World) : (Instr.build 93 #[]).run Try.prog w = .ok (.agg #[.bool false, .bool false]) w := by kernel_rfl
theorem five_zero (w : World) : (Instr.build 94 #[]).run Try.prog w = .ok (.agg #[.int .u8 0, .int .u8 0, .int .u8 0, .int .u8 0, .int .u8 0]) w := by kernel_rfl
theorem sides_eq4 (a b c d a' b' c' d' : Int) (w : World) : (Op.equalIn 10000 25 (.agg #[.int .i64 a, .int .i64 b, .int .i64 c, .int .i64 d]) (.agg #[.int .i64 a', .int .i64 b', .int .i64 c', .int .i64 d'])).run Try.prog w =
    .ok (a == a' && b == b' && c == c' && d == d') w := by
  have u3 := Try.underlying2
  have a3 := Try.isAgg2
  have z3 := Try.sizeOf2
  rw [show (10000 : Nat) = 9999 + 1 from rfl, Op.equalIn]
  simp only [Sem.run_bind, run_underlying Try.underlying25, Result.andThen_ok]
  simp only [Std.Legacy.Range.forIn_eq_forIn_range', Std.Legacy.Range.size, Nat.sub_zero, Nat.add_sub_cancel, Nat.div_one, List.range'_succ, List.range'_zero, List.forIn_cons, List.forIn_nil]
  go_simp
  by_cases h1 : a = a' <;> by_cases h2 : b = b' <;> by_cases h3 : c = c' <;> by_cases h4 : d = d' <;> simp [h1, h2, h3, h4]
end Go.Proofs.Ytcgblbbadbkdgaa
