/-
  Contracts of the document's table: New, Put, Get, Left, All.
-/
import Derived.Test.YthkngenmdogpjaaTabAllP
import Derived.Laws.StructEq
import Derived.ChangeKeysEq
import Derived.KernelRfl
import Derived.Deep.QuietTactic
import Derived.BigQuiet
namespace Go.Proofs.Ythkngenmdogpjaa
open Go.RowKit

/-- The document's cell. -/
def refE : Option Pair → List Value
  | none => [.bool false, .int .i64 0, .string ByteArray.empty]
  | some p => [.bool true, .int .i64 p.a, .string p.b]
theorem refE_len : ∀ o, (refE o).length = 3
  | none => rfl
  | some _ => rfl

/-- The document's table at block rb, its cells in block rc. -/
structure Ref (w : World) (rb rc : Nat) (l : List (Option Pair)) : Prop where
  head : Box w rb [.slice (some ⟨rc, 0, none⟩) l.length l.length]
  cells : Box w rc (l.flatMap refE)
  bc : rb ≠ rc
theorem Ref.but {w w' : World} {rb rc : Nat} {l : List (Option Pair)} {bs : List Nat} (h : Ref w rb rc l) (hb : But bs w w') (h1 : rb ∉ bs) (h2 : rc ∉ bs) : Ref w' rb rc l := ⟨h.head.but hb h1, h.cells.but hb h2, h.bc⟩
theorem Ref.below {w w' : World} {rb rc : Nat} {l : List (Option Pair)} (h : Ref w rb rc l) (hb : Below w.heap.size w w') : Ref w' rb rc l := ⟨h.head.below hb, h.cells.below hb, h.bc⟩

theorem infoRef : (Try.prog.info? 85).map (fun i => (i.zero, i.size, i.bytes)) = some (some (.agg #[.bool false, .int .i64 0, .string ByteArray.empty]), 3, 32) := by kernel_rfl

set_option maxRecDepth 100000 in
theorem rNew_h (n : Nat) (hn : n ≤ 65536) (w : World) :
    Calls Try.prog 10 #[.int .i64 n] w fun e w' => ∃ rb rc : Nat, e = .returned (.tuple #[.pointer (some ⟨rb, 0, none⟩), .int .i64 0]) ∧ Ref w' rb rc (List.replicate n none) ∧ Below w.heap.size w w' ∧ w.heap.size ≤ rb ∧ w.heap.size ≤ rc := by
  have hm := fun w => make_row (P := Try.prog) 40 85 (.agg #[.bool false, .int .i64 0, .string ByteArray.empty]) 3 32 Try.underlying40 infoRef (by decide) n n _ _ rfl rfl (Nat.le_refl _) (by omega) w
  go_enter Try.func10, Try.ntmps10
  go_wp2_with fail
  go_ret2
  refine ⟨w.heap.size + 1, w.heap.size, rfl, ⟨?_, (Box.made (f := refE) (x := none) w rfl rfl n _).alloc _, by omega⟩, ((Below.refl _ _).alloc (Nat.le_refl _) _).alloc (by simp) _, by omega, by omega⟩
  have h := Box.new (w.alloc (madeObj (.agg #[.bool false, .int .i64 0, .string ByteArray.empty]) (n * 3) 85)) [.slice (some ⟨w.heap.size, 0, none⟩) n n] 42
  simpa using h
theorem rNew_no (i : Int) (w : World) (h : i < 0 ∨ 65536 < i) : Calls Try.prog 10 #[.int .i64 i] w fun e w' => e = .returned (.tuple #[.pointer none, .int .i64 1]) ∧ w = w' := by
  rcases h with h | h
  all_goals
    go_enter Try.func10, Try.ntmps10
    go_wp2_with fail
    go_ret2
    exact ⟨rfl, rfl⟩

theorem Ref.chunk {w : World} {rb rc : Nat} {l : List (Option Pair)} (h : Ref w rb rc l) {k : Nat} {o : Option Pair} (hk : l[k]? = some o) : Box w rc (chunk refE l k (refE o)) := by
  rw [← chunk_is hk]; exact h.cells

theorem pair_build (w : World) : (Instr.build 30 #[]).run Try.prog w = .ok (.agg #[.int .i64 0, .string ⟨#[]⟩]) w := by kernel_rfl
theorem cell_build (a : Int) (b : ByteArray) (w : World) : (Instr.build 85 #[(0, .bool true), (1, .agg #[.int .i64 a, .string b])]).run Try.prog w = .ok (.agg #[.bool true, .int .i64 a, .string b]) w := by kernel_rfl

set_option maxRecDepth 100000 in
set_option maxHeartbeats 1600000 in
theorem rGet_h (rb rc : Nat) (l : List (Option Pair)) (i : Int) (w : World) (h : Hid (Ref w rb rc l)) :
    Calls Try.prog 14 #[.pointer (some ⟨rb, 0, none⟩), .int .i64 i] w fun e w' => e = .returned (.tuple #[
      .agg #[.int .i64 ((slot l i).join.getD pair0).a, .string ((slot l i).join.getD pair0).b],
      .int .i64 (getE (slot l i))]) ∧ Below w.heap.size w w' := by
  have hT : Hid (Ref (w.alloc (.cells #[.int .i64 0, .string ⟨#[]⟩] 30)) rb rc l) := Lib.hid (h.out.below ((Below.refl _ _).alloc (Nat.le_refl _) _))
  have hB : Hid (Below w.heap.size w (w.alloc (.cells #[.int .i64 0, .string ⟨#[]⟩] 30))) := Lib.hid ((Below.refl _ _).alloc (Nat.le_refl _) _)
  have hz := pair_build
  have h0 := hT.out.head.cell 0 _ rfl
  rcases slot_cases l i with ⟨e, hi⟩ | ⟨k, o, rfl, hk, e, hl⟩
  · rw [e]
    simp only [Option.join_none, Option.getD_none, getE, pair0]
    generalize l.length = n at *
    clear h hT e
    rcases hi with hi | hi
    · go_enter Try.func14, Try.ntmps14
      go_wp2_with fail
      exact bodyPost_ret (v := .tuple #[.agg #[.int .i64 0, .string ByteArray.empty], .int .i64 1]) (by simp [results, Try.results14, go_sem]; rfl) rfl ⟨rfl, hB.out⟩
    · have hi2 : ¬ i < 0 := by omega
      have hi3 : ¬ i < n := by omega
      go_enter Try.func14, Try.ntmps14
      go_wp2_with fail
      exact bodyPost_ret (v := .tuple #[.agg #[.int .i64 0, .string ByteArray.empty], .int .i64 1]) (by simp [results, Try.results14, go_sem]; rfl) rfl ⟨rfl, hB.out⟩
  · have hc := hT.out.chunk hk
    have i1 : (0 : Int) ≤ (k : Int) := by omega
    have i2 : (k : Int) < (l.length : Int) := by omega
    rw [e]
    cases o with
    | none =>
      have c0 := hc.chunk_cell refE_len hl 0 rfl
      simp only [Nat.add_zero] at c0
      simp only [Option.join_some, Option.getD_none, getE, pair0]
      clear h hT e hk hc hl
      generalize l.length = n at *
      go_enter Try.func14, Try.ntmps14
      go_wp2_with fail
      exact bodyPost_ret (v := .tuple #[.agg #[.int .i64 0, .string ByteArray.empty], .int .i64 4]) (by simp [results, Try.results14, go_sem]; rfl) rfl ⟨rfl, hB.out⟩
    | some x =>
      have c0 := hc.chunk_cell refE_len hl 0 rfl
      have c1 := hc.chunk_cell refE_len hl 1 rfl
      have c2 := hc.chunk_cell refE_len hl 2 rfl
      simp only [Nat.add_zero] at c0
      simp only [Option.join_some, Option.getD_some, getE]
      clear h hT e hk hc hl
      generalize l.length = n at *
      go_enter Try.func14, Try.ntmps14
      go_wp2_with fail
      exact bodyPost_ret (v := .tuple #[.agg #[.int .i64 x.a, .string x.b], .int .i64 0]) (by simp [results, Try.results14, go_sem]) rfl ⟨rfl, (Below.refl _ _).alloc (Nat.le_refl _) _⟩
end Go.Proofs.Ythkngenmdogpjaa
