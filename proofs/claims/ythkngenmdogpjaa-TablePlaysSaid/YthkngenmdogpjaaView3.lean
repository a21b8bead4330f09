/-
  How arguments of stage 3 are read: slices of pairs, of calls, of small numbers.
-/
import Derived.Test.YthkngenmdogpjaaView
import Derived.Test.YthkngenmdogpjaaTable
import Derived.Deep.Strs
namespace Go.Proofs.Ythkngenmdogpjaa
open Go.ChangeShapes Go.WideShapes Go.RowKit

/-- A call, as the statements have it. -/
structure TOp where
  put : Bool
  i : Int
  v : Pair
def opE (o : TOp) : List Value := [.bool o.put, .int .i64 o.i, .int .i64 o.v.a, .string o.v.b]
theorem opE_len (o : TOp) : (opE o).length = 4 := rfl
def u16E (z : Int) : List Value := [.int .u16 z]
theorem u16E_len (z : Int) : (u16E z).length = 1 := rfl

def PairOk (r : Pair) : Prop := I64 r.a
def OpOk (o : TOp) : Prop := I64 o.i
def U16 (z : Int) : Prop := 0 ≤ z ∧ z ≤ 65535

section
variable {H : Type} {enc : TypeId × Value → H} {W : World} {v : Value} {d : DataW H} {p : List MemPlace} {base : Nat}
theorem cells64_3 : Try.prog.cellsOf 2 = 1 := by kernel_rfl
theorem cellsInt_3 : Try.prog.cellsOf 3 = 1 := by kernel_rfl
theorem cellsStr_3 : Try.prog.cellsOf 9 = 1 := by kernel_rfl
theorem cellsBool_3 : Try.prog.cellsOf 4 = 1 := by kernel_rfl
theorem cellsPair_3 : Try.prog.cellsOf 30 = 2 := by kernel_rfl
theorem cellsOp_3 : Try.prog.cellsOf 35 = 4 := by kernel_rfl

theorem read_pair (cs : List Value) (fuel : Nat) (x : DataW H × List MemPlace) (hl : cs.length = 2) (h : DataW.trod enc Try.prog W 0 (fun _ => true) true fuel 30 cs = some x) : ∃ r, cs = pairE r ∧ PairOk r := by
  match cs, hl with
  | [c0, c1], _ =>
    obtain ⟨y0, y1, n, _, _, h0, h1⟩ := trod_struct2 Try.underlying30 h
    simp [cells64_3, cellsStr_3] at h0 h1
    obtain ⟨z0, e0, _, hw⟩ := DataW.trod_int Try.underlying2 h0
    obtain ⟨s, e1, _, _⟩ := DataW.trod_string Try.underlying9 h1
    simp only [List.cons.injEq, and_true] at e0 e1
    subst e0 e1
    exact ⟨⟨z0, s⟩, rfl, bounds_i64 hw⟩

theorem read_op (cs : List Value) (fuel : Nat) (x : DataW H × List MemPlace) (hl : cs.length = 4) (h : DataW.trod enc Try.prog W 0 (fun _ => true) true fuel 35 cs = some x) : ∃ r, cs = opE r ∧ OpOk r := by
  match cs, hl with
  | [c0, c1, c2, c3], _ =>
    obtain ⟨y0, y1, y2, n, _, _, h0, h1, h2⟩ := Go.Deep.trod_struct3 Try.underlying35 h
    simp [cellsBool_3, cellsInt_3, cellsPair_3] at h0 h1 h2
    obtain ⟨b, e0, _⟩ := DataW.trod_bool Try.underlying4 h0
    obtain ⟨z1, e1, _, hw⟩ := DataW.trod_int Try.underlying3 h1
    obtain ⟨r, e2, _⟩ := read_pair _ _ _ rfl h2
    simp only [pairE, List.cons.injEq, and_true] at e0 e1 e2
    obtain ⟨e2, e3⟩ := e2
    subst e0 e1 e2 e3
    exact ⟨⟨b, z1, r⟩, rfl, bounds_i64 hw⟩

set_option maxRecDepth 100000 in
theorem view_pairs (hok : Value.okWide Try.prog W .any base 43 v) (h : DataW.Trod enc Try.prog W 0 (fun _ => true) true 43 v d p) :
    ∃ (A : Option Addr) (n c : Nat) (l : List Pair), v = .slice A n c ∧ c ≤ maxLen ∧ Sl pairE W A n c l ∧ ∀ r ∈ l, PairOk r :=
  view_slice pairE PairOk 2 Try.underlying43 cellsPair_3 pairE_len read_pair hok h (by omega)
set_option maxRecDepth 100000 in
theorem view_ops (hok : Value.okWide Try.prog W .any base 22 v) (h : DataW.Trod enc Try.prog W 0 (fun _ => true) true 22 v d p) :
    ∃ (A : Option Addr) (n c : Nat) (l : List TOp), v = .slice A n c ∧ c ≤ maxLen ∧ Sl opE W A n c l ∧ ∀ r ∈ l, OpOk r :=
  view_slice opE OpOk 4 Try.underlying22 cellsOp_3 opE_len read_op hok h (by omega)
theorem read_u16 (cs : List Value) (fuel : Nat) (x : DataW H × List MemPlace) (hl : cs.length = 1) (h : DataW.trod enc Try.prog W 0 (fun _ => true) true fuel 50 cs = some x) : ∃ r, cs = u16E r ∧ U16 r := by
  match cs, hl with
  | [c0], _ =>
    obtain ⟨z0, e0, _, hw⟩ := DataW.trod_int Try.underlying50 h
    simp only [List.cons.injEq, and_true] at e0
    subst e0
    refine ⟨z0, rfl, ?_⟩
    simp [Lit.wf, IntKind.min, IntKind.max, IntKind.signed, IntKind.bits] at hw
    exact ⟨by omega, by omega⟩
set_option maxRecDepth 100000 in
theorem view_u16s (hok : Value.okWide Try.prog W .any base 49 v) (h : DataW.Trod enc Try.prog W 0 (fun _ => true) true 49 v d p) :
    ∃ (A : Option Addr) (n c : Nat) (l : List Int), v = .slice A n c ∧ c ≤ maxLen ∧ Sl u16E W A n c l ∧ ∀ r ∈ l, U16 r :=
  view_slice u16E U16 1 Try.underlying49 (by kernel_rfl) u16E_len read_u16 hok h (by omega)
end
end Go.Proofs.Ythkngenmdogpjaa
