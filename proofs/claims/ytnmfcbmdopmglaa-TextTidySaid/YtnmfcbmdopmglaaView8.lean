/-
  How arguments of stage 6 are read: slices of numbers, of words.
-/
import Derived.Test.YtnmfcbmdopmglaaWrd
import Derived.Test.YtnmfcbmdopmglaaView5
namespace Go.Proofs.Ytnmfcbmdopmglaa
open Go.ChangeShapes Go.WideShapes Go.RowKit
set_option linter.unusedVariables false

/-- A number of 32 bits as an element. -/
def i32E (z : Int) : List Value := [.int .i32 z]
theorem i32E_len (z : Int) : (i32E z).length = 1 := rfl
def I32 (z : Int) : Prop := -2147483648 ≤ z ∧ z ≤ 2147483647

section
variable {H : Type} {enc : TypeId × Value → H} {W : World} {v : Value} {d : DataW H} {p : List MemPlace} {base : Nat}

theorem read_i64s (cs : List Value) (fuel : Nat) (x : DataW H × List MemPlace) (hl : cs.length = 1) (h : DataW.trod enc Try.prog W 0 (fun _ => true) true fuel 2 cs = some x) : ∃ r, cs = intE r ∧ I64 r := by
  match cs, hl with
  | [c0], _ =>
    obtain ⟨z0, e0, o0⟩ := rd_i64 h
    subst e0
    exact ⟨z0, rfl, o0⟩
set_option maxRecDepth 100000 in
theorem view_i64s (hok : Value.okWide Try.prog W .any base 23 v) (h : DataW.Trod enc Try.prog W 0 (fun _ => true) true 23 v d p) :
    ∃ (A : Option Addr) (n c : Nat) (l : List Int), v = .slice A n c ∧ c ≤ maxLen ∧ Sl intE W A n c l ∧ ∀ r ∈ l, I64 r :=
  view_slice intE I64 1 Try.underlying23 c_i64 intE_len read_i64s hok h (by omega)

theorem c_i32 : Try.prog.cellsOf 21 = 1 := by kernel_rfl
theorem read_i32s (cs : List Value) (fuel : Nat) (x : DataW H × List MemPlace) (hl : cs.length = 1) (h : DataW.trod enc Try.prog W 0 (fun _ => true) true fuel 21 cs = some x) : ∃ r, cs = i32E r ∧ I32 r := by
  match cs, hl with
  | [c0], _ =>
    obtain ⟨z0, e0, _, hw⟩ := DataW.trod_int Try.underlying21 h
    simp only [List.cons.injEq, and_true] at e0
    subst e0
    refine ⟨z0, rfl, ?_⟩
    simp [Lit.wf, IntKind.min, IntKind.max, IntKind.signed, IntKind.bits] at hw
    exact ⟨by omega, by omega⟩
set_option maxRecDepth 100000 in
theorem view_i32s (hok : Value.okWide Try.prog W .any base 62 v) (h : DataW.Trod enc Try.prog W 0 (fun _ => true) true 62 v d p) :
    ∃ (A : Option Addr) (n c : Nat) (l : List Int), v = .slice A n c ∧ c ≤ maxLen ∧ Sl i32E W A n c l ∧ ∀ r ∈ l, I32 r :=
  view_slice i32E I32 1 Try.underlying62 c_i32 i32E_len read_i32s hok h (by omega)

theorem c_int6 : Try.prog.cellsOf 3 = 1 := by kernel_rfl
theorem c_wrd : Try.prog.cellsOf 58 = 5 := by kernel_rfl
theorem read_wrds (cs : List Value) (fuel : Nat) (x : DataW H × List MemPlace) (hl : cs.length = 5) (h : DataW.trod enc Try.prog W 0 (fun _ => true) true fuel 58 cs = some x) : ∃ r, cs = wrdE r ∧ WrdOk r := by
  match cs, hl with
  | [c0, c1, c2, c3, c4], _ =>
    obtain ⟨xs, n, _, _, _, hlen, hf⟩ := DataW.trod_struct Try.underlying58 h
    have hlen' : xs.length = 5 := hlen
    clear hlen h
    match xs, hlen' with
    | [y0, y1, y2, y3, y4], _ =>
    have h0 := hf 0 _ rfl
    have h1 := hf 1 _ rfl
    have h2 := hf 2 _ rfl
    have h3 := hf 3 _ rfl
    have h4 := hf 4 _ rfl
    simp [c_i64, c_int6] at h0 h1 h2 h3 h4
    obtain ⟨z0, rfl, o0⟩ := rd_int h0
    obtain ⟨z1, rfl, o1⟩ := rd_int h1
    obtain ⟨z2, rfl, o2⟩ := rd_i64 h2
    obtain ⟨z3, rfl, o3⟩ := rd_i64 h3
    obtain ⟨z4, rfl, o4⟩ := rd_int h4
    exact ⟨⟨z0, z1, z2, z3, z4⟩, rfl, o0, o1, o2, o3, o4⟩
set_option maxRecDepth 100000 in
theorem view_wrds (hok : Value.okWide Try.prog W .any base 48 v) (h : DataW.Trod enc Try.prog W 0 (fun _ => true) true 48 v d p) :
    ∃ (A : Option Addr) (n c : Nat) (l : List Wrd), v = .slice A n c ∧ c ≤ maxLen ∧ Sl wrdE W A n c l ∧ ∀ r ∈ l, WrdOk r :=
  view_slice wrdE WrdOk 5 Try.underlying48 c_wrd wrdE_len read_wrds hok h (by omega)
end
end Go.Proofs.Ytnmfcbmdopmglaa
