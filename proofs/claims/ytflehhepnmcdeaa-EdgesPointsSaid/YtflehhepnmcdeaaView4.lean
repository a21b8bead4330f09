/-
  How arguments of four numbers are read: rectangles and sides, and slices of them.
-/
import Derived.Test.YtflehhepnmcdeaaView
import Derived.Test.YtflehhepnmcdeaaSides
import Derived.Lib.SmallJoins
import Derived.Laws.IdiomArrays
namespace Go.Proofs.Ytflehhepnmcdeaa
open Go.Joins Go.ChangeShapes Go.WideShapes Go.RowKit

section
variable {H : Type} {enc : TypeId × Value → H} {W : World} {v : Value} {d : DataW H} {p : List MemPlace} {base : Nat}

theorem cells64 : Try.prog.cellsOf 2 = 1 := by kernel_rfl
theorem cellsRect : Try.prog.cellsOf 33 = 4 := by kernel_rfl
theorem cellsSides : Try.prog.cellsOf 24 = 4 := by kernel_rfl

theorem read64 {fuel : Nat} {c : Value} {y : DataW H × List MemPlace} (h : DataW.trod enc Try.prog W 0 (fun _ => true) true fuel 2 [c] = some y) : ∃ z, c = .int .i64 z ∧ I64 z := by
  obtain ⟨z, e, _, hw⟩ := DataW.trod_int Try.underlying2 h
  simp only [List.cons.injEq, and_true] at e
  exact ⟨z, e, bounds_i64 hw⟩

theorem read_rect (cs : List Value) (fuel : Nat) (x : DataW H × List MemPlace) (hl : cs.length = 4) (h : DataW.trod enc Try.prog W 0 (fun _ => true) true fuel 33 cs = some x) : ∃ r, cs = fourE r ∧ FourOk r := by
  match cs, hl with
  | [c0, c1, c2, c3], _ =>
    obtain ⟨y0, y1, y2, y3, n, _, _, h0, h1, h2, h3⟩ := trod_struct4 Try.underlying33 h
    simp [cells64] at h0 h1 h2 h3
    obtain ⟨z0, rfl, o0⟩ := read64 h0
    obtain ⟨z1, rfl, o1⟩ := read64 h1
    obtain ⟨z2, rfl, o2⟩ := read64 h2
    obtain ⟨z3, rfl, o3⟩ := read64 h3
    exact ⟨⟨z0, z1, z2, z3⟩, rfl, o0, o1, o2, o3⟩

theorem view_rect (hok : Value.okWide Try.prog W .any base 33 v) (h : DataW.Trod enc Try.prog W 0 (fun _ => true) true 33 v d p) : ∃ r : Four, v = .agg #[.int .i64 r.a, .int .i64 r.b, .int .i64 r.c, .int .i64 r.d] ∧ FourOk r := by
  obtain ⟨cs, rfl, hsz⟩ := okWide_struct Try.underlying33 hok
  obtain ⟨l⟩ := cs
  obtain ⟨fuel, hf⟩ := h
  obtain ⟨r, e, ho⟩ := read_rect l fuel _ (by simpa [cellsRect] using hsz) (by simpa [Value.cells] using hf)
  exact ⟨r, by rw [e]; rfl, ho⟩

theorem view_rects (hok : Value.okWide Try.prog W .any base 38 v) (h : DataW.Trod enc Try.prog W 0 (fun _ => true) true 38 v d p) :
    ∃ (A : Option Addr) (n c : Nat) (l : List Four), v = .slice A n c ∧ c ≤ maxLen ∧ Sl fourE W A n c l ∧ ∀ r ∈ l, FourOk r :=
  view_slice fourE FourOk 4 Try.underlying38 cellsRect fourE_len read_rect hok h (by omega)

theorem read_sides (cs : List Value) (fuel : Nat) (x : DataW H × List MemPlace) (hl : cs.length = 4) (h : DataW.trod enc Try.prog W 0 (fun _ => true) true fuel 24 cs = some x) : ∃ r, cs = fourE r ∧ FourOk r := by
  match cs, hl with
  | [c0, c1, c2, c3], _ =>
    obtain ⟨y0, y1, y2, y3, n, _, h0, h1, h2, h3⟩ := trod_array4 Try.underlying24 cells64 h
    obtain ⟨z0, rfl, o0⟩ := read64 h0
    obtain ⟨z1, rfl, o1⟩ := read64 h1
    obtain ⟨z2, rfl, o2⟩ := read64 h2
    obtain ⟨z3, rfl, o3⟩ := read64 h3
    exact ⟨⟨z0, z1, z2, z3⟩, rfl, o0, o1, o2, o3⟩

theorem view_sides (hok : Value.okWide Try.prog W .any base 24 v) (h : DataW.Trod enc Try.prog W 0 (fun _ => true) true 24 v d p) : ∃ r : Four, v = .agg #[.int .i64 r.a, .int .i64 r.b, .int .i64 r.c, .int .i64 r.d] ∧ FourOk r := by
  simp only [Value.okWide, Try.underlying24] at hok
  obtain ⟨cs, rfl, hsz, _⟩ := hok
  obtain ⟨l⟩ := cs
  obtain ⟨fuel, hf⟩ := h
  obtain ⟨r, e, ho⟩ := read_sides l fuel _ (by simpa [cellsSides] using hsz) (by simpa [Value.cells] using hf)
  exact ⟨r, by rw [e]; rfl, ho⟩

theorem view_sidess (hok : Value.okWide Try.prog W .any base 22 v) (h : DataW.Trod enc Try.prog W 0 (fun _ => true) true 22 v d p) :
    ∃ (A : Option Addr) (n c : Nat) (l : List Four), v = .slice A n c ∧ c ≤ maxLen ∧ Sl fourE W A n c l ∧ ∀ r ∈ l, FourOk r :=
  view_slice fourE FourOk 4 Try.underlying22 cellsSides fourE_len read_sides hok h (by omega)
end
end Go.Proofs.Ytflehhepnmcdeaa
