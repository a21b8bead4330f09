/-
  How arguments of stage 5 are read: trees, nodes.
-/
import Derived.Test.YtcgblbbadbkdgaaNode
import Derived.Test.YtcgblbbadbkdgaaView5
import Derived.Deep.Strs
import Derived.SizedLaws
import Derived.Deep.Slices
namespace Go.Proofs.Ytcgblbbadbkdgaa
open Go.ChangeShapes Go.WideShapes Go.RowKit Go.Deep
set_option linter.unusedVariables false

def NodeOk (W : World) (n : NodeV) : Prop := StyOk n.s ∧ I64 n.p ∧ n.s.uc ≤ maxLen ∧ ∃ l, Sl u16E W n.s.ua n.s.un n.s.uc l ∧ ∀ r ∈ l, U16 r
structure TreeOk (W : World) (t : TreeV) : Prop where
  at_ : TreeAt W t
  nc : t.nc ≤ maxLen
  ac : t.ac ≤ maxLen
  nodes : ∀ r ∈ t.ns, NodeOk W r
  advs : ∀ r ∈ t.av, I64 r
  view : I64 t.view
  bn : t.nn ≤ 17592186044416
  ba : t.an ≤ 17592186044416

section
variable {H : Type} {enc : TypeId × Value → H} {W : World} {v : Value} {d : DataW H} {p : List MemPlace} {base : Nat}
theorem c_nodes : Try.prog.cellsOf 32 = 1 := by kernel_rfl
theorem c_advs : Try.prog.cellsOf 33 = 1 := by kernel_rfl
theorem c_tree : Try.prog.cellsOf 35 = 3 := by kernel_rfl
theorem c_node : Try.prog.cellsOf 49 = 44 := by kernel_rfl
set_option maxRecDepth 100000 in
theorem read_node (cs : List Value) (fuel : Nat) (x : DataW H × List MemPlace) (hl : cs.length = 44) (h : DataW.trod enc Try.prog W 0 (fun _ => true) true fuel 49 cs = some x) :
    ∃ r : NodeV, cs = nodeE r ∧ NodeOk W r := by
  obtain ⟨c0, t0, rfl, h0⟩ := uncons hl
  obtain ⟨y0, y1, m, _, _, f0, f1⟩ := trod_struct2 Try.underlying49 h
  simp [c_int, c_sty] at f0 f1
  rw [List.take_of_length_le (by omega)] at f1
  obtain ⟨z0, rfl, o0⟩ := rd_int f0
  obtain ⟨s, l, e, ho, hS, hU, hc⟩ := read_sty t0 m _ h0 f1
  exact ⟨⟨z0, s⟩, by rw [e]; rfl, ho, o0, hc, l, hS, hU⟩
set_option maxRecDepth 100000 in
theorem read_i64 (cs : List Value) (fuel : Nat) (x : DataW H × List MemPlace) (hl : cs.length = 1) (h : DataW.trod enc Try.prog W 0 (fun _ => true) true fuel 2 cs = some x) : ∃ r, cs = intE r ∧ I64 r := by
  match cs, hl with
  | [c0], _ =>
    obtain ⟨z, e, o⟩ := rd_i64 h
    exact ⟨z, by rw [e]; rfl, o⟩
theorem slice_datum {P : Program} {t e : TypeId} (ht : P.underlying t = some (.slice e)) {A : Option Addr} {n c fuel : Nat} {y : DataW H × List MemPlace} (h : DataW.trod enc P W 0 (fun _ => true) true fuel t [.slice A n c] = some y) :
    n = 0 ∨ ∃ el sp, y.1 = .slice el sp ∧ el.length = n := by
  rcases open_slice ht h with ⟨hcs, _⟩ | ⟨a, len, cap, m, n', D, Pl, hcs, _, hlc, hm, hmm, rfl, _⟩
  · simp at hcs; exact .inl hcs.2.1
  · simp at hcs
    exact .inr ⟨_, _, rfl, by simp; omega⟩
set_option maxRecDepth 100000 in
theorem view_tree (hw : ∀ n ∈ d.weights Try.prog 35, n ≤ reachBytes) (hok : Value.okWide Try.prog W .any base 35 v) (h : DataW.Trod enc Try.prog W 0 (fun _ => true) true 35 v d p) :
    ∃ t : TreeV, v = .agg #[.slice t.na t.nn t.nc, .slice t.aa t.an t.ac, .int .i64 t.view] ∧ TreeOk W t := by
  obtain ⟨cs, rfl, hsz⟩ := okWide_struct Try.underlying35 hok
  obtain ⟨l⟩ := cs
  obtain ⟨fuel, hf⟩ := h
  have hl : l.length = 3 := by simpa [c_tree] using hsz
  match l, hl with
  | [c0, c1, c2], _ =>
    have hf' : DataW.trod enc Try.prog W 0 (fun _ => true) true fuel 35 [c0, c1, c2] = some (d, p) := by simpa [Value.cells] using hf
    obtain ⟨y0, y1, y2, m, hx, _, f0, f1, f2⟩ := trod_struct3 Try.underlying35 hf'
    simp [c_nodes, c_advs, c_i64] at f0 f1 f2
    obtain ⟨A, n, c, ns, e0, hc0, hS0, hO0⟩ := slice_read nodeE (NodeOk W) 44 Try.underlying32 c_node nodeE_len read_node f0 (by omega)
    obtain ⟨B, k, b, av, e1, hc1, hS1, hO1⟩ := slice_read intE I64 1 Try.underlying33 c_i64 intE_len read_i64 f1 (by omega)
    obtain ⟨z, e2, o2⟩ := rd_i64 f2
    simp only [List.cons.injEq, and_true] at e0 e1
    subst e0 e1 e2
    have hd : d = .agg [y0.1, y1.1, y2.1] := congrArg Prod.fst hx
    have hn : n ≤ 17592186044416 := by
      rcases slice_datum Try.underlying32 f0 with h0 | ⟨el, sp, h1, h2⟩
      · omega
      · have hm := hw ((el.length + sp.length) * Try.prog.bytesOf 49) (by rw [hd, h1]; simp [DataW.weights, DataW.weightsEach, Try.underlying35, Try.underlying32])
        rw [show Try.prog.bytesOf 49 = 328 by kernel_rfl] at hm
        have := reachBytes_lt
        omega
    have hk : k ≤ 17592186044416 := by
      rcases slice_datum Try.underlying33 f1 with h0 | ⟨el, sp, h1, h2⟩
      · omega
      · have hm := hw ((el.length + sp.length) * Try.prog.bytesOf 2) (by rw [hd, h1]; simp [DataW.weights, DataW.weightsEach, Try.underlying35, Try.underlying33])
        rw [show Try.prog.bytesOf 2 = 8 by kernel_rfl] at hm
        have := reachBytes_lt
        omega
    exact ⟨⟨A, n, c, ns, B, k, b, av, z⟩, rfl, ⟨hS0, hS1⟩, hc0, hc1, hO0, hO1, o2, hn, hk⟩
set_option maxRecDepth 100000 in
theorem view_nodes (hok : Value.okWide Try.prog W .any base 32 v) (h : DataW.Trod enc Try.prog W 0 (fun _ => true) true 32 v d p) :
    ∃ (A : Option Addr) (n c : Nat) (l : List NodeV), v = .slice A n c ∧ c ≤ maxLen ∧ Sl nodeE W A n c l ∧ ∀ r ∈ l, NodeOk W r :=
  view_slice nodeE (NodeOk W) 44 Try.underlying32 c_node nodeE_len read_node hok h (by omega)
end
end Go.Proofs.Ytcgblbbadbkdgaa
