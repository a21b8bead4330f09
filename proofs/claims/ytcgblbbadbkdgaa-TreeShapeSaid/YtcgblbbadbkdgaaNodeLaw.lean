/-
  How a whole node is loaded and stored.
-/
import Derived.Test.YtcgblbbadbkdgaaGrow5
namespace Go.Proofs.Ytcgblbbadbkdgaa
open Go.RowKit
set_option linter.unusedVariables false

theorem run_loadVar_at {P : Program} (w : World) (a : Addr) (ty : TypeId) (cs : List Value) (d : TypeDesc) (hc : ∀ j v, cs[j]? = some v → w.cell? (a.add j) = some v)
    (hu : P.underlying ty = some d) (hd : d.isRow = true) (hi : (P.info? ty).map (·.size) = some cs.length) :
    (loadVar ty a).run P w = .ok (.agg cs.toArray) w := by
  have hl : (loadCells a cs.length).run P w = .ok cs.toArray w := run_loadCells_list (P := P) w a cs hc
  cases hq : P.info? ty with
  | none => simp [hq] at hi
  | some i =>
    have hs : i.size = cs.length := by simpa [hq] using hi
    have hagg : (isAgg ty).run P w = .ok true w := by
      unfold isAgg
      rw [Sem.run_bind, run_underlying hu w]
      cases d <;> simp_all
    simp [loadVar, Sem.run_bind, hagg, sizeOf, typeInfo, hq, hs, hl]

/-- A node lies at q. -/
def AtN (w : World) (q : Addr) (x : NodeV) : Prop := q.block < w.heap.size ∧ ∀ j v, (nodeE x)[j]? = some v → w.cell? (q.add j) = some v
theorem AtN.below {w w' : World} {q : Addr} {x : NodeV} (h : AtN w q x) (hb : Below w.heap.size w w') : AtN w' q x :=
  ⟨Nat.lt_of_lt_of_le h.1 hb.size, fun j v hv => (hb.cell (p := q.add j) (by rw [add_block]; exact h.1)).trans (h.2 j v hv)⟩
theorem Holds.atN {w : World} {A : Option Addr} {l : List NodeV} (h : Holds nodeE w w.heap.size A l) {i : Nat} {x : NodeV} (hx : l[i]? = some x) : ∃ a, A = some a ∧ a.block < w.heap.size ∧ AtN w (a.add (i * 44)) x := by
  obtain ⟨a, rfl, hl, hc⟩ := h.get nodeE_len hx
  refine ⟨a, rfl, hl, by rw [add_block]; exact hl, fun j v hv => ?_⟩
  rw [Go.Deep.add_add]
  exact hc j v hv
theorem AtN.of {w : World} {g : Nat} {x : NodeV} (h : Box w g (nodeE x)) : AtN w ⟨g, 0, none⟩ x := ⟨h.lt, fun j v hv => by
  have e : (Addr.add ⟨g, 0, none⟩ j) = ⟨g, j, none⟩ := by unfold Addr.add; by_cases h : j = 0 <;> simp [h]
  rw [e]; exact h.cell j v hv⟩
theorem AtO.of_node {w : World} {g : Nat} {x : NodeV} (h : Box w g (nodeE x)) : AtO w g 1 x.s := ⟨h.lt, fun i u hu => by
  have := h.cell (i + 1) u hu
  rw [Nat.add_comm 1 i]; exact this⟩

theorem wpList_load_node {w : World} {ops : Array Oper} {rest : List Oper} {o : Oper} {a : Act} {Q : Exit → Act → World → Prop} (hw : Region.wanted o (yielded ops a.tmps) = true) (x : Operand) (ho : o.op = .load 49 x)
    (q : Addr) (hx : a.eval x = .pointer (some q)) (n : NodeV) (L : Array Value) (hL : Hid ((nodeE n).toArray = L)) (hA : Hid (AtN w q n)) (h : wpList Try.prog ops Q rest (a.put o.dst (.agg L)) w) : wpList Try.prog ops Q (o :: rest) a w :=
  wpList_step fun K hK => by
    rw [if_pos hw]
    unfold Oper.wp execOp
    have hl : (loadVar 49 q).run Try.prog w = .ok (.agg (nodeE n).toArray) w :=
      run_loadVar_at w q 49 (nodeE n) _ (fun j v hv => hA.out.2 j v hv) Try.underlying49 rfl (by rw [nodeE_len]; kernel_rfl)
    simp only [ho, hx, Instr.loadAt, Instr.sureAddr, Sem.run_bind, Sem.run_pure, Result.andThen_ok, hl]
    rw [hL.out]
    exact hK _ _ h
theorem wpList_store_newN {w0 : World} {ops : Array Oper} {rest : List Oper} {o : Oper} {a : Act} {Q : Exit → Act → World → Prop} (hgd : o.guard = none) (x y : Operand) (ho : o.op = .store 49 x y) (c L : Array Value)
    (hx : a.eval x = .pointer (some ⟨w0.heap.size, 0, none⟩)) (hy : a.eval y = .agg L) (hc : c.size = 44) (hL : L.size = 44) (h1 : L.all (·.oneCell') = true)
    (h : wpList Try.prog ops Q rest (a.put o.dst undef) (w0.alloc (.cells L 49))) : wpList Try.prog ops Q (o :: rest) a (w0.alloc (.cells c 49)) :=
  wpList_store_row hgd 49 x y ho w0.heap.size L hx hy 49 c (heap_alloc_last w0 _) (by rw [hL]; kernel_rfl) (by rw [hc, hL]) h1 (by rw [World.setRow_alloc_new]; exact h)
theorem nodeE_oneA (n : NodeV) : (nodeE n).toArray.all (·.oneCell') = true := all_oneCell_toArray (nodeE_one n)
end Go.Proofs.Ytcgblbbadbkdgaa
