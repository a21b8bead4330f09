/-
  A tree that grows: its nodes a row of the call's own, its head in a block of the call's own.
-/
import Derived.Test.YtcgblbbadbkdgaaKids
import Derived.Test.YtcgblbbadbkdgaaZero4
namespace Go.Proofs.Ytcgblbbadbkdgaa
open Go.RowKit
set_option linter.unusedVariables false

/-- A node of a parent and a kind, all else zero. -/
def plainN (p k : Int) : NodeV := ⟨p, { style0 with kind := k }⟩
theorem infoNode : (Try.prog.info? 49).map (fun i => (i.zero.isSome, i.size, i.bytes)) = some (true, 44, 328) := by kernel_rfl
theorem infoNode2 : (Try.prog.info? 49).map (fun i => (i.zero, i.size, i.bytes)) = some (some (.agg (nodeE (plainN 0 0)).toArray), 44, 328) := by kernel_rfl
theorem nodeE_one (n : NodeV) : ∀ u ∈ nodeE n, u.oneCell' = true := by
  intro u hu
  rcases List.mem_cons.mp hu with rfl | hu
  · rfl
  · have := styE_one n.s
    rw [Array.all_eq_true] at this
    obtain ⟨i, hi, rfl⟩ := List.getElem_of_mem hu
    exact this i (by simpa using hi)

structure GrowT (w0 : World) (tb : Nat) (v : Value) (rest : List Value) (ns : List NodeV) (wr : World) : Prop where
  own : wr.ownsRow w0.heap.size 49 44 v ns.length (ns.flatMap nodeE)
  head : Box wr tb (v :: rest)
  ge : w0.heap.size ≤ tb
  ne : v.ownBlock ≠ some tb
  hb : Below w0.heap.size w0 wr
theorem GrowT.below {w0 wr w' : World} {tb : Nat} {v : Value} {rest : List Value} {ns : List NodeV} (h : GrowT w0 tb v rest ns wr) (hb : Below wr.heap.size wr w') : GrowT w0 tb v rest ns w' :=
  ⟨own_below h.own hb, h.head.below hb, h.ge, h.ne, h.hb.trans (hb.mono h.hb.size)⟩
theorem GrowT.put {w0 wr w' : World} {tb : Nat} {v v' : Value} {rest : List Value} {ns : List NodeV} {x : NodeV} (h : GrowT w0 tb v rest ns wr) (o : Obj)
    (h3 : w'.ownsRow w0.heap.size 49 44 v' (ns.length + 1) ((ns ++ [x]).flatMap nodeE)) (h4 : (wr.alloc o).grownBy w' v.ownBlock) (h5 : v'.ownBlock = v.ownBlock ∨ v'.ownBlock = some (wr.alloc o).heap.size) :
    GrowT w0 tb v' rest (ns ++ [x]) (w'.setCell ⟨tb, 0, none⟩ v') ∧ w'.cell? ⟨tb, 0, none⟩ = some v ∧ w'.frozen? ⟨tb, 0, none⟩ = false ∧ tb < w'.heap.size := by
  have ha := (Below.refl wr.heap.size wr).alloc (Nat.le_refl _) o
  have hk := h.below ha
  have hh := hk.head.grown h4 (Ne.symm h.ne)
  have hlt := h.head.lt
  have hv' : v'.ownBlock ≠ some tb := by
    rcases h5 with e | e
    · rw [e]; exact h.ne
    · rw [e]; intro e2; simp at e2; omega
  have hbel := hk.hb.grown h4 (by have := hk.hb.size; omega) (fun j hj => (h.own.lt j hj).1)
  have hbut : But [tb] w' (w'.setCell ⟨tb, 0, none⟩ v') := (But.refl _ _).set tb 0 (.inl (by simp)) _
  refine ⟨⟨own_but (by simpa using h3) hbut hv', ?_, h.ge, hv', hbel.setCell h.ge _⟩, hh.cell 0 _ rfl, hh.free 0 (by simp), hh.lt⟩
  exact hh.set 0 v' (by simp)
/-- What an append asks of the world in which the new node's row has been laid. -/
theorem GrowT.ready {w0 wr : World} {tb : Nat} {v : Value} {rest : List Value} {ns : List NodeV} (h : GrowT w0 tb v rest ns wr) (x : NodeV) (L : Obj) (hL : L = .cells ([x].flatMap nodeE).toArray 49) :
    (wr.alloc L).ownsRow w0.heap.size 49 44 v ns.length (ns.flatMap nodeE) ∧ w0.heap.size ≤ (wr.alloc L).heap.size ∧ Holds nodeE (wr.alloc L) (wr.alloc L).heap.size (some ⟨wr.heap.size, 0, none⟩) [x] ∧
    ∀ v' w', w'.ownsRow w0.heap.size 49 44 v' (ns.length + 1) ((ns ++ [x]).flatMap nodeE) → (wr.alloc L).grownBy w' v.ownBlock → (v'.ownBlock = v.ownBlock ∨ v'.ownBlock = some (wr.alloc L).heap.size) →
      GrowT w0 tb v' rest (ns ++ [x]) (w'.setCell ⟨tb, 0, none⟩ v') ∧ w'.cell? ⟨tb, 0, none⟩ = some v ∧ w'.frozen? ⟨tb, 0, none⟩ = false ∧ tb < w'.heap.size := by
  refine ⟨h.own.alloc L, ?_, ?_, fun v' w' h3 h4 h5 => h.put L h3 h4 h5⟩
  · have := h.hb.size
    simp
    omega
  · rw [hL]; exact Holds.lit (f := nodeE) wr [x] 49
/-- The slice of the nodes. -/
theorem GrowT.sl {w0 wr : World} {tb : Nat} {v : Value} {rest : List Value} {ns : List NodeV} (h : GrowT w0 tb v rest ns wr) : ∃ A c, v = .slice A ns.length c ∧ Sl nodeE wr A ns.length c ns ∧ New w0.heap.size A :=
  Sl.own h.own nodeE_len (by omega)
theorem GrowT.start (w : World) (rest : List Value) (t : TypeId) : GrowT w w.heap.size (.slice none 0 0) rest [] (w.alloc (.cells (Value.slice none 0 0 :: rest).toArray t)) :=
  ⟨World.ownsRow_nil _ _ _ _, Box.new w (Value.slice none 0 0 :: rest) t, Nat.le_refl _, by simp [Value.ownBlock], (Below.refl _ _).alloc (Nat.le_refl _) _⟩
end Go.Proofs.Ytcgblbbadbkdgaa
