/-
  Package text: Words: what its loop over the places keeps.
-/
import Derived.Test.YtnmfcbmdopmglaaPlaces
import Derived.Test.YtnmfcbmdopmglaaRWords
import Derived.Test.YtnmfcbmdopmglaaRound
import Derived.RangeFuncBox
namespace Go.Proofs.Ytnmfcbmdopmglaa
open Go.RowKit Go.Shelf
set_option linter.unusedVariables false

/-- From W to W' nothing turns below g, and whatever is no cells lies as it lay. -/
structure Keep (g : Nat) (W W' : World) : Prop where
  o : KeepsOthers W W'
  b : Below g W W'
theorem Keep.refl (g : Nat) (W : World) : Keep g W W := ⟨KeepsOthers.refl _, Below.refl _ _⟩
theorem Keep.trans {g : Nat} {A B C : World} (h : Keep g A B) (k : Keep g B C) : Keep g A C := ⟨h.o.trans k.o, h.b.trans k.b⟩
theorem Keep.below {g : Nat} {W W' : World} (h : Below W.heap.size W W') (hg : g ≤ W.heap.size) : Keep g W W' :=
  ⟨⟨h.size, fun k o hk _ => (h.block k (Array.getElem?_eq_some_iff.1 hk).1).trans hk⟩, h.mono hg⟩
theorem Keep.set {g : Nat} (W : World) (b i : Nat) (v : Value) (hg : g ≤ b) : Keep g W (W.setCell ⟨b, i, none⟩ v) := ⟨KeepsOthers.setCell _ _ _, (Below.refl _ _).setCell (p := ⟨b, i, none⟩) hg v⟩
theorem Keep.grown {g base n size : Nat} {e : TypeId} {W W' : World} {v : Value} {xs : List Value} (hr : W.ownsRow base e size v n xs) (h : W.grownBy W' v.ownBlock) (hg : g ≤ base) (hW : g ≤ W.heap.size) : Keep g W W' := by
  refine ⟨KeepsOthers.of_grownBy h fun j o ej hj => ?_, (Below.refl g W).grown h hW (fun j hj => Nat.le_trans hg (hr.lt j hj).1)⟩
  rcases hr.2 with ⟨rfl, _⟩ | ⟨b, cap, cur, rfl, _, hb, _⟩
  · simp [Value.ownBlock] at ej
  · obtain rfl : b = j := by simpa [Value.ownBlock] using ej
    rw [hb] at hj; cases hj; rfl

theorem Box.own {W W' : World} {b : Nat} {u : Value} {cs : List Value} {row : Option Nat} (h : Box W b (u :: cs)) (hg : W.grownBy W' row) (hr : ∀ r, row = some r → ∃ o : Obj, W.heap[r]? = some o ∧ o.isCells = false) : Box W' b (u :: cs) := by
  refine h.grown hg (fun e => ?_)
  obtain ⟨o, ho, hc⟩ := hr b e.symm
  obtain ⟨o', ho', hc'⟩ := cells_of_cell (h.cell 0 u rfl)
  rw [ho] at ho'; cases ho'; rw [hc] at hc'; cases hc'
theorem row_own {W W' : World} {base n size : Nat} {e : TypeId} {v : Value} {xs : List Value} {row : Option Nat} (h : W.ownsRow base e size v n xs) (hg : W.grownBy W' row) (hr : ∀ r, row = some r → ∃ o : Obj, W.heap[r]? = some o ∧ o.isCells = false) : W'.ownsRow base e size v n xs := by
  refine h.kept hg ?_
  rcases h.2 with ⟨rfl, _⟩ | ⟨b, cap, cur, rfl, _, hb, _⟩
  · exact .inl rfl
  · refine .inr (fun e => ?_)
    obtain ⟨o, ho, hc⟩ := hr b (by simpa [Value.ownBlock] using e.symm)
    rw [hb] at ho; cases ho; cases hc

theorem rowSl {α : Type} {f : α → List Value} {size : Nat} {w : World} {base : Nat} {e : TypeId} {E : Option Addr} {n c : Nat} {l : List α} (h : w.ownsRow base e size (.slice E n c) n (l.flatMap f)) (hf : ∀ x, (f x).length = size) (hsz : 0 < size) : Sl f w E n c l ∧ New base E := by
  obtain ⟨E', c', he, h1, h2⟩ := Sl.own h hf hsz
  cases he
  exact ⟨h1, h2⟩
theorem row_drew {w : World} {base n size : Nat} {e : TypeId} {v : Value} {xs : List Value} (h : w.ownsRow base e size v n xs) : w.drew.ownsRow base e size v n xs := h
/-- The block of the deferred calls is closed. -/
theorem row_put {w : World} {base n size D : Nat} {e : TypeId} {v : Value} {xs : List Value} {o o' : Obj} (h : w.ownsRow base e size v n xs) (hD : w.heap[D]? = some o) (hc : o.isCells = false) : (w.putObj D o').ownsRow base e size v n xs :=
  row_own h (grownBy_putObj' w D o') (fun r e => by cases e; exact ⟨o, hD, hc⟩)
theorem cell_put {w : World} {D : Nat} {a : Addr} {v : Value} {o o' : Obj} (h : w.cell? a = some v) (hD : w.heap[D]? = some o) (hc : o.isCells = false) : (w.putObj D o').cell? a = some v :=
  cell_kept h (grownBy_putObj' w D o') (fun r e => by cases e; exact ⟨o, hD, hc⟩)
theorem keep_drew {g : Nat} (W : World) : Keep g W W.drew := ⟨KeepsOthers.drew _, (Below.refl _ _).drew⟩

/-- What the loop of Words keeps. -/
structure WI (w0 : World) (n c m d : Nat) (U B : Option Addr) (A u : List Int) (ps : List Plc) (v : Value) (W : World) : Prop where
  b2 : Box W w0.heap.size [.slice U n c]
  b3 : Box W (w0.heap.size + 1) [.slice B m d]
  b4 : Box W (w0.heap.size + 2) [v]
  b5 : Box W (w0.heap.size + 3) [.bool (fars A u ps)]
  b6 : Box W (w0.heap.size + 4) [.int .i64 (cutI (adv A 32))]
  b7 : Box W (w0.heap.size + 5) [.bool (farI (adv A 32))]
  b8 : Box W (w0.heap.size + 6) [.slice U n c]
  row : W.ownsRow (w0.heap.size + 7) 58 5 v (wrds A u ps).length ((wrds A u ps).flatMap wrdE)
  hb : Below w0.heap.size w0 W
section
variable {w0 W W' : World} {n c m d : Nat} {U B : Option Addr} {A u : List Int} {ps : List Plc} {v v' : Value}
theorem WI.below (h : WI w0 n c m d U B A u ps v W) (hb : Below W.heap.size W W') : WI w0 n c m d U B A u ps v W' :=
  ⟨h.b2.below hb, h.b3.below hb, h.b4.below hb, h.b5.below hb, h.b6.below hb, h.b7.below hb, h.b8.below hb, own_below h.row hb, h.hb.trans (hb.mono h.hb.size)⟩
theorem WI.own (h : WI w0 n c m d U B A u ps v W) {row : Option Nat} (hg : W.grownBy W' row) (hr : ∀ r, row = some r → w0.heap.size ≤ r ∧ ∃ o : Obj, W.heap[r]? = some o ∧ o.isCells = false) : WI w0 n c m d U B A u ps v W' := by
  have hr2 := fun r e => (hr r e).2
  exact ⟨h.b2.own hg hr2, h.b3.own hg hr2, h.b4.own hg hr2, h.b5.own hg hr2, h.b6.own hg hr2, h.b7.own hg hr2, h.b8.own hg hr2, row_own h.row hg hr2, h.hb.grown hg h.hb.size (fun j hj => (hr j hj).1)⟩
theorem WI.cells (h : WI w0 n c m d U B A u ps v W) : W.cell? ⟨w0.heap.size, 0, none⟩ = some (.slice U n c) ∧ W.cell? ⟨w0.heap.size + 1, 0, none⟩ = some (.slice B m d) ∧ W.cell? ⟨w0.heap.size + 2, 0, none⟩ = some v ∧ W.cell? ⟨w0.heap.size + 3, 0, none⟩ = some (.bool (fars A u ps)) ∧
    W.cell? ⟨w0.heap.size + 4, 0, none⟩ = some (.int .i64 (cutI (adv A 32))) ∧ W.cell? ⟨w0.heap.size + 5, 0, none⟩ = some (.bool (farI (adv A 32))) ∧ W.frozen? ⟨w0.heap.size + 2, 0, none⟩ = false ∧ W.frozen? ⟨w0.heap.size + 3, 0, none⟩ = false :=
  ⟨h.b2.cell 0 _ rfl, h.b3.cell 0 _ rfl, h.b4.cell 0 _ rfl, h.b5.cell 0 _ rfl, h.b6.cell 0 _ rfl, h.b7.cell 0 _ rfl, h.b4.free 0 (by simp), h.b5.free 0 (by simp)⟩
theorem WI.kp (h : WI w0 n c m d U B A u ps v W) {qs : List Plc} (h' : WI w0 n c m d U B A u qs v' W') (hk : Keep w0.heap.size W W') : KpB w0.heap.size (w0.heap.size + 6) W W' := ⟨hk.b, (h'.b8.cell 0 _ rfl).trans (h.b8.cell 0 _ rfl).symm⟩
/-- An append to the row of words. -/
theorem WI.grown {o : Obj} {l : List Wrd} {k : Nat} (h : WI w0 n c m d U B A u ps v W) (hg : (W.alloc o).grownBy W' v.ownBlock) :
    Box W' w0.heap.size [.slice U n c] ∧ Box W' (w0.heap.size + 1) [.slice B m d] ∧ Box W' (w0.heap.size + 2) [v] ∧ Box W' (w0.heap.size + 3) [.bool (fars A u ps)] ∧ Box W' (w0.heap.size + 4) [.int .i64 (cutI (adv A 32))] ∧ Box W' (w0.heap.size + 5) [.bool (farI (adv A 32))] ∧ Box W' (w0.heap.size + 6) [.slice U n c] ∧ Keep w0.heap.size W W' := by
  have hne : ∀ i, i < 7 → some (w0.heap.size + i) ≠ v.ownBlock := fun i hi e => by have := (h.row.lt _ e.symm).1; omega
  have hw := h.hb.size
  have hz : (W.alloc o).heap.size = W.heap.size + 1 := by simp
  refine ⟨(h.b2.alloc o).grown hg (hne 0 (by omega)), (h.b3.alloc o).grown hg (hne 1 (by omega)), (h.b4.alloc o).grown hg (hne 2 (by omega)), (h.b5.alloc o).grown hg (hne 3 (by omega)), (h.b6.alloc o).grown hg (hne 4 (by omega)), (h.b7.alloc o).grown hg (hne 5 (by omega)), (h.b8.alloc o).grown hg (hne 6 (by omega)), ?_⟩
  exact (Keep.below ((Below.refl _ _).alloc (Nat.le_refl _) o) hw).trans (Keep.grown (own_below h.row ((Below.refl _ _).alloc (Nat.le_refl _) o)) hg (by omega) (by omega))
theorem WI.step {o : Obj} {y : Wrd} {b' : Bool} {p : Plc} (h : WI w0 n c m d U B A u ps v W) (hr : W'.ownsRow (w0.heap.size + 7) 58 5 v' ((wrds A u ps).length + 1) ((wrds A u ps ++ [y]).flatMap wrdE)) (hg : (W.alloc o).grownBy W' v.ownBlock)
    (hy : y = wrdOf A u ps.isEmpty p) (hb' : b' = (fars A u ps || farOf A u ps.isEmpty p)) :
    WI w0 n c m d U B A u (ps ++ [p]) v' ((W'.setCell ⟨w0.heap.size + 2, 0, none⟩ v').setCell ⟨w0.heap.size + 3, 0, none⟩ (.bool b')) ∧ Keep w0.heap.size W ((W'.setCell ⟨w0.heap.size + 2, 0, none⟩ v').setCell ⟨w0.heap.size + 3, 0, none⟩ (.bool b')) := by
  obtain ⟨g2, g3, g4, g5, g6, g7, g8, hk⟩ := h.grown (l := []) (k := 0) hg
  have hk2 := hk.trans ((Keep.set (g := w0.heap.size) W' (w0.heap.size + 2) 0 v' (by omega)).trans (Keep.set (g := w0.heap.size) _ (w0.heap.size + 3) 0 (.bool b') (by omega)))
  refine ⟨⟨(g2.off (by omega) 0 _).off (by omega) 0 _, (g3.off (by omega) 0 _).off (by omega) 0 _, (g4.set 0 v' (by simp)).off (by omega) 0 _, ?_, (g6.off (by omega) 0 _).off (by omega) 0 _, (g7.off (by omega) 0 _).off (by omega) 0 _, (g8.off (by omega) 0 _).off (by omega) 0 _, ?_, h.hb.trans hk2.b⟩, hk2⟩
  · rw [fars_snoc, ← hb']
    exact (g5.off (by omega) 0 _).set 0 (.bool b') (by simp)
  · rw [wrds_snoc, ← hy, List.length_append]
    have hne : ∀ i, i < 7 → v'.ownBlock ≠ some (w0.heap.size + i) := fun i hi e => by have := (hr.lt _ e).1; omega
    have h1 := hr.kept (row := some (w0.heap.size + 2)) (grownBy_setCell' W' (w0.heap.size + 2) v') (.inr (hne 2 (by omega)))
    exact h1.kept (row := some (w0.heap.size + 3)) (grownBy_setCell' _ (w0.heap.size + 3) (.bool b')) (.inr (hne 3 (by omega)))
theorem WI.start (w : World) (n c m d : Nat) (U B : Option Addr) (A u : List Int) (t1 t2 t3 t4 t5 t6 t7 : TypeId) :
    WI w n c m d U B A u [] (.slice none 0 0) (((((((w.alloc (.cells #[.slice U n c] t1)).alloc (.cells #[.slice B m d] t2)).alloc (.cells #[.slice none 0 0] t3)).alloc (.cells #[.bool false] t4)).alloc (.cells #[.int .i64 (cutI (adv A 32))] t5)).alloc (.cells #[.bool (farI (adv A 32))] t6)).alloc (.cells #[.slice U n c] t7)) := by
  have hb0 := Below.refl w.heap.size w
  have step : ∀ (W : World) (k : Nat) (v : Value) (t : TypeId), W.heap.size = w.heap.size + k → Below w.heap.size w W → Box (W.alloc (.cells #[v] t)) (w.heap.size + k) [v] ∧ (W.alloc (.cells #[v] t)).heap.size = w.heap.size + (k + 1) ∧ Below w.heap.size w (W.alloc (.cells #[v] t)) := by
    intro W k v t hz hb
    have h := Box.new W [v] t
    rw [hz] at h
    exact ⟨h, by simp [hz]; omega, hb.alloc hb.size _⟩
  obtain ⟨x2, z1, h1⟩ := step w 0 (.slice U n c) t1 rfl hb0
  obtain ⟨x3, z2, h2⟩ := step _ 1 (.slice B m d) t2 z1 h1
  obtain ⟨x4, z3, h3⟩ := step _ 2 (.slice none 0 0) t3 z2 h2
  obtain ⟨x5, z4, h4⟩ := step _ 3 (.bool false) t4 z3 h3
  obtain ⟨x6, z5, h5⟩ := step _ 4 (.int .i64 (cutI (adv A 32))) t5 z4 h4
  obtain ⟨x7, z6, h6⟩ := step _ 5 (.bool (farI (adv A 32))) t6 z5 h5
  obtain ⟨x8, z7, h7⟩ := step _ 6 (.slice U n c) t7 z6 h6
  exact ⟨(((((x2.alloc _).alloc _).alloc _).alloc _).alloc _).alloc _, ((((x3.alloc _).alloc _).alloc _).alloc _).alloc _, (((x4.alloc _).alloc _).alloc _).alloc _, ((x5.alloc _).alloc _).alloc _, (x6.alloc _).alloc _, x7.alloc _, x8, World.ownsRow_nil _ _ _ _, h7⟩
theorem WI.base (h : WI w0 n c m d U B A u ps v W) : w0.heap.size + 7 ≤ W.heap.size := h.b8.lt
end
end Go.Proofs.Ytnmfcbmdopmglaa
