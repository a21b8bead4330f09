/-
  Lists of things of so many cells each, as rows of cells: one thing's cells replaced; a row that was made. And worlds that differ in named blocks alone.
-/
import Derived.Test.YtnmfcbmdopmglaaHolds
namespace Go.Proofs.Ytnmfcbmdopmglaa
open Go.RowKit

section
variable {α : Type} {f : α → List Value} {size : Nat}
/-- The row of the list l, but for thing i, in whose place are the cells c. -/
def chunk (f : α → List Value) (l : List α) (i : Nat) (c : List Value) : List Value := (l.take i).flatMap f ++ c ++ (l.drop (i + 1)).flatMap f
theorem chunk_is {l : List α} {i : Nat} {x : α} (h : l[i]? = some x) : l.flatMap f = chunk f l i (f x) := by
  obtain ⟨hi, hx⟩ := List.getElem?_eq_some_iff.1 h
  unfold chunk
  conv => lhs; rw [← List.take_append_drop i l, List.flatMap_append, List.drop_eq_getElem_cons hi, List.flatMap_cons, hx]
  simp
theorem chunk_done {l : List α} {i : Nat} (y : α) (h : i < l.length) : chunk f l i (f y) = (l.set i y).flatMap f := by
  rw [chunk_is (l := l.set i y) (i := i) (x := y) (by simp [h])]
  unfold chunk
  rw [List.take_set, List.set_eq_of_length_le (by simp; omega), List.drop_set_of_lt (by omega)]
theorem chunk_len (hf : ∀ x, (f x).length = size) {l : List α} {i : Nat} {c : List Value} (h : i < l.length) (hc : c.length = size) : (chunk f l i c).length = l.length * size := by
  unfold chunk
  rw [List.length_append, List.length_append, flat_len hf, flat_len hf, hc, List.length_take, List.length_drop, show min i l.length = i by omega, ← Nat.succ_mul, ← Nat.add_mul]
  congr 1
  omega
theorem chunk_set (hf : ∀ x, (f x).length = size) {l : List α} {i r : Nat} {c : List Value} (u : Value) (h : i < l.length) (hr : r < c.length) : (chunk f l i c).set (i * size + r) u = chunk f l i (c.set r u) := by
  have hl : ((l.take i).flatMap f).length = i * size := by rw [flat_len hf, List.length_take, show min i l.length = i by omega]
  unfold chunk
  rw [List.append_assoc, List.set_append_right _ _ (by omega), hl, show i * size + r - i * size = r by omega, List.set_append_left _ _ hr, List.append_assoc]
theorem chunk_set0 (hf : ∀ x, (f x).length = size) {l : List α} {i : Nat} {c : List Value} (u : Value) (h : i < l.length) (hr : 0 < c.length) : (chunk f l i c).set (i * size) u = chunk f l i (c.set 0 u) := chunk_set hf u h hr
theorem chunk_get (hf : ∀ x, (f x).length = size) {l : List α} {i r : Nat} {c : List Value} (h : i < l.length) {u : Value} (hr : c[r]? = some u) : (chunk f l i c)[i * size + r]? = some u := by
  have hl : ((l.take i).flatMap f).length = i * size := by rw [flat_len hf, List.length_take, show min i l.length = i by omega]
  have hrl := (List.getElem?_eq_some_iff.1 hr).1
  unfold chunk
  rw [List.append_assoc, List.getElem?_append_right (by omega), hl, show i * size + r - i * size = r by omega, List.getElem?_append_left hrl, hr]

theorem flat_rep (x : α) : ∀ n, (List.replicate n x).flatMap f = (List.replicate n ()).flatMap (fun _ => f x)
  | 0 => rfl
  | n + 1 => by rw [List.replicate_succ, List.replicate_succ, List.flatMap_cons, List.flatMap_cons, flat_rep x n]
/-- What a box holds that is such a row. -/
theorem Box.chunk_cell {w : World} {g : Nat} (hf : ∀ x, (f x).length = size) {l : List α} {i : Nat} {c : List Value} (hb : Box w g (chunk f l i c)) (h : i < l.length) (r : Nat) {u : Value} (hr : c[r]? = some u) : w.cell? ⟨g, i * size + r, none⟩ = some u := hb.cell _ _ (chunk_get hf h hr)
theorem Box.chunk_free {w : World} {g : Nat} (hf : ∀ x, (f x).length = size) {l : List α} {i : Nat} {c : List Value} (hb : Box w g (chunk f l i c)) (h : i < l.length) (hc : c.length = size) (r : Nat) (hr : r < size) : w.frozen? ⟨g, i * size + r, none⟩ = false := by
  refine hb.free _ ?_
  rw [chunk_len hf h hc]
  have : (i + 1) * size ≤ l.length * size := Nat.mul_le_mul_right _ h
  rw [Nat.add_mul] at this
  omega
theorem Box.chunk_set {w : World} {g : Nat} (hf : ∀ x, (f x).length = size) {l : List α} {i : Nat} {c : List Value} (hb : Box w g (chunk f l i c)) (h : i < l.length) (hc : c.length = size) (r : Nat) (hr : r < size) (u : Value) : Box (w.setCell ⟨g, i * size + r, none⟩ u) g (chunk f l i (c.set r u)) := by
  have h2 := hb.set (i * size + r) u (by
    rw [chunk_len hf h hc]
    have : (i + 1) * size ≤ l.length * size := Nat.mul_le_mul_right _ h
    rw [Nat.add_mul] at this
    omega)
  rwa [Go.Proofs.Ytnmfcbmdopmglaa.chunk_set hf u h (by omega)] at h2
theorem made_flat {z : Value} {x : α} (hz : z.cells.toList = f x) (hs : (f x).length = size) (n : Nat) : (madeCells z.cells (n * size)).toList = (List.replicate n x).flatMap f := by
  have e : z.cells.size = size := by rw [← Array.length_toList, hz, hs]
  have hlen : ((List.replicate n x).flatMap f).length = n * size := by simp [hs]
  apply List.ext_getElem?
  intro j
  by_cases hj : j < n * size
  · rcases Nat.eq_zero_or_pos size with h0 | h0
    · subst h0; omega
    have hr : j % size < size := Nat.mod_lt _ h0
    have hi : j / size < n := (Nat.div_lt_iff_lt_mul h0).2 hj
    have hj' : j / size * size + j % size = j := by rw [Nat.mul_comm]; exact Nat.div_add_mod j size
    have hu : n * size = ((List.replicate n x).flatMap f).length := hlen.symm
    have hfr := flat_rep (f := f) x n
    have h1 := flat_get (f := fun _ : Unit => f x) (fun _ => hs) (List.replicate n ()) (j / size) (j % size) () ((f x)[j % size]'(by omega)) (by simp [hi]) (List.getElem?_eq_getElem (by omega))
    rw [← hfr] at h1
    rw [hj'] at h1
    rw [h1]
    have hb : j % z.cells.size < z.cells.size := by rw [e]; exact hr
    simp only [madeCells, Array.toList_map, Array.toList_range, List.getElem?_map, List.getElem?_range hj, Option.map_some, Option.some.injEq]
    rw [getElem!_pos z.cells _ hb]
    have : z.cells.toList[j % z.cells.size]? = (f x)[j % size]? := by rw [hz, e]
    rw [List.getElem?_eq_getElem (by simpa using hb), List.getElem?_eq_getElem (by omega)] at this
    simpa using this
  · rw [List.getElem?_eq_none (by simp [madeCells]; omega), List.getElem?_eq_none (by omega)]

theorem Box.made (w : World) {z : Value} {x : α} (hz : z.cells.toList = f x) (hs : (f x).length = size) (n : Nat) (e : TypeId) : Box (w.alloc (madeObj z (n * size) e)) w.heap.size ((List.replicate n x).flatMap f) := by
  have h := Box.new w ((List.replicate n x).flatMap f) e
  rw [← made_flat hz hs n] at h ⊢
  exact h
end

/-- The first k of n are a, the others b. -/
def rif {β : Type} (n k : Nat) (a b : β) : List β := (List.range n).map fun i => if i < k then a else b
theorem rif_len {β : Type} (n k : Nat) (a b : β) : (rif n k a b).length = n := by simp [rif]
theorem rif_zero {β : Type} (n : Nat) (a b : β) : rif n 0 a b = List.replicate n b := by
  apply List.ext_getElem <;> simp [rif]
theorem rif_all {β : Type} (n : Nat) (a b : β) : rif n n a b = List.replicate n a := by
  apply List.ext_getElem
  · simp [rif]
  · intro i h _
    simp [rif] at h
    simp [rif, h]
theorem rif_set {β : Type} {n k : Nat} (a b : β) : (rif n k a b).set k a = rif n (k + 1) a b := by
  apply List.ext_getElem
  · simp [rif]
  · intro i h1 h2
    simp only [rif, List.getElem_set, List.getElem_map, List.getElem_range]
    by_cases e : k = i
    · subst e; simp
    · simp only [e, if_false]
      by_cases h : i < k
      · simp [h, show i < k + 1 by omega]
      · simp [h, show ¬ i < k + 1 by omega]

/-- A box of numbers. -/
def IBox (w : World) (g : Nat) (F : List Int) : Prop := Box w g (F.map (Value.int .i64))
section
variable {w w' : World} {g : Nat} {F : List Int}
theorem IBox.below (h : IBox w g F) (hb : Below w.heap.size w w') : IBox w' g F := Box.below h hb
theorem IBox.made (w : World) (n : Nat) (z : Int) (e : TypeId) : IBox (w.alloc (madeObj (.int .i64 z) n e)) w.heap.size (List.replicate n z) := by
  have h := Box.made (f := intE) (x := z) w (z := .int .i64 z) rfl rfl n e
  rw [intE_flat, show n * (intE z).length = n from Nat.mul_one n] at h
  exact h
theorem IBox.at_ (h : IBox w g F) {i : Nat} {z : Int} (hz : F[i]? = some z) : w.cell? ⟨g, i, none⟩ = some (.int .i64 z) := h.cell i _ (by simp [hz])
theorem IBox.free_ (h : IBox w g F) {i : Nat} (hi : i < F.length) : w.frozen? ⟨g, i, none⟩ = false := h.free i (by simpa using hi)
theorem IBox.set_ (h : IBox w g F) {i : Nat} (hi : i < F.length) (z : Int) : IBox (w.setCell ⟨g, i, none⟩ (.int .i64 z)) g (F.set i z) := by
  have h2 := h.set i (.int .i64 z) (by simpa using hi)
  unfold IBox
  rw [List.map_set]
  exact h2
theorem IBox.off_ (h : IBox w g F) {q : Nat} (hq : q ≠ g) (i : Nat) (u : Value) : IBox (w.setCell ⟨q, i, none⟩ u) g F := h.off hq i u
theorem IBox.lt_ (h : IBox w g F) : g < w.heap.size := h.lt
end

/-- From w to w' nothing turns but in the blocks bs, and in new ones. -/
structure But (bs : List Nat) (w w' : World) : Prop where
  os : w'.os = w.os
  tape : w'.tape = w.tape
  output : w'.output = w.output
  size : w.heap.size ≤ w'.heap.size
  block : ∀ i, i < w.heap.size → i ∉ bs → w'.heap[i]? = w.heap[i]?

section
variable {bs cs : List Nat} {a b c w w' : World}
theorem But.refl (bs : List Nat) (w : World) : But bs w w := ⟨rfl, rfl, rfl, Nat.le_refl _, fun _ _ _ => rfl⟩
theorem But.trans (h : But bs a b) (k : But bs b c) : But bs a c :=
  ⟨k.os.trans h.os, k.tape.trans h.tape, k.output.trans h.output, Nat.le_trans h.size k.size, fun i hi hb => (k.block i (Nat.lt_of_lt_of_le hi h.size) hb).trans (h.block i hi hb)⟩
theorem But.mono (h : But bs a b) (hs : ∀ x ∈ bs, x ∈ cs) : But cs a b := ⟨h.os, h.tape, h.output, h.size, fun i hi hb => h.block i hi (fun hx => hb (hs i hx))⟩
theorem But.of (h : Below w.heap.size w w') : But bs w w' := ⟨h.os, h.tape, h.output, h.size, fun i hi _ => h.block i hi⟩
theorem But.below {B : Nat} (h : But bs w w') (hB : B ≤ w.heap.size) (hs : ∀ x ∈ bs, B ≤ x) : Below B w w' :=
  ⟨h.os, h.tape, h.output, h.size, fun i hi => h.block i (Nat.lt_of_lt_of_le hi hB) (fun hx => by have := hs i hx; omega)⟩
theorem But.alloc (h : But bs w w') (o : Obj) : But bs w (w'.alloc o) := h.trans (.of ((Below.refl _ _).alloc (Nat.le_refl _) o))
theorem But.drew (h : But bs w w') : But bs w w'.drew := ⟨h.os, h.tape, h.output, h.size, h.block⟩
theorem But.drewN (h : But bs w w') (n : Nat) : But bs w (w'.drewN n) := ⟨h.os, h.tape, h.output, h.size, h.block⟩
theorem But.set (h : But bs w w') (g i : Nat) (hg : g ∈ bs ∨ w.heap.size ≤ g) (u : Value) : But bs w (w'.setCell ⟨g, i, none⟩ u) :=
  ⟨h.os, h.tape, h.output, by simpa [World.setCell] using h.size, fun k hk hb => by
    rw [Below.heap_setCell _ ⟨g, i, none⟩ _ _ (by intro e; have e' : k = g := e; subst e'; rcases hg with hg | hg; exact hb hg; omega)]
    exact h.block k hk hb⟩
theorem Box.but {g : Nat} {cs : List Value} (h : Box w g cs) (hb : But bs w w') (hg : g ∉ bs) : Box w' g cs :=
  have e := hb.block g h.lt hg
  ⟨Nat.lt_of_lt_of_le h.lt hb.size, fun i u hu => (World.cell?_of_block (a := ⟨g, i, none⟩) e).trans (h.cell i u hu), fun i hi => (World.frozen?_of_block (a := ⟨g, i, none⟩) e).trans (h.free i hi)⟩
theorem IBox.but {g : Nat} {F : List Int} (h : IBox w g F) (hb : But bs w w') (hg : g ∉ bs) : IBox w' g F := Box.but h hb hg
theorem Sl.but {α : Type} {f : α → List Value} {A : Option Addr} {n c : Nat} {l : List α} (h : Sl f w A n c l) (hb : But bs w w') (ha : ∀ a, A = some a → a.block ∉ bs) : Sl f w' A n c l :=
  ⟨h.len, h.cap, h.nil, fun hl => by
    obtain ⟨a, e, hlt, hc⟩ := h.at_ hl
    refine ⟨a, e, Nat.lt_of_lt_of_le hlt hb.size, fun j u hu => (World.cell?_of_block (a := a.add j) ?_).trans (hc j u hu)⟩
    rw [add_block]
    exact hb.block _ hlt (ha a e)⟩
theorem below_but {B : Nat} (h : Below B a w) (hb : But bs w w') (hB : B ≤ w.heap.size) (hs : ∀ x ∈ bs, B ≤ x) : Below B a w' := h.trans (hb.below hB hs)
end
end Go.Proofs.Ytnmfcbmdopmglaa
