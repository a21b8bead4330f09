/-
  A published table in memory: its head, its cells, its values.
-/
import Derived.Test.YthkngenmdogpjaaGroup
import Derived.Test.YthkngenmdogpjaaChunk
import Derived.RegionTactic
import Derived.BigRegion
import Derived.Deep.DeepCutAuto
import Derived.Outline
namespace Go.Proofs.Ythkngenmdogpjaa
open Go.RowKit

/-- What a cell is: 0 as it was made, 1 when somebody may publish it, 2 when it is taken, 3 when it is published. -/
def cellS : Nat → List Value
  | 0 => [.int .u32 0, .int .u64 0, .int .u32 0]
  | 1 => [.int .u32 0, .int .u64 4294967296, .int .u32 0]
  | _ => [.int .u32 2, .int .u64 0, .int .u32 0]
theorem cellS_len : ∀ n, (cellS n).length = 3
  | 0 => rfl
  | 1 => rfl
  | _ + 2 => rfl
def stOf {α : Type} : Option α → Nat
  | none => 1
  | some _ => 2
def valE {α : Type} (f : α → List Value) (z0 : α) (x : Option α) : List Value := f (x.getD z0)
theorem valE_len {α : Type} {f : α → List Value} {z0 : α} {size : Nat} (hf : ∀ x, (f x).length = size) (x : Option α) : (valE f z0 x).length = size := hf _

/-- A pair, and the one of zeros. -/
structure Pair where
  a : Int
  b : ByteArray
def pairE (p : Pair) : List Value := [.int .i64 p.a, .string p.b]
def pair0 : Pair := ⟨0, ByteArray.empty⟩
def int0 : Int := 0
theorem pairE_len (p : Pair) : (pairE p).length = 2 := rfl
theorem pairE_one (p : Pair) : ∀ u ∈ pairE p, u.oneCell' = true := by intro u hu; simp [pairE] at hu; rcases hu with rfl | rfl <;> rfl

/-- Where the two parts of an element lie, as the walk writes it. -/
theorem Holds.pair {w : World} {B : Nat} {A : Option Addr} {l : List Pair} (h : Holds pairE w B A l) {i : Nat} {x : Pair} (hx : l[i]? = some x) :
    ∃ a, A = some a ∧ a.block < B ∧ w.cell? (a.add (i * 2)) = some (.int .i64 x.a) ∧ w.cell? ⟨(a.add (i * 2)).block, (a.add (i * 2)).off + 1, none⟩ = some (.string x.b) := by
  obtain ⟨a, rfl, hb, hc⟩ := h.get pairE_len hx
  refine ⟨a, rfl, hb, hc 0 _ rfl, ?_⟩
  rw [add_off _ _ _ (by omega)]
  exact hc 1 _ rfl

/-- The table at block tb, its cells in block cb, its values in block vb: those of l. -/
structure Tab {α : Type} (f : α → List Value) (z0 : α) (w : World) (tb cb vb : Nat) (l : List (Option α)) : Prop where
  head : Box w tb [.slice (some ⟨cb, 0, none⟩) l.length l.length, .slice (some ⟨vb, 0, none⟩) l.length l.length]
  cells : Box w cb ((l.map stOf).flatMap cellS)
  vals : Box w vb (l.flatMap (valE f z0))
  tc : tb ≠ cb
  tv : tb ≠ vb
  cv : cb ≠ vb

section
variable {α : Type} {f : α → List Value} {z0 : α} {w w' : World} {tb cb vb : Nat} {l : List (Option α)} {bs : List Nat}
theorem Tab.but (h : Tab f z0 w tb cb vb l) (hb : But bs w w') (h1 : tb ∉ bs) (h2 : cb ∉ bs) (h3 : vb ∉ bs) : Tab f z0 w' tb cb vb l :=
  ⟨h.head.but hb h1, h.cells.but hb h2, h.vals.but hb h3, h.tc, h.tv, h.cv⟩
theorem Tab.below (h : Tab f z0 w tb cb vb l) (hb : Below w.heap.size w w') : Tab f z0 w' tb cb vb l :=
  ⟨h.head.below hb, h.cells.below hb, h.vals.below hb, h.tc, h.tv, h.cv⟩
end

theorem infoCell : (Try.prog.info? 78).map (fun i => (i.zero, i.size, i.bytes)) = some (some (.agg #[.int .u32 0, .int .u64 0, .int .u32 0]), 3, 24) := by kernel_rfl

section
variable {α : Type} {f : α → List Value} {z0 : α} {w w' : World} {tb cb vb : Nat} {l : List (Option α)} {size : Nat}
theorem Tab.at_ (h : Tab f z0 w tb cb vb l) {k : Nat} {o : Option α} (hk : l[k]? = some o) :
    (∀ r u, (cellS (stOf o))[r]? = some u → w.cell? ⟨cb, k * 3 + r, none⟩ = some u) ∧ (∀ r, r < 3 → w.frozen? ⟨cb, k * 3 + r, none⟩ = false) := by
  have hl : k < (l.map stOf).length := by simpa using (List.getElem?_eq_some_iff.1 hk).1
  have hx : (l.map stOf)[k]? = some (stOf o) := by simp [hk]
  have hc := h.cells
  rw [chunk_is hx] at hc
  exact ⟨fun r u hr => hc.cell _ _ (chunk_get cellS_len hl hr), fun r hr => hc.free _ (by rw [chunk_len cellS_len hl (cellS_len _)]; simp at hl ⊢; omega)⟩
theorem Tab.val (h : Tab f z0 w tb cb vb l) (hf : ∀ x, (f x).length = size) {k : Nat} {o : Option α} (hk : l[k]? = some o) :
    (∀ r u, (f (o.getD z0))[r]? = some u → w.cell? ⟨vb, k * size + r, none⟩ = some u) ∧ (∀ r, r < size → w.frozen? ⟨vb, k * size + r, none⟩ = false) := by
  have hl : k < l.length := (List.getElem?_eq_some_iff.1 hk).1
  have hc := h.vals
  rw [chunk_is hk] at hc
  refine ⟨fun r u hr => hc.cell _ _ (chunk_get (valE_len hf) hl hr), fun r hr => hc.free _ ?_⟩
  rw [chunk_len (valE_len hf) hl (valE_len hf _)]
  have : (k + 1) * size ≤ l.length * size := Nat.mul_le_mul_right _ hl
  rw [Nat.add_mul] at this
  omega
/-- Cell k is published with x. -/
theorem Tab.put (h : Tab f z0 w tb cb vb l) {k : Nat} {o : Option α} (hk : l[k]? = some o) (x : α) (hc : Box w' cb (chunk cellS (l.map stOf) k (cellS 2))) (hv : Box w' vb (chunk (valE f z0) l k (f x))) (hh : Box w' tb [.slice (some ⟨cb, 0, none⟩) l.length l.length, .slice (some ⟨vb, 0, none⟩) l.length l.length]) :
    Tab f z0 w' tb cb vb (l.set k (some x)) := by
  have hl : k < l.length := (List.getElem?_eq_some_iff.1 hk).1
  refine ⟨by simpa using hh, ?_, ?_, h.tc, h.tv, h.cv⟩
  · rw [chunk_done 2 (by simpa using hl)] at hc
    rw [List.map_set]
    exact hc
  · have e : chunk (valE f z0) l k (valE f z0 (some x)) = _ := chunk_done (some x) hl
    rw [← e]
    exact hv
end

/-- What is at i: nothing, a cell, and what it was published with. -/
def slot {α : Type} (l : List (Option α)) (i : Int) : Option (Option α) := if 0 ≤ i then l[i.toNat]? else none
theorem slot_nat {α : Type} (l : List (Option α)) (k : Nat) : slot l k = l[k]? := by simp [slot]
def getE {α : Type} : Option (Option α) → Int
  | none => 1
  | some none => 4
  | some (some _) => 0
def putE {α : Type} : Option (Option α) → Int
  | none => 1
  | some none => 0
  | some (some _) => 3
theorem slot_cases {α : Type} (l : List (Option α)) (i : Int) : (slot l i = none ∧ (i < 0 ∨ (l.length : Int) ≤ i)) ∨ ∃ (k : Nat) (o : Option α), i = k ∧ l[k]? = some o ∧ slot l i = some o ∧ k < l.length := by
  by_cases h : 0 ≤ i
  · obtain ⟨k, rfl⟩ := Int.eq_ofNat_of_zero_le h
    rw [slot_nat]
    rcases hk : l[k]? with _ | o
    · exact .inl ⟨rfl, .inr (by have := List.getElem?_eq_none_iff.1 hk; omega)⟩
    · exact .inr ⟨k, o, rfl, hk, rfl, (List.getElem?_eq_some_iff.1 hk).1⟩
  · exact .inl ⟨by simp [slot, h], .inl (by omega)⟩

/-- How many are not published. -/
def leftOf {α : Type} : Option α → Nat
  | none => 1
  | some _ => 0
def leftN {α : Type} (l : List (Option α)) : Nat := (l.map leftOf).sum
theorem leftN_le {α : Type} : ∀ l : List (Option α), leftN l ≤ l.length
  | [] => by simp [leftN]
  | x :: l => by
    have h := leftN_le l
    simp only [leftN, List.map_cons, List.sum_cons, List.length_cons] at h ⊢
    cases x <;> simp only [leftOf] <;> omega
theorem leftN_succ {α : Type} {l : List (Option α)} {k : Nat} {o : Option α} (h : l[k]? = some o) : leftN (l.take (k + 1)) = leftN (l.take k) + leftOf o := by
  rw [List.take_add_one, h]
  simp [leftN]
theorem wrap64_small {x : Int} (h1 : -9223372036854775808 ≤ x) (h2 : x ≤ 9223372036854775807) : wrap64 x = x := by
  unfold wrap64
  omega

/-- What New's loop keeps: the first k cells may be published. -/
structure NewInv {α : Type} (f : α → List Value) (z0 : α) (w : World) (n k tb cb vb : Nat) (wr : World) : Prop where
  head : Box wr tb [.slice (some ⟨cb, 0, none⟩) n n, .slice (some ⟨vb, 0, none⟩) n n]
  cells : Box wr cb (((List.range n).map fun i => if i < k then 1 else 0).flatMap cellS)
  vals : Box wr vb ((List.replicate n (none : Option α)).flatMap (valE f z0))
  tc : tb ≠ cb
  tv : tb ≠ vb
  cv : cb ≠ vb
  t0 : w.heap.size ≤ tb
  c0 : w.heap.size ≤ cb
  v0 : w.heap.size ≤ vb
  bl : Below w.heap.size w wr

theorem range_zero (n : Nat) : ((List.range n).map fun i => if i < 0 then 1 else 0) = List.replicate n 0 := by
  apply List.ext_getElem <;> simp
theorem range_all (n : Nat) : ((List.range n).map fun i => if i < n then 1 else 0) = List.replicate n 1 := by
  apply List.ext_getElem
  · simp
  · intro i h _
    simp at h
    simp [h]
theorem range_set {n k : Nat} (_h : k < n) : ((List.range n).map fun i => if i < k then 1 else 0).set k 1 = (List.range n).map fun i => if i < k + 1 then 1 else 0 := by
  apply List.ext_getElem
  · simp
  · intro i h1 h2
    simp only [List.getElem_set, List.getElem_map, List.getElem_range]
    by_cases e : k = i
    · subst e; simp
    · simp only [e, if_false]
      by_cases h : i < k
      · simp [h, show i < k + 1 by omega]
      · simp [h, show ¬ i < k + 1 by omega]

theorem raw_cells (w : World) (n : Nat) (e : TypeId) : Box (w.alloc (madeObj (.agg #[.int .u32 0, .int .u64 0, .int .u32 0]) (n * 3) e)) w.heap.size (((List.range n).map fun i => if i < 0 then 1 else 0).flatMap cellS) := by
  rw [range_zero]
  exact Box.made (f := cellS) (x := 0) w rfl rfl n e
theorem raw_vals {α : Type} {f : α → List Value} {z0 : α} {z : Value} (w : World) (hz : z.cells.toList = f z0) (n : Nat) (e : TypeId) : Box (w.alloc (madeObj z (n * (f z0).length) e)) w.heap.size ((List.replicate n (none : Option α)).flatMap (valE f z0)) :=
  Box.made (f := valE f z0) (x := none) w hz rfl n e

theorem NewInv.step {α : Type} {f : α → List Value} {z0 : α} {w wr : World} {n k tb cb vb : Nat} (h : NewInv f z0 w n k tb cb vb wr) (hk : k < n) :
    NewInv f z0 w n (k + 1) tb cb vb (wr.setCell ⟨cb, k * 3 + 1, none⟩ (.int .u64 4294967296)) := by
  refine ⟨h.head.off (Ne.symm h.tc) _ _, ?_, h.vals.off h.cv _ _, h.tc, h.tv, h.cv, h.t0, h.c0, h.v0, h.bl.setCell h.c0 _⟩
  have hl : k < ((List.range n).map fun i => if i < k then 1 else 0).length := by simp [hk]
  have hx : ((List.range n).map fun i => if i < k then 1 else 0)[k]? = some 0 := by simp [hk]
  have h2 := h.cells.set (k * 3 + 1) (.int .u64 4294967296) (by rw [flat_len cellS_len]; simp; omega)
  rw [chunk_is hx, chunk_set cellS_len _ hl (by simp [cellS]), show (cellS 0).set 1 (.int .u64 4294967296) = cellS 1 by rfl, chunk_done 1 hl, range_set hk] at h2
  exact h2
theorem NewInv.at_ {α : Type} {f : α → List Value} {z0 : α} {w wr : World} {n k tb cb vb : Nat} (h : NewInv f z0 w n k tb cb vb wr) (hk : k < n) :
    wr.cell? ⟨cb, k * 3 + 1, none⟩ = some (.int .u64 0) ∧ wr.frozen? ⟨cb, k * 3 + 1, none⟩ = false ∧ wr.cell? ⟨cb, k * 3 + 2, none⟩ = some (.int .u32 0) := by
  have hl : k < ((List.range n).map fun i => if i < k then 1 else 0).length := by simp [hk]
  have hx : ((List.range n).map fun i => if i < k then 1 else 0)[k]? = some 0 := by simp [hk]
  have hc := h.cells
  rw [chunk_is hx] at hc
  exact ⟨hc.cell _ _ (chunk_get cellS_len hl (by rfl)), hc.free _ (by rw [chunk_len cellS_len hl (by rfl)]; simp; omega), hc.cell _ _ (chunk_get cellS_len hl (by rfl))⟩
theorem NewInv.done {α : Type} {f : α → List Value} {z0 : α} {w wr : World} {n tb cb vb : Nat} (h : NewInv f z0 w n n tb cb vb wr) :
    Tab f z0 wr tb cb vb (List.replicate n none) := by
  refine ⟨by simpa using h.head, ?_, h.vals, h.tc, h.tv, h.cv⟩
  have hc := h.cells
  rw [range_all] at hc
  simpa [stOf] using hc

theorem new_start1 {α : Type} {f : α → List Value} {z0 : α} {z : Value} (w : World) (hz : z.cells.toList = f z0) (n m : Nat) (hm : m = n * (f z0).length) (e1 e2 e3 : TypeId) :
    NewInv f z0 w n 0 (w.heap.size + 1 + 1) w.heap.size (w.heap.size + 1) (((w.alloc (madeObj (.agg #[.int .u32 0, .int .u64 0, .int .u32 0]) (n * 3) e1)).alloc (madeObj z m e2)).alloc
      (.cells #[.slice (some ⟨w.heap.size, 0, none⟩) n n, .slice (some ⟨w.heap.size + 1, 0, none⟩) n n] e3)).drew := by
  subst hm
  refine ⟨Box.drew ?_, (((raw_cells w n e1).alloc _).alloc _).drew, Box.drew (Box.alloc ?_ _), by omega, by omega, by omega, by omega, by omega, by omega, ((((Below.refl _ _).alloc (Nat.le_refl _) _).alloc (by simp) _).alloc (by simp; omega) _).drew⟩
  · have h := Box.new ((w.alloc (madeObj (.agg #[.int .u32 0, .int .u64 0, .int .u32 0]) (n * 3) e1)).alloc (madeObj z (n * (f z0).length) e2)) [.slice (some ⟨w.heap.size, 0, none⟩) n n, .slice (some ⟨w.heap.size + 1, 0, none⟩) n n] e3
    simpa using h
  · have h := raw_vals (f := f) (w.alloc (madeObj (.agg #[.int .u32 0, .int .u64 0, .int .u32 0]) (n * 3) e1)) hz n e2
    simpa using h
theorem new_start2 {α : Type} {f : α → List Value} {z0 : α} {z : Value} (w : World) (hz : z.cells.toList = f z0) (n m : Nat) (hm : m = n * (f z0).length) (e1 e2 e3 : TypeId) :
    NewInv f z0 w n 0 (w.heap.size + 1 + 1) (w.heap.size + 1) w.heap.size (((w.alloc (madeObj z m e2)).alloc (madeObj (.agg #[.int .u32 0, .int .u64 0, .int .u32 0]) (n * 3) e1)).alloc
      (.cells #[.slice (some ⟨w.heap.size + 1, 0, none⟩) n n, .slice (some ⟨w.heap.size, 0, none⟩) n n] e3)).drew := by
  subst hm
  refine ⟨Box.drew ?_, Box.drew (Box.alloc ?_ _), (((raw_vals (f := f) w hz n e2).alloc _).alloc _).drew, by omega, by omega, by omega, by omega, by omega, by omega, ((((Below.refl _ _).alloc (Nat.le_refl _) _).alloc (by simp) _).alloc (by simp; omega) _).drew⟩
  · have h := Box.new ((w.alloc (madeObj z (n * (f z0).length) e2)).alloc (madeObj (.agg #[.int .u32 0, .int .u64 0, .int .u32 0]) (n * 3) e1)) [.slice (some ⟨w.heap.size + 1, 0, none⟩) n n, .slice (some ⟨w.heap.size, 0, none⟩) n n] e3
    simpa using h
  · have h := raw_cells (w.alloc (madeObj z (n * (f z0).length) e2)) n e1
    simpa using h

end Go.Proofs.Ythkngenmdogpjaa
