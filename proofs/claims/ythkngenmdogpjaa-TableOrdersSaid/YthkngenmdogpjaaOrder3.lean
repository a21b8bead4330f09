/-
  Orders of cells, and what a table holds that is filled by one.
-/
import Derived.Test.YthkngenmdogpjaaPlay
namespace Go.Proofs.Ythkngenmdogpjaa
open Go.RowKit

def ordI (n : Nat) : List Int := (List.range n).map fun i : Nat => (i : Int)
def upTo (n k : Nat) : List Int := (List.range n).map fun i : Nat => if i < k then (i : Int) else 0
theorem upTo_zero (n : Nat) : upTo n 0 = List.replicate n 0 := by
  apply List.ext_getElem <;> simp [upTo]
theorem upTo_all (n : Nat) : upTo n n = ordI n := by
  apply List.ext_getElem
  · simp [upTo, ordI]
  · intro i h _
    simp [upTo] at h
    simp [upTo, ordI, h]
theorem upTo_len (n k : Nat) : (upTo n k).length = n := by simp [upTo]
theorem upTo_set (n k : Nat) : (upTo n k).set k (k : Int) = upTo n (k + 1) := by
  apply List.ext_getElem
  · simp [upTo]
  · intro i h1 h2
    simp only [upTo, List.getElem_set, List.getElem_map, List.getElem_range]
    by_cases e : k = i
    · subst e; simp
    · simp only [e, if_false]
      by_cases h : i < k
      · simp [h, show i < k + 1 by omega]
      · simp [h, show ¬ i < k + 1 by omega]

/-- F is an order of the numbers below n. -/
def OrdOk (n : Nat) (F : List Int) : Prop := F.Perm (ordI n)
theorem OrdOk.len {n : Nat} {F : List Int} (h : OrdOk n F) : F.length = n := by rw [List.Perm.length_eq h]; simp [ordI]
theorem OrdOk.at_ {n : Nat} {F : List Int} (h : OrdOk n F) {i : Nat} (hi : i < n) : ∃ p : Nat, F[i]? = some (p : Int) ∧ p < n := by
  have hl : i < F.length := by rw [h.len]; exact hi
  have hm : F[i] ∈ ordI n := (List.Perm.mem_iff h).1 (List.getElem_mem hl)
  simp only [ordI, List.mem_map, List.mem_range] at hm
  obtain ⟨p, hp, e⟩ := hm
  exact ⟨p, by rw [List.getElem?_eq_getElem hl, ← e], hp⟩
theorem OrdOk.nodup {n : Nat} {F : List Int} (h : OrdOk n F) : F.Nodup := by
  rw [List.Perm.nodup_iff h, ordI]
  exact List.Pairwise.map _ (fun a b hab => by omega) (List.nodup_range (n := n))
theorem OrdOk.swap {n : Nat} {F : List Int} (h : OrdOk n F) {i j : Nat} {a b : Int} (hi : F[i]? = some a) (hj : F[j]? = some b) : OrdOk n ((F.set i b).set j a) := by
  obtain ⟨h1, rfl⟩ := List.getElem?_eq_some_iff.1 hi
  obtain ⟨h2, rfl⟩ := List.getElem?_eq_some_iff.1 hj
  exact (List.set_set_perm h1 h2).trans h

/-- A table into which the first k cells of an order are put. -/
structure PutInv (n : Nat) (l : List Pair) (F : List Int) (k : Nat) (T : List (Option Pair)) : Prop where
  lenT : T.length = n
  cnt : leftN T + k = n
  rel : ∀ (p : Nat) (x : Pair), T[p]? = some (some x) → l[p]? = some x
  new : ∀ (i p : Nat), k ≤ i → F[i]? = some (p : Int) → T[p]? = some none
theorem PutInv.start {n : Nat} (l : List Pair) {F : List Int} (hF : OrdOk n F) : PutInv n l F 0 (List.replicate n none) := by
  refine ⟨by simp, by simp [leftN, leftOf], fun p x h => ?_, fun i p _ hi => ?_⟩
  · obtain ⟨_, h2⟩ := List.getElem?_eq_some_iff.1 h
    simp at h2
  · have hl := (List.getElem?_eq_some_iff.1 hi).1
    rw [hF.len] at hl
    obtain ⟨q, hq, hqn⟩ := hF.at_ hl
    rw [hi] at hq
    have : p = q := by have := Option.some.inj hq; omega
    subst this
    simp [hqn]
theorem PutInv.put {n : Nat} {l : List Pair} {F : List Int} {k : Nat} {T : List (Option Pair)} (h : PutInv n l F k T) (hF : OrdOk n F) {p : Nat} {x : Pair} (hk : F[k]? = some (p : Int)) (hx : l[p]? = some x) :
    PutInv n l F (k + 1) (T.set p (some x)) := by
  have hn := h.new k p (Nat.le_refl _) hk
  refine ⟨by simpa using h.lenT, by have := leftN_set (x := x) hn; have := h.cnt; omega, fun q y hq => ?_, fun i q hi hq => ?_⟩
  · by_cases e : p = q
    · subst e
      rw [List.getElem?_set_self (List.getElem?_eq_some_iff.1 hn).1] at hq
      cases hq
      exact hx
    · rw [List.getElem?_set_ne e] at hq
      exact h.rel q y hq
  · have hne : p ≠ q := by
      rintro rfl
      have := (List.getElem?_inj (List.getElem?_eq_some_iff.1 hk).1 hF.nodup).1 (hk.trans hq.symm)
      omega
    rw [List.getElem?_set_ne hne]
    exact h.new i q (by omega) hq
theorem PutInv.fin {n : Nat} {l : List Pair} {F : List Int} {T : List (Option Pair)} (h : PutInv n l F n T) (hl : l.length = n) : leftN T = 0 ∧ allVP T = l := by
  have h0 : leftN T = 0 := by have := h.cnt; omega
  refine ⟨h0, List.ext_getElem? fun p => ?_⟩
  by_cases hp : p < n
  · obtain ⟨x, hx⟩ := leftN_some h0 (List.getElem?_eq_getElem (show p < T.length by rw [h.lenT]; exact hp))
    have hT : T[p]? = some (some x) := by rw [List.getElem?_eq_getElem (by rw [h.lenT]; exact hp), hx]
    rw [h.rel p x hT]
    simp [allVP, hT]
  · rw [List.getElem?_eq_none (by simp [allVP, h.lenT]; omega), List.getElem?_eq_none (by omega)]

/-- The order's memory. -/
structure Ord (W w : World) (ob : Nat) (F : List Int) : Prop where
  box : IBox w ob F
  bl : Below W.heap.size W w
  o0 : W.heap.size ≤ ob
theorem Ord.mark {W w : World} {ob : Nat} {F : List Int} (h : Ord W w ob F) {i : Nat} (hi : i < F.length) (z : Int) : Ord W (w.setCell ⟨ob, i, none⟩ (.int .i64 z)) ob (F.set i z) :=
  ⟨h.box.set_ hi z, h.bl.setCell h.o0 _, h.o0⟩
theorem Ord.drew {W w : World} {ob : Nat} {F : List Int} (h : Ord W w ob F) : Ord W w.drew ob F := ⟨Box.drew h.box, h.bl.drew, h.o0⟩
theorem Ord.new {W w1 w2 : World} {ob n tb cb vb : Nat} {F : List Int} (h : Ord W w1 ob F) (hN : NewInv pairE pair0 w1 n n tb cb vb w2) : St W w2 tb cb vb ob (List.replicate n none) F := by
  have := h.box.lt_
  have := h.bl.size
  have := hN.t0
  have := hN.c0
  have := hN.v0
  exact ⟨hN.done, h.box.below hN.bl, h.bl.trans (hN.bl.mono h.bl.size), by omega, by omega, by omega, h.o0, by omega, by omega, by omega⟩
end Go.Proofs.Ythkngenmdogpjaa
