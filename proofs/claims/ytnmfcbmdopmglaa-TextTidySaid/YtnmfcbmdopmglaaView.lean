/-
  How arguments are read: slices of elements of any type, by a reader of one element.
-/
import Derived.Test.YtnmfcbmdopmglaaHolds
import Derived.Deep.Slices
import Derived.ProofKit
import Derived.OpenShut
namespace Go.Proofs.Ytnmfcbmdopmglaa
open Go.ChangeShapes Go.WideShapes Go.RowKit Go.Deep

theorem flat_inv {α : Type} {f : α → List Value} {size : Nat} (hf : ∀ x, (f x).length = size) : ∀ (l : List α) (j : Nat) (u : Value), (l.flatMap f)[j]? = some u → ∃ i r x, j = i * size + r ∧ l[i]? = some x ∧ (f x)[r]? = some u
  | [], j, u, h => by simp at h
  | y :: l, j, u, h => by
    rw [List.flatMap_cons] at h
    by_cases hj : j < (f y).length
    · rw [List.getElem?_append_left hj] at h
      exact ⟨0, j, y, by omega, rfl, h⟩
    · rw [List.getElem?_append_right (by omega), hf] at h
      obtain ⟨i, r, x, e, hx, hu⟩ := flat_inv hf l _ u h
      rw [hf] at hj
      exact ⟨i + 1, r, x, by rw [Nat.add_mul]; omega, by simpa using hx, hu⟩

section
variable {H : Type} {enc : TypeId × Value → H} {P : Program} {W : World} {v : Value} {d : DataW H} {p : List MemPlace} {base : Nat}

theorem view_slice {α : Type} (f : α → List Value) (ok : α → Prop) (size : Nat) {t e : TypeId} (ht : P.underlying t = some (.slice e)) (hC : P.cellsOf e = size) (hf : ∀ x, (f x).length = size)
    (hread : ∀ (cs : List Value) (fuel : Nat) (x : DataW H × List MemPlace), cs.length = size → DataW.trod enc P W 0 (fun _ => true) true fuel e cs = some x → ∃ r, cs = f r ∧ ok r)
    (hok : Value.okWide P W .any base t v) (h : DataW.Trod enc P W 0 (fun _ => true) true t v d p) (hsz : 0 < size) :
    ∃ (A : Option Addr) (n c : Nat) (l : List α), v = .slice A n c ∧ c ≤ maxLen ∧ Sl f W A n c l ∧ ∀ r ∈ l, ok r := by
  obtain ⟨A, n, c, rfl⟩ := okWide_slice ht hok
  obtain ⟨fuel, hfu⟩ := h
  rcases open_slice ht hfu with ⟨hcs, _⟩ | ⟨a, len, cap, m, n', D, Pl, hcs, _, hlc, hm, hmm, _, hi⟩
  · simp [Value.cells] at hcs
    obtain ⟨rfl, rfl, rfl⟩ := hcs
    exact ⟨none, 0, 0, [], rfl, Nat.zero_le _, Sl.none_ W, fun r hr => by cases hr⟩
  · simp [Value.cells] at hcs
    obtain ⟨rfl, rfl, rfl⟩ := hcs
    have hnm : n ≤ m := by rw [hmm]; split <;> omega
    have key : ∀ k, k ≤ n → ∃ l : List α, l.length = k ∧ ∀ i x, l[i]? = some x → ok x ∧ ∀ r u, (f x)[r]? = some u → W.cell? (a.add (i * size + r)) = some u := by
      intro k
      induction k with
      | zero => exact fun _ => ⟨[], rfl, fun i x hx => by simp at hx⟩
      | succ k ih =>
        intro hk
        obtain ⟨l, hl, hall⟩ := ih (by omega)
        obtain ⟨cs', hc, htr⟩ := hi k (by omega)
        rw [hC] at hc
        obtain ⟨_, hcl, hat⟩ := World.cells?_some hc
        obtain ⟨r, rfl, hr⟩ := hread cs' _ _ hcl htr
        refine ⟨l ++ [r], by simp [hl], fun i x hx => ?_⟩
        by_cases hik : i < k
        · rw [List.getElem?_append_left (by omega)] at hx
          exact hall i x hx
        · have hlt := (List.getElem?_eq_some_iff.1 hx).1
          simp [hl] at hlt
          have hik : i = k := by omega
          subst hik
          rw [List.getElem?_append_right (by omega), hl, Nat.sub_self] at hx
          simp at hx
          subst hx
          refine ⟨hr, fun q u hu => ?_⟩
          have hq := (List.getElem?_eq_some_iff.1 hu).1
          rw [hf] at hq
          rw [← Go.Deep.add_add, hat q hq, hu]
    obtain ⟨l, hl, hall⟩ := key n (Nat.le_refl _)
    refine ⟨some a, n, c, l, rfl, hm, ⟨hl.symm, hlc, (fun h => by cases h), fun hpos => ⟨a, rfl, ?_, ?_⟩⟩, fun r hr => ?_⟩
    · obtain ⟨x, hx⟩ : ∃ x, l[0]? = some x := ⟨l[0], List.getElem?_eq_getElem hpos⟩
      have h0 := (hall 0 x hx).2 0 _ (List.getElem?_eq_getElem (by rw [hf]; exact hsz))
      have := World.block_lt_of_cell? W _ h0
      rwa [add_block] at this
    · intro j u hj
      obtain ⟨i, r, x, rfl, hx, hu⟩ := flat_inv hf l j u hj
      exact (hall i x hx).2 r u hu
    · obtain ⟨i, hi'⟩ := List.getElem?_of_mem hr
      exact (hall i r hi').1
end
end Go.Proofs.Ytnmfcbmdopmglaa
