/-
  What the statements of stage 3 keep: a table, who published what first, a list of calls.
-/
import Derived.Test.YthkngenmdogpjaaView3
import Derived.Test.YthkngenmdogpjaaTabAllP
import Derived.Test.YthkngenmdogpjaaRef3c
namespace Go.Proofs.Ythkngenmdogpjaa
open Go.RowKit

/-- Where the parts of a call lie, as the walk writes it. -/
theorem Holds.op {w : World} {B : Nat} {A : Option Addr} {l : List TOp} (h : Holds opE w B A l) {i : Nat} {x : TOp} (hx : l[i]? = some x) :
    ∃ a, A = some a ∧ a.block < B ∧ w.cell? (a.add (i * 4)) = some (.bool x.put) ∧ w.cell? ⟨(a.add (i * 4)).block, (a.add (i * 4)).off + 1, none⟩ = some (.int .i64 x.i) ∧
      w.cell? ⟨(a.add (i * 4)).block, (a.add (i * 4)).off + 2, none⟩ = some (.int .i64 x.v.a) ∧ w.cell? ⟨(a.add (i * 4)).block, (a.add (i * 4)).off + 2 + 1, none⟩ = some (.string x.v.b) := by
  obtain ⟨a, rfl, hb, hc⟩ := h.get opE_len hx
  refine ⟨a, rfl, hb, hc 0 _ rfl, ?_, ?_, ?_⟩
  · rw [add_off _ _ _ (by omega)]; exact hc 1 _ rfl
  · rw [add_off _ _ _ (by omega)]; exact hc 2 _ rfl
  · rw [Nat.add_assoc, add_off _ _ _ (by omega)]; exact hc 3 _ rfl

theorem leftN_set {α : Type} : ∀ {l : List (Option α)} {k : Nat} {x : α}, l[k]? = some none → leftN (l.set k (some x)) + 1 = leftN l
  | [], k, x, h => by simp at h
  | y :: l, 0, x, h => by
    simp only [List.getElem?_cons_zero, Option.some.injEq] at h
    subst h
    simp only [List.set_cons_zero, leftN, List.map_cons, List.sum_cons, leftOf]
    omega
  | y :: l, k + 1, x, h => by
    have ih := leftN_set (x := x) (by simpa using h : l[k]? = some none)
    simp only [List.set_cons_succ, leftN, List.map_cons, List.sum_cons] at ih ⊢
    omega

/-- Who published each cell first: -1, or the number of a call. -/
structure First (l : List TOp) (n : Nat) (T : List (Option Pair)) (F : List Int) : Prop where
  lenT : T.length = n
  lenF : F.length = n
  rel : ∀ k, k < n → (T[k]? = some none ∧ F[k]? = some (-1)) ∨ ∃ (i : Nat) (o : TOp), l[i]? = some o ∧ T[k]? = some (some o.v) ∧ F[k]? = some (i : Int)
theorem First.start (l : List TOp) (n : Nat) : First l n (List.replicate n none) (List.replicate n (-1)) :=
  ⟨by simp, by simp, fun k hk => .inl ⟨by simp [hk], by simp [hk]⟩⟩
theorem First.put {l : List TOp} {n : Nat} {T : List (Option Pair)} {F : List Int} (h : First l n T F) {k j : Nat} {o : TOp} (hk : k < n) (hj : l[j]? = some o) : First l n (T.set k (some o.v)) (F.set k j) := by
  refine ⟨by simpa using h.lenT, by simpa using h.lenF, fun m hm => ?_⟩
  by_cases e : k = m
  · subst e
    exact .inr ⟨j, o, hj, by simp [h.lenT, hk], by simp [h.lenF, hk]⟩
  · rw [List.getElem?_set_ne e, List.getElem?_set_ne e]
    exact h.rel m hm
theorem First.none_ {l : List TOp} {n : Nat} {T : List (Option Pair)} {F : List Int} (h : First l n T F) {k : Nat} (hk : T[k]? = some none) : F[k]? = some (-1) := by
  have hlt := (List.getElem?_eq_some_iff.1 hk).1
  rcases h.rel k (by have := h.lenT; omega) with ⟨_, h2⟩ | ⟨i, o, _, h2, _⟩
  · exact h2
  · rw [hk] at h2; cases h2
theorem First.some_ {l : List TOp} {n : Nat} {T : List (Option Pair)} {F : List Int} (h : First l n T F) {k : Nat} {x : Pair} (hk : T[k]? = some (some x)) : ∃ (i : Nat) (o : TOp), l[i]? = some o ∧ F[k]? = some (i : Int) ∧ o.v = x := by
  have hlt := (List.getElem?_eq_some_iff.1 hk).1
  rcases h.rel k (by have := h.lenT; omega) with ⟨h2, _⟩ | ⟨i, o, ho, h2, h3⟩
  · rw [hk] at h2; cases h2
  · rw [hk] at h2
    exact ⟨i, o, ho, h3, (Option.some.inj (Option.some.inj h2)).symm⟩

/-- A law's memory: the table, and who was first. -/
structure St (W w : World) (tb cb vb fb : Nat) (T : List (Option Pair)) (F : List Int) : Prop where
  tab : Tab pairE pair0 w tb cb vb T
  fst : IBox w fb F
  bl : Below W.heap.size W w
  t0 : W.heap.size ≤ tb
  c0 : W.heap.size ≤ cb
  v0 : W.heap.size ≤ vb
  f0 : W.heap.size ≤ fb
  ft : fb ≠ tb
  fc : fb ≠ cb
  fv : fb ≠ vb
section
variable {W w w' : World} {tb cb vb fb : Nat} {T : List (Option Pair)} {F : List Int}
theorem St.below (h : St W w tb cb vb fb T F) (hb : Below w.heap.size w w') : St W w' tb cb vb fb T F :=
  ⟨h.tab.below hb, h.fst.below hb, h.bl.trans (hb.mono h.bl.size), h.t0, h.c0, h.v0, h.f0, h.ft, h.fc, h.fv⟩
theorem St.put (h : St W w tb cb vb fb T F) {T' : List (Option Pair)} (ht : Tab pairE pair0 w' tb cb vb T') (hb : But [cb, vb] w w') : St W w' tb cb vb fb T' F :=
  ⟨ht, h.fst.but hb (by simp; exact ⟨h.fc, h.fv⟩), below_but h.bl hb h.bl.size (by simp; exact ⟨h.c0, h.v0⟩), h.t0, h.c0, h.v0, h.f0, h.ft, h.fc, h.fv⟩
theorem St.mark (h : St W w tb cb vb fb T F) {i : Nat} (hi : i < F.length) (z : Int) : St W (w.setCell ⟨fb, i, none⟩ (.int .i64 z)) tb cb vb fb T (F.set i z) := by
  refine ⟨?_, h.fst.set_ hi z, h.bl.setCell h.f0 _, h.t0, h.c0, h.v0, h.f0, h.ft, h.fc, h.fv⟩
  exact h.tab.but ((But.refl [fb] w).set fb i (.inl (by simp)) _) (by simp; exact Ne.symm h.ft) (by simp; exact Ne.symm h.fc) (by simp; exact Ne.symm h.fv)
end
end Go.Proofs.Ythkngenmdogpjaa
