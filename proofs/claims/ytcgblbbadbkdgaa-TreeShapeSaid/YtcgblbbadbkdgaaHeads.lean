/-
  What is wrong with a node hangs on the nodes ahead of it, and on it, alone; so each prefix of a right tree is one.
-/
import Derived.Test.YtcgblbbadbkdgaaCheck
namespace Go.Proofs.Ytcgblbbadbkdgaa
open Go.RowKit
set_option linter.unusedVariables false

/-- Both rows are the same up to node i. -/
def Agree (ns ms : List NodeV) (i : Nat) : Prop := ∀ j, j ≤ i → ns[j]? = ms[j]?
theorem Agree.mono {ns ms : List NodeV} {i k : Nat} (h : Agree ns ms i) (hk : k ≤ i) : Agree ns ms k := fun j hj => h j (by omega)
theorem Agree.symm {ns ms : List NodeV} {i : Nat} (h : Agree ns ms i) : Agree ms ns i := fun j hj => (h j hj).symm
theorem par_agree {ns ms : List NodeV} {i : Nat} (h : Agree ns ms i) : parI ns i = parI ms i := by unfold parI; rw [h i (Nat.le_refl _)]
theorem kind_agree {ns ms : List NodeV} {i : Nat} (h : Agree ns ms i) : kindAt ns i = kindAt ms i := by unfold kindAt; rw [h i (Nat.le_refl _)]
theorem chain_agree {ns ms : List NodeV} : ∀ i, Agree ns ms i → chain ns i = chain ms i := by
  intro i
  induction i using Nat.strongRecOn with
  | _ i ih =>
    intro h
    rcases parI_cases ns i with hp | ⟨p, hp, hlt⟩
    · have hq := hp
      rw [par_agree h] at hq
      rw [chain_none hp, chain_none hq]
    · have hq := hp
      rw [par_agree h] at hq
      rw [chain_some hp, chain_some hq, ih p hlt (h.mono (by omega))]
theorem dep_agree {ns ms : List NodeV} {i : Nat} (h : Agree ns ms i) : dep ns i = dep ms i := by unfold dep; rw [chain_agree i h]
theorem find_cong {p q : Nat → Bool} : ∀ l : List Nat, (∀ k ∈ l, p k = q k) → l.find? p = l.find? q
  | [], _ => rfl
  | a :: l, h => by
    rw [List.find?_cons, List.find?_cons, h a List.mem_cons_self, find_cong l fun k hk => h k (List.mem_cons_of_mem _ hk)]
theorem first_agree {ns ms : List NodeV} {p i : Nat} (h : Agree ns ms i) : firstI ns p i = firstI ms p i := by
  unfold firstI
  have e : (List.range' (p + 1) (i - (p + 1))).find? (fun k => parI ns k == (p : Int)) = (List.range' (p + 1) (i - (p + 1))).find? (fun k => parI ms k == (p : Int)) := by
    apply find_cong
    intro k hk
    rw [List.mem_range'_1] at hk
    rw [par_agree (h.mono (by omega))]
  rw [e]
theorem firstI_lt (ns : List NodeV) (p i : Nat) : firstI ns p i < (i : Int) ∨ firstI ns p i = -1 := by
  unfold firstI
  split
  · rename_i k hk
    have := List.mem_of_find?_eq_some hk
    rw [List.mem_range'_1] at this
    left; omega
  · right; rfl
theorem pre_agree {ns ms : List NodeV} {i : Nat} {p : Int} (h : Agree ns ms i) : preB ns i p = preB ms i p := by
  unfold preB
  rw [chain_agree (i - 1) (h.mono (by omega))]
theorem kin_agree {ns ms : List NodeV} {p i : Nat} {s : Style} (h : Agree ns ms i) (hp : p ≤ i) : kinB ns p i s = kinB ms p i s := by
  unfold kinB
  rw [kind_agree (h.mono hp), first_agree h]
  have := firstI_lt ms p i
  rw [kind_agree (ns := ns) (ms := ms) (h.mono (by omega))]
theorem node_agree {ns ms : List NodeV} {i : Nat} (h : Agree ns ms i) : nodeI ns i = nodeI ms i := by
  cases hx : ns[i]? with
  | none =>
    have := h i (Nat.le_refl _)
    rw [hx] at this
    unfold nodeI
    rw [hx, ← this]
  | some x =>
    have hm := h i (Nat.le_refl _)
    rw [hx] at hm
    rw [nodeI_at hx, nodeI_at hm.symm, pre_agree h, dep_agree h]
    by_cases hp : preB ms i x.p = false
    · rw [if_pos hp, if_pos hp]
    · rw [if_neg hp, if_neg hp]
      by_cases hi : i = 0
      · simp only [if_pos hi]
      · simp only [if_neg hi]
        obtain ⟨c, hc, hlt, _⟩ := preB_pos hm.symm hi (by simpa using hp)
        rw [kin_agree h (by omega)]

theorem whole_le {n m k : Nat} {av : List Int} {view : Int} (h : wholeI n k av view = 0) (hm : m ≤ n) (h0 : 0 < m) : wholeI m k av view = 0 := by
  unfold wholeI at h ⊢
  split at h
  · cases h
  · rw [if_neg (by omega)]
    split at h
    · cases h
    · rename_i h2
      rw [if_neg (by omega)]
      exact h
theorem whole_any {n m k : Nat} {av : List Int} {view : Int} (h : wholeI n k av view = 0) (hm : m ≤ 65536) (h0 : 0 < m) : wholeI m k av view = 0 := by
  unfold wholeI at h ⊢
  split at h
  · cases h
  · rw [if_neg (by omega)]
    split at h
    · cases h
    · rename_i h2
      rw [if_neg (by omega)]
      exact h
theorem whole_pos {n k : Nat} {av : List Int} {view : Int} (h : wholeI n k av view = 0) : 0 < n := by
  unfold wholeI at h
  split at h
  · cases h
  · split at h
    · cases h
    · omega
/-- What Check's answer says. -/
theorem check_inv {ns : List NodeV} {av : List Int} {view : Int} : (wholeI ns.length av.length av view ≠ 0 ∧ checkI ns av view = (0, wholeI ns.length av.length av view)) ∨
    (wholeI ns.length av.length av view = 0 ∧ (∀ j, j < ns.length → nodeI ns j = 0) ∧ checkI ns av view = (0, 0)) ∨
    ∃ i, wholeI ns.length av.length av view = 0 ∧ i < ns.length ∧ (∀ j, j < i → nodeI ns j = 0) ∧ nodeI ns i ≠ 0 ∧ checkI ns av view = (i, nodeI ns i) := by
  by_cases h0 : wholeI ns.length av.length av view = 0
  · right
    cases hw : wrongN ns with
    | none =>
      left
      have h : ∀ j, j < ns.length → nodeI ns j = 0 := fun j hj => by
        have := List.find?_eq_none.mp hw j (List.mem_range.mpr hj)
        simpa using this
      exact ⟨h0, h, check_ok h0 h⟩
    | some i =>
      right
      unfold wrongN at hw
      rw [List.find?_range_eq_some] at hw
      obtain ⟨h1, h2, h3⟩ := hw
      have h4 : ∀ j, j < i → nodeI ns j = 0 := fun j hj => by simpa using h3 j hj
      have h5 : nodeI ns i ≠ 0 := by simpa using h1
      exact ⟨i, h0, List.mem_range.mp h2, h4, h5, check_at h0 (List.mem_range.mp h2) h4 h5⟩
  · exact .inl ⟨h0, check_whole h0⟩
theorem whole_cases (n k : Nat) (av : List Int) (view : Int) : wholeI n k av view = 0 ∨ wholeI n k av view = 6 ∨ wholeI n k av view = 7 := by
  unfold wholeI
  split
  · exact .inr (.inr rfl)
  · split
    · exact .inr (.inl rfl)
    · split
      · exact .inl rfl
      · exact .inr (.inl rfl)
theorem check_all {ns : List NodeV} {av : List Int} {view : Int} (h : (checkI ns av view).2 = 0) : wholeI ns.length av.length av view = 0 ∧ (∀ j, j < ns.length → nodeI ns j = 0) ∧ checkI ns av view = (0, 0) := by
  rcases check_inv (ns := ns) (av := av) (view := view) with ⟨h1, h2⟩ | h1 | ⟨i, h1, h2, h3, h4, h5⟩
  · rw [h2] at h; exact absurd h h1
  · exact h1
  · rw [h5] at h; exact absurd h h4
theorem take_agree (ns : List NodeV) (m i : Nat) (h : i < m) : Agree (ns.take m) ns i := fun j hj => by rw [List.getElem?_take, if_pos (by omega)]
theorem heads_ok {ns : List NodeV} {av : List Int} {view : Int} {m : Nat} (h : (checkI ns av view).2 = 0) (h0 : 0 < m) (hm : m ≤ ns.length) : checkI (ns.take m) av view = (0, 0) := by
  obtain ⟨h1, h2, _⟩ := check_all h
  have hl : (ns.take m).length = m := by rw [List.length_take]; omega
  refine check_ok (by rw [hl]; exact whole_le h1 hm h0) fun j hj => ?_
  rw [hl] at hj
  rw [node_agree (take_agree ns m j hj)]
  exact h2 j (by omega)
theorem heads_no {ns ms : List NodeV} {av : List Int} {view : Int} (h : (checkI ns av view).2 ≠ 0) (hi : (checkI ns av view).1 ≠ 0) :
    (checkI ns av view).1 < ns.length ∧ (Agree ns ms (checkI ns av view).1 → (checkI ns av view).1 < ms.length → ms.length ≤ 65536 → checkI ms av view = checkI ns av view) := by
  rcases check_inv (ns := ns) (av := av) (view := view) with ⟨h1, h2⟩ | ⟨_, _, h1⟩ | ⟨i, h1, h2, h3, h4, h5⟩
  · rw [h2] at hi; exact absurd rfl hi
  · rw [h1] at h; exact absurd rfl h
  · rw [h5]
    refine ⟨h2, fun ha hl hm => ?_⟩
    simp only at ha hl
    rw [check_at (whole_any h1 hm (by omega)) hl (fun j hj => by rw [node_agree (ha.symm.mono (by omega))]; exact h3 j hj) (by rw [node_agree ha.symm]; exact h4), node_agree ha.symm]
theorem Holds.take {α : Type} {f : α → List Value} {w : World} {B : Nat} {A : Option Addr} {l : List α} (h : Holds f w B A l) (m : Nat) : Holds f w B A (l.take m) := fun hl => by
  have h0 : 0 < l.length := by rw [List.length_take] at hl; omega
  obtain ⟨a, e, hb, hc⟩ := h h0
  refine ⟨a, e, hb, fun j u hu => hc j u ?_⟩
  have e2 : l.flatMap f = (l.take m).flatMap f ++ (l.drop m).flatMap f := by rw [← List.flatMap_append, List.take_append_drop]
  rw [e2, List.getElem?_append_left (List.getElem?_eq_some_iff.mp hu).1]
  exact hu
theorem Sl.take {α : Type} {f : α → List Value} {w : World} {A : Option Addr} {n c m : Nat} {l : List α} (h : Sl f w A n c l) (hm : m ≤ n) : Sl f w A m c (l.take m) :=
  ⟨by rw [List.length_take, ← h.len]; omega, Nat.le_trans hm h.cap, fun e => ⟨by have := (h.nil e).1; omega, (h.nil e).2⟩, h.at_.take m⟩
end Go.Proofs.Ytcgblbbadbkdgaa
