/-
  Where words stand among units, as a relation that lets no two answers stand: pure.
-/
namespace Go.Proofs.Ytnmfcbmdopmglaa
set_option linter.unusedVariables false

/-- Where a word stands, and how many ends stand ahead of it. -/
structure Plc where
  s : Nat
  t : Nat
  e : Nat
deriving DecidableEq

/-- Is a unit a word's? -/
def isW (c : Int) : Bool := decide (c ≠ 32) && decide (c ≠ 10)
/-- Is the unit at a place a word's? -/
def wAt (u : List Int) (i : Nat) : Bool := match u[i]? with | some c => isW c | none => false
/-- How many ends a list has. -/
def endsN (u : List Int) : Nat := (u.filter fun c => decide (c = 10)).length
/-- The units from a to b. -/
def cut (u : List Int) (a b : Nat) : List Int := (u.take b).drop a

/-- From a to b stand spaces and ends alone, so many ends among them. -/
def Gap (u : List Int) (a b n : Nat) : Prop := a ≤ b ∧ b ≤ u.length ∧ (∀ k, a ≤ k → k < b → wAt u k = false) ∧ endsN (cut u a b) = n
/-- From a to b stand units of a word. -/
def Run (u : List Int) (a b : Nat) : Prop := a ≤ b ∧ ∀ k, a ≤ k → k < b → wAt u k = true
/-- A word that comes next, behind place a. -/
def Nxt (u : List Int) (a : Nat) (p : Plc) : Prop := Gap u a p.s p.e ∧ p.s < p.t ∧ Run u p.s p.t ∧ wAt u p.t = false
/-- These words follow one another from place a on, the last one ends at z. -/
def Chn (u : List Int) : Nat → List Plc → Nat → Prop
  | a, [], z => a = z
  | a, p :: ps, z => Nxt u a p ∧ Chn u p.t ps z
/-- These are all words. -/
def Whl (u : List Int) (ps : List Plc) : Prop := ∃ z n, Chn u 0 ps z ∧ Gap u z u.length n

theorem wAt_lt {u : List Int} {k : Nat} (h : wAt u k = true) : k < u.length := by
  unfold wAt at h
  rcases Nat.lt_or_ge k u.length with hl | hl
  · exact hl
  · rw [List.getElem?_eq_none hl] at h; cases h
theorem wAt_end (u : List Int) : wAt u u.length = false := by unfold wAt; rw [List.getElem?_eq_none (Nat.le_refl _)]
theorem Run.le {u : List Int} {a b : Nat} (h : Run u a b) (hl : a ≤ u.length) : b ≤ u.length := by
  rcases Nat.lt_or_ge a b with hab | hab
  · have := wAt_lt (h.2 (b - 1) (by omega) (by omega)); omega
  · have := h.1; omega
theorem Nxt.le {u : List Int} {a : Nat} {p : Plc} (h : Nxt u a p) : p.t ≤ u.length := h.2.2.1.le h.1.2.1

theorem Gap.nil {u : List Int} {a : Nat} (h : a ≤ u.length) : Gap u a a 0 := ⟨Nat.le_refl _, h, fun k h1 h2 => by omega, by simp [cut, endsN]⟩
theorem Gap.uniq {u : List Int} {a b n m : Nat} (h : Gap u a b n) (k : Gap u a b m) : n = m := h.2.2.2.symm.trans k.2.2.2

theorem cut_snoc {u : List Int} {a b : Nat} {c : Int} (hab : a ≤ b) (hb : u[b]? = some c) : cut u a (b + 1) = cut u a b ++ [c] := by
  obtain ⟨hl, hc⟩ := List.getElem?_eq_some_iff.1 hb
  unfold cut
  rw [List.take_succ_eq_append_getElem hl, hc, List.drop_append_of_le_length (by simp; omega)]
theorem endsN_snoc (l : List Int) (c : Int) : endsN (l ++ [c]) = endsN l + (if c = 10 then 1 else 0) := by
  unfold endsN
  rw [List.filter_append, List.length_append]
  by_cases h : c = 10 <;> simp [h]
theorem Gap.snoc {u : List Int} {a b n : Nat} {c : Int} (h : Gap u a b n) (hb : u[b]? = some c) (hc : isW c = false) : Gap u a (b + 1) (n + if c = 10 then 1 else 0) := by
  obtain ⟨h1, h2, h3, h4⟩ := h
  have hl := (List.getElem?_eq_some_iff.1 hb).1
  refine ⟨by omega, by omega, fun k hk hk2 => ?_, ?_⟩
  · by_cases e : k = b
    · subst e; unfold wAt; rw [hb]; exact hc
    · exact h3 k hk (by omega)
  · rw [cut_snoc h1 hb, endsN_snoc, h4]
theorem Run.nil (u : List Int) (a : Nat) : Run u a a := ⟨Nat.le_refl _, fun k h1 h2 => by omega⟩
theorem Run.snoc {u : List Int} {a b : Nat} (h : Run u a b) (hb : wAt u b = true) : Run u a (b + 1) :=
  ⟨by have := h.1; omega, fun k h1 h2 => by
    by_cases e : k = b
    · subst e; exact hb
    · exact h.2 k h1 (by omega)⟩

theorem Nxt.uniq {u : List Int} {a : Nat} {p q : Plc} (h : Nxt u a p) (k : Nxt u a q) : p = q := by
  obtain ⟨⟨h1, _, h3, h4⟩, h5, h6, h7⟩ := h
  obtain ⟨⟨k1, _, k3, k4⟩, k5, k6, k7⟩ := k
  have es : p.s = q.s := by
    rcases Nat.lt_trichotomy p.s q.s with h | h | h
    · have := k3 p.s h1 h; rw [h6.2 p.s (Nat.le_refl _) h5] at this; cases this
    · exact h
    · have := h3 q.s k1 h; rw [k6.2 q.s (Nat.le_refl _) k5] at this; cases this
  have et : p.t = q.t := by
    rcases Nat.lt_trichotomy p.t q.t with h | h | h
    · have := k6.2 p.t (by omega) h; rw [h7] at this; cases this
    · exact h
    · have := h6.2 q.t (by omega) h; rw [k7] at this; cases this
  cases p; cases q
  simp only at es et h4 k4
  subst es et
  rw [h4] at k4
  subst k4
  rfl
theorem Nxt.noGap {u : List Int} {a n : Nat} {p : Plc} (h : Nxt u a p) (k : Gap u a u.length n) : False := by
  have := k.2.2.1 p.s h.1.1 (wAt_lt (h.2.2.1.2 p.s (Nat.le_refl _) h.2.1))
  rw [h.2.2.1.2 p.s (Nat.le_refl _) h.2.1] at this
  cases this
theorem chn_uniq {u : List Int} : ∀ (ps qs : List Plc) (a z z' n m : Nat), Chn u a ps z → Gap u z u.length n → Chn u a qs z' → Gap u z' u.length m → ps = qs
  | [], [], _, _, _, _, _, _, _, _, _ => rfl
  | [], q :: qs, a, z, z', n, m, h, g, k, _ => by
    cases h
    exact (k.1.noGap g).elim
  | p :: ps, [], a, z, z', n, m, h, _, k, g => by
    cases k
    exact (h.1.noGap g).elim
  | p :: ps, q :: qs, a, z, z', n, m, h, g, k, g' => by
    obtain rfl := h.1.uniq k.1
    rw [chn_uniq ps qs _ z z' n m h.2 g k.2 g']
theorem Whl.uniq {u : List Int} {ps qs : List Plc} (h : Whl u ps) (k : Whl u qs) : ps = qs := by
  obtain ⟨z, n, h1, h2⟩ := h
  obtain ⟨z', m, k1, k2⟩ := k
  exact chn_uniq ps qs 0 z z' n m h1 h2 k1 k2
theorem chn_snoc {u : List Int} : ∀ (ps : List Plc) (a z : Nat) (p : Plc), Chn u a ps z → Nxt u z p → Chn u a (ps ++ [p]) p.t
  | [], a, z, p, h, hp => by cases h; exact ⟨hp, rfl⟩
  | q :: ps, a, z, p, h, hp => ⟨h.1, chn_snoc ps q.t z p h.2 hp⟩
theorem chn_le {u : List Int} : ∀ (ps : List Plc) (a z : Nat), Chn u a ps z → a ≤ u.length → z ≤ u.length
  | [], a, z, h, ha => by cases h; exact ha
  | q :: ps, a, z, h, ha => chn_le ps q.t z h.2 h.1.le
/-- So many words at most as units. -/
theorem chn_len {u : List Int} : ∀ (ps : List Plc) (a z : Nat), Chn u a ps z → a + ps.length ≤ z
  | [], a, z, h => by cases h; simp
  | q :: ps, a, z, h => by
    have := chn_len ps q.t z h.2
    have h1 := h.1.1.1
    have h2 := h.1.2.1
    simp only [List.length_cons]
    omega
/-- Behind a word no word's unit stands. -/
theorem chn_end {u : List Int} : ∀ (ps : List Plc) (a z : Nat), Chn u a ps z → ps ≠ [] → wAt u z = false
  | [], a, z, h, hn => (hn rfl).elim
  | [q], a, z, h, _ => by cases h.2; exact h.1.2.2.2
  | q :: r :: ps, a, z, h, _ => chn_end (r :: ps) q.t z h.2 (by simp)
theorem Gap.w {u : List Int} {a b n : Nat} (h : Gap u a b n) {k : Nat} (h1 : a ≤ k) (h2 : k < b) : wAt u k = false := h.2.2.1 k h1 h2
end Go.Proofs.Ytnmfcbmdopmglaa
