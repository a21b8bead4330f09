/-
  Spaces that say nothing: a text without them has the same words: pure.
-/
import Derived.Test.YtnmfcbmdopmglaaExist6
import Derived.Test.YtnmfcbmdopmglaaEnds6
import Derived.Test.YtnmfcbmdopmglaaJoin6
namespace Go.Proofs.Ytnmfcbmdopmglaa
open Go.RowKit
set_option linter.unusedVariables false

/-- What has been read: the words that are over, each with the ends ahead of it; ends since; the word under way. -/
structure TkS where
  d : List (Nat × List Int)
  e : Nat
  r : List Int
def tkStep (t : TkS) (c : Int) : TkS :=
  if isW c then ⟨t.d, t.e, t.r ++ [c]⟩ else if t.r = [] then ⟨t.d, t.e + (if c = 10 then 1 else 0), []⟩ else ⟨t.d ++ [(t.e, t.r)], if c = 10 then 1 else 0, []⟩
def tkOf (u : List Int) : TkS := u.foldl tkStep ⟨[], 0, []⟩
def tkFin (t : TkS) : List (Nat × List Int) := if t.r = [] then t.d else t.d ++ [(t.e, t.r)]
def toks (u : List Int) : List (Nat × List Int) := tkFin (tkOf u)
theorem tkOf_snoc (u : List Int) (c : Int) : tkOf (u ++ [c]) = tkStep (tkOf u) c := by simp [tkOf]
theorem tk_letter {t : TkS} {c : Int} (h : isW c = true) : tkStep t c = ⟨t.d, t.e, t.r ++ [c]⟩ := by simp [tkStep, h]
theorem tk_none {t : TkS} {c : Int} (h : isW c = false) (hr : t.r = []) : tkStep t c = ⟨t.d, t.e + (if c = 10 then 1 else 0), []⟩ := by simp [tkStep, h, hr]
theorem tk_end {t : TkS} {c : Int} (h : isW c = false) (hr : t.r ≠ []) : tkStep t c = ⟨t.d ++ [(t.e, t.r)], if c = 10 then 1 else 0, []⟩ := by simp [tkStep, h, hr]
/-- The word that a place means. -/
def tokP (u : List Int) (p : Plc) : Nat × List Int := (p.e, cut u p.s p.t)
theorem cut_self (u : List Int) (a : Nat) : cut u a a = [] := by simp [cut]
theorem cut_ne {u : List Int} {a b : Nat} (h : a < b) (hb : b ≤ u.length) : cut u a b ≠ [] := by
  intro e
  have := congrArg List.length e
  simp [cut] at this
  omega
theorem take_get {u : List Int} {k : Nat} {x : Int} (h : u[k]? = some x) : u.take (k + 1) = u.take k ++ [x] := by
  obtain ⟨hl, rfl⟩ := List.getElem?_eq_some_iff.1 h
  exact List.take_succ_eq_append_getElem hl
/-- What the words are, told by places. -/
theorem toks_whl {u : List Int} {ps : List Plc} (hp : Whl u ps) : toks u = ps.map (tokP u) := by
  have key : ∀ k, k ≤ u.length → ∃ s en z qs, PlInv u k s en qs z ∧ tkOf (u.take k) = ⟨qs.map (tokP u), en, cut u s k⟩ := by
    intro k
    induction k with
    | zero => exact fun _ => ⟨0, 0, 0, [], ⟨rfl, Gap.nil (Nat.zero_le _), Run.nil _ _⟩, by simp [tkOf, cut]⟩
    | succ k ih =>
      intro hk
      obtain ⟨s, en, z, qs, h, ht⟩ := ih (by omega)
      have hx := List.getElem?_eq_getElem (show k < u.length by omega)
      rw [take_get hx, tkOf_snoc, ht]
      cases hw : isW u[k] with
      | true =>
        refine ⟨s, en, z, qs, h.more (by unfold wAt; rw [hx]; exact hw), ?_⟩
        rw [tk_letter hw, cut_snoc h.run.1 hx]
      | false =>
        by_cases hs : s < k
        · refine ⟨_, _, _, _, h.word hs hx hw, ?_⟩
          rw [tk_end hw (cut_ne hs (by omega)), cut_self, List.map_append]
          rfl
        · have e : s = k := by have := h.run.1; omega
          subst e
          refine ⟨_, _, _, _, h.skip hx hw, ?_⟩
          rw [tk_none hw (cut_self u s)]
          simp only [cut_self]
  obtain ⟨s, en, z, qs, h, ht⟩ := key u.length (Nat.le_refl _)
  rw [List.take_length] at ht
  unfold toks
  rw [ht]
  by_cases hs : s < u.length
  · have e := (h.last hs).uniq hp
    subst e
    unfold tkFin
    rw [if_neg (cut_ne hs (Nat.le_refl _)), List.map_append]
    rfl
  · have e : s = u.length := by have := h.run.1; omega
    rw [e] at h
    have e2 := h.none.uniq hp
    subst e2
    unfold tkFin
    rw [e]
    simp only [cut_self, if_true]

/-- From k on stand spaces alone, up to an end or the text's end. -/
def Blank (u : List Int) (k : Nat) : Prop := ∃ j, k ≤ j ∧ j ≤ u.length ∧ (∀ i, k ≤ i → i < j → u[i]? = some 32) ∧ (u[j]? = none ∨ u[j]? = some 10)
/-- How a text that is made tidy stands to what has been read. -/
def TRel (u : List Int) (k : Nat) (out : List Int) : Prop :=
  tkOf out = tkOf (u.take k) ∨ ((tkOf out).r ≠ [] ∧ tkOf (u.take k) = ⟨(tkOf out).d ++ [((tkOf out).e, (tkOf out).r)], 0, []⟩ ∧ Blank u k)
theorem w32 : isW 32 = false := rfl
theorem w10 : isW 10 = false := rfl
theorem TRel.start (u : List Int) : TRel u 0 [] := .inl (by simp)
theorem TRel.letter {u out : List Int} {k : Nat} {x : Int} (h : TRel u k out) (hx : u[k]? = some x) (hw : isW x = true) : TRel u (k + 1) (out ++ [x]) := by
  rcases h with h | ⟨_, _, j, h1, h2, h3, h4⟩
  · left
    rw [take_get hx, tkOf_snoc, tkOf_snoc, h]
  · exfalso
    rcases Nat.lt_or_ge k j with hk | hk
    · have := h3 k (Nat.le_refl _) hk
      rw [hx] at this
      cases this
      cases hw
    · have e : k = j := by omega
      subst e
      rw [hx] at h4
      rcases h4 with h | h
      · cases h
      · cases h; cases hw
theorem TRel.nl {u out : List Int} {k : Nat} (h : TRel u k out) (hx : u[k]? = some 10) : TRel u (k + 1) (out ++ [10]) := by
  left
  rw [take_get hx, tkOf_snoc, tkOf_snoc]
  rcases h with h | ⟨h1, h2, _⟩
  · rw [h]
  · rw [h2, tk_end w10 h1, tk_none w10 rfl]
    simp
theorem TRel.keep {u out : List Int} {k : Nat} (h : TRel u k out) (hx : u[k]? = some 32) (hr : (tkOf out).r = [] ∨ Blank u k) : TRel u (k + 1) out := by
  have hblank : Blank u k → Blank u (k + 1) := fun ⟨j, h1, h2, h3, h4⟩ => by
    rcases Nat.lt_or_ge k j with hk | hk
    · exact ⟨j, by omega, h2, fun i hi hi2 => h3 i (by omega) hi2, h4⟩
    · have e : k = j := by omega
      subst e
      rw [hx] at h4
      rcases h4 with h | h <;> cases h
  rcases h with h | ⟨h1, h2, h3⟩
  · by_cases hn : (tkOf out).r = []
    · left
      rw [take_get hx, tkOf_snoc, ← h, tk_none w32 hn]
      cases ht : tkOf out with
      | mk d e r => rw [ht] at hn; simp only at hn; subst hn; simp
    · right
      have hb : Blank u k := by
        rcases hr with hr | hr
        · exact (hn hr).elim
        · exact hr
      refine ⟨hn, ?_, hblank hb⟩
      rw [take_get hx, tkOf_snoc, ← h, tk_end w32 hn]
      simp
  · right
    refine ⟨h1, ?_, hblank h3⟩
    rw [take_get hx, tkOf_snoc, h2, tk_none w32 rfl]
    simp
theorem TRel.space {u out : List Int} {k : Nat} (h : TRel u k out) (hx : u[k]? = some 32) (hr : (tkOf out).r ≠ []) (hb : ¬ Blank u k) : TRel u (k + 1) (out ++ [32]) := by
  rcases h with h | ⟨_, _, h3⟩
  · left
    rw [take_get hx, tkOf_snoc, tkOf_snoc, h]
  · exact (hb h3).elim
theorem TRel.done {u out : List Int} (h : TRel u u.length out) : toks out = toks u := by
  rcases h with h | ⟨h1, h2, _⟩
  · rw [List.take_length] at h
    unfold toks
    rw [h]
  · rw [List.take_length] at h2
    unfold toks
    rw [h2]
    unfold tkFin
    rw [if_neg h1]
    simp
/-- The word under way, by the last unit. -/
theorem tk_last (out : List Int) (c : Int) : (tkOf (out ++ [c])).r = [] ↔ isW c = false := by
  rw [tkOf_snoc]
  cases h : isW c with
  | true => rw [tk_letter h]; simp
  | false =>
    by_cases hr : (tkOf out).r = []
    · rw [tk_none h hr]; simp
    · rw [tk_end h hr]; simp

/-- The words of two texts that have the same ones. -/
def TW (x y : Wrd) : Prop := x.w = y.w ∧ x.g = y.g ∧ x.e = y.e ∧ x.t - x.s = y.t - y.s
theorem tok_wrd {A u v : List Int} {p q : Plc} (h : tokP u p = tokP v q) (hp : p.s ≤ p.t ∧ p.t ≤ u.length) (hq : q.s ≤ q.t ∧ q.t ≤ v.length) (b : Bool) : TW (wrdOf A u b p) (wrdOf A v b q) ∧ farOf A u b p = farOf A v b q := by
  have h1 : p.e = q.e := congrArg Prod.fst h
  have h2 : cut u p.s p.t = cut v q.s q.t := congrArg Prod.snd h
  have hg : gapOf A b p = gapOf A b q ∧ gapF A b p = gapF A b q := by unfold gapOf gapF; rw [h1]; exact ⟨rfl, rfl⟩
  have hl : p.t - p.s = q.t - q.s := by
    have := congrArg List.length h2
    simp [cut] at this
    omega
  refine ⟨⟨?_, hg.1, ?_, ?_⟩, ?_⟩
  · show cutI _ = cutI _; rw [h2]
  · show (p.e : Int) = (q.e : Int); rw [h1]
  · show (p.t : Int) - (p.s : Int) = (q.t : Int) - (q.s : Int); omega
  · unfold farOf; rw [h2, hg.2]
theorem chn_in {u : List Int} : ∀ (ps : List Plc) (a z : Nat), Chn u a ps z → ∀ p ∈ ps, p.s ≤ p.t ∧ p.t ≤ u.length
  | [], a, z, h, p, hp => by cases hp
  | q :: ps, a, z, h, p, hp => by
    rcases List.mem_cons.1 hp with rfl | hp
    · exact ⟨Nat.le_of_lt h.1.2.1, h.1.le⟩
    · exact chn_in ps q.t z h.2 p hp
theorem tidy_same {A u v : List Int} {ps qs : List Plc} (h : toks u = toks v) (hp : Whl u ps) (hq : Whl v qs) :
    (wrds A u ps).length = (wrds A v qs).length ∧ fars A u ps = fars A v qs ∧ ∀ (i : Nat) (x y : Wrd), (wrds A u ps)[i]? = some x → (wrds A v qs)[i]? = some y → TW x y := by
  rw [toks_whl hp, toks_whl hq] at h
  obtain ⟨z, n, hc, _⟩ := hp
  obtain ⟨z', n', hc', _⟩ := hq
  have hin := chn_in ps 0 z hc
  have hin' := chn_in qs 0 z' hc'
  have hl : ps.length = qs.length := by have := congrArg List.length h; simpa using this
  refine ⟨by rw [wrds_len, wrds_len, hl], ?_, ?_⟩
  · have key : ∀ (ps qs : List Plc), ps.map (tokP u) = qs.map (tokP v) → (∀ p ∈ ps, p.s ≤ p.t ∧ p.t ≤ u.length) → (∀ p ∈ qs, p.s ≤ p.t ∧ p.t ≤ v.length) → ps.any (farOf A u false) = qs.any (farOf A v false) := by
      intro ps
      induction ps with
      | nil => intro qs h _ _; cases qs with
        | nil => rfl
        | cons q qs => cases h
      | cons p ps ih =>
        intro qs h h1 h2
        cases qs with
        | nil => cases h
        | cons q qs =>
          simp only [List.map_cons, List.cons.injEq] at h
          simp only [List.any_cons]
          rw [(tok_wrd (A := A) h.1 (h1 p (List.mem_cons_self ..)) (h2 q (List.mem_cons_self ..)) false).2, ih qs h.2 (fun x hx => h1 x (List.mem_cons_of_mem _ hx)) (fun x hx => h2 x (List.mem_cons_of_mem _ hx))]
    cases ps with
    | nil => cases qs with
      | nil => rfl
      | cons q qs => cases h
    | cons p ps =>
      cases qs with
      | nil => cases h
      | cons q qs =>
        simp only [List.map_cons, List.cons.injEq] at h
        simp only [fars]
        rw [(tok_wrd (A := A) h.1 (hin p (List.mem_cons_self ..)) (hin' q (List.mem_cons_self ..)) true).2, key ps qs h.2 (fun x hx => hin x (List.mem_cons_of_mem _ hx)) (fun x hx => hin' x (List.mem_cons_of_mem _ hx))]
  · intro i x y hx hy
    have hi : i < ps.length := by have := (List.getElem?_eq_some_iff.1 hx).1; rwa [wrds_len] at this
    have e1 := List.getElem?_eq_getElem hi
    have e2 := List.getElem?_eq_getElem (show i < qs.length by omega)
    rw [wrds_get' e1] at hx
    rw [wrds_get' e2] at hy
    cases hx
    cases hy
    have ht : tokP u ps[i] = tokP v qs[i] := by
      have := congrArg (fun l => l[i]?) h
      simp only [List.getElem?_map, e1, e2, Option.map_some, Option.some.injEq] at this
      exact this
    exact (tok_wrd (A := A) ht (hin _ (List.getElem_mem _)) (hin' _ (List.getElem_mem _)) _).1
end Go.Proofs.Ytnmfcbmdopmglaa
