/-
  Of any units there are words, of any words rows: pure.
-/
import Derived.Test.YtnmfcbmdopmglaaRows6
namespace Go.Proofs.Ytnmfcbmdopmglaa
set_option linter.unusedVariables false

theorem whl_exists (u : List Int) : ∃ ps, Whl u ps := by
  have key : ∀ k, k ≤ u.length → ∃ s en z ps, PlInv u k s en ps z := by
    intro k
    induction k with
    | zero => exact fun _ => ⟨0, 0, 0, [], rfl, Gap.nil (Nat.zero_le _), Run.nil _ _⟩
    | succ k ih =>
      intro hk
      obtain ⟨s, en, z, ps, h⟩ := ih (by omega)
      have hx := List.getElem?_eq_getElem (show k < u.length by omega)
      cases hw : isW u[k] with
      | true => exact ⟨s, en, z, ps, h.more (by unfold wAt; rw [hx]; exact hw)⟩
      | false =>
        by_cases hs : s < k
        · exact ⟨_, _, _, _, h.word hs hx hw⟩
        · have e : s = k := by have := h.run.1; omega
          subst e
          exact ⟨_, _, _, _, h.skip hx hw⟩
  obtain ⟨s, en, z, ps, h⟩ := key u.length (Nat.le_refl _)
  by_cases hs : s < u.length
  · exact ⟨_, h.last hs⟩
  · have e : s = u.length := by have := h.run.1; omega
    rw [e] at h
    exact ⟨_, h.none⟩
theorem rwhl_exists (l : List Wrd) : ∃ rs, RWhl l rs := by
  have key : ∀ k, k ≤ l.length → ∃ s rs, RoInv l k s rs := by
    intro k
    induction k with
    | zero => exact fun _ => ⟨0, [], RoInv.start l⟩
    | succ k ih =>
      intro hk
      obtain ⟨s, rs, h⟩ := ih (by omega)
      by_cases h0 : k = 0
      · exact ⟨s, rs, h.stay (.inl h0)⟩
      · cases hj : joinB l k with
        | true => exact ⟨s, rs, h.stay (.inr hj)⟩
        | false => exact ⟨_, _, h.next (by omega) (by omega) hj⟩
  obtain ⟨s, rs, h⟩ := key l.length (Nat.le_refl _)
  by_cases hs : s < l.length
  · exact ⟨_, h.last hs⟩
  · refine ⟨rs, RWhl.of h.chn ?_⟩
    rcases h.lt with h1 | ⟨h1, h2⟩ <;> omega
end Go.Proofs.Ytnmfcbmdopmglaa
