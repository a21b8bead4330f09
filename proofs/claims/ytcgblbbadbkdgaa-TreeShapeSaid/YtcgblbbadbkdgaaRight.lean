/-
  Contract of style.Right: it says of any style what the chapter says.
-/
import Derived.Test.YtcgblbbadbkdgaaRules2
import Derived.Test.YtcgblbbadbkdgaaRules3
namespace Go.Proofs.Ytcgblbbadbkdgaa
open Go.RowKit Go.Shelf

/-- A row of the list of rules: of which group, by which function. -/
def ruleE (r : Int × Nat) : List Value := [.int .u8 r.1, .func (.func r.2) #[] #[]]
theorem ruleE_len (r : Int × Nat) : (ruleE r).length = 2 := rfl
def rows : List (Int × Nat) := [(1, 51), (1, 52), (1, 53), (1, 56), (1, 58), (1, 60), (1, 63), (1, 64), (1, 65), (1, 68), (1, 69), (1, 71), (1, 73), (2, 74), (2, 75), (2, 76), (2, 77)]

set_option maxRecDepth 100000 in
theorem rules_any (w : World) : Calls Try.prog 35 #[] w fun e w' => ∃ g, e = .returned (.slice (some ⟨g, 0, none⟩) 17 17) ∧ Holds ruleE w' w'.heap.size (some ⟨g, 0, none⟩) rows ∧ Below w.heap.size w w' := by
  go_enter Try.func35, Try.ntmps35
  go_wp2_with fail
  go_ret
  exact ⟨_, rfl, Holds.lit (f := ruleE) w rows _, (Below.refl _ _).alloc (Nat.le_refl _) _⟩

def groupI (k : Int) : Int := if k = 1 ∨ k = 2 then 1 else if k = 3 then 2 else 0
theorem groupOf_any (k : Int) (w : World) : Calls Try.prog 34 #[.int .u8 k] w fun e w' => e = .returned (.int .u8 (groupI k)) ∧ w = w' := by
  unfold groupI
  by_cases h1 : k = 1
  · subst h1
    rw [if_pos (.inl rfl)]
    go_enter Try.func34, Try.ntmps34
    go_wp2
    go_ret
    exact ⟨rfl, rfl⟩
  have h1' : (k == 1) = false := by simpa using h1
  by_cases h2 : k = 2
  · subst h2
    rw [if_pos (.inr rfl)]
    clear h1 h1'
    go_enter Try.func34, Try.ntmps34
    go_wp2
    go_ret
    exact ⟨rfl, rfl⟩
  have h2' : (k == 2) = false := by simpa using h2
  rw [if_neg (by omega)]
  by_cases h3 : k = 3
  · subst h3
    rw [if_pos rfl]
    clear h1 h1' h2 h2'
    go_enter Try.func34, Try.ntmps34
    go_wp2
    go_ret
    exact ⟨rfl, rfl⟩
  have h3' : (k == 3) = false := by simpa using h3
  rw [if_neg h3]
  clear h1 h2 h3
  go_enter Try.func34, Try.ntmps34
  go_wp2
  go_ret
  exact ⟨rfl, rfl⟩

theorem rows_says (g : Nat) (s : Style) : ∀ k r, rows[k]? = some r → Says r.2 g s (rule s k) ∧ (∀ args w, (callFunc r.2 args).run Try.prog w = .ok (.enter r.2 args) w) ∧ r.1 = (if k < 13 then 1 else 2) := fun k r h => by
  match k, h with
  | 0, h => cases h; exact ⟨rule0 g s, enters_of Try.func51 (by kernel_rfl) rfl, rfl⟩
  | 1, h => cases h; exact ⟨rule1 g s, enters_of Try.func52 (by kernel_rfl) rfl, rfl⟩
  | 2, h => cases h; exact ⟨rule2 g s, enters_of Try.func53 (by kernel_rfl) rfl, rfl⟩
  | 3, h => cases h; exact ⟨rule3 g s, enters_of Try.func56 (by kernel_rfl) rfl, rfl⟩
  | 4, h => cases h; exact ⟨rule4 g s, enters_of Try.func58 (by kernel_rfl) rfl, rfl⟩
  | 5, h => cases h; exact ⟨rule5 g s, enters_of Try.func60 (by kernel_rfl) rfl, rfl⟩
  | 6, h => cases h; exact ⟨rule6 g s, enters_of Try.func63 (by kernel_rfl) rfl, rfl⟩
  | 7, h => cases h; exact ⟨rule7 g s, enters_of Try.func64 (by kernel_rfl) rfl, rfl⟩
  | 8, h => cases h; exact ⟨rule8 g s, enters_of Try.func65 (by kernel_rfl) rfl, rfl⟩
  | 9, h => cases h; exact ⟨rule9 g s, enters_of Try.func68 (by kernel_rfl) rfl, rfl⟩
  | 10, h => cases h; exact ⟨rule10 g s, enters_of Try.func69 (by kernel_rfl) rfl, rfl⟩
  | 11, h => cases h; exact ⟨rule11 g s, enters_of Try.func71 (by kernel_rfl) rfl, rfl⟩
  | 12, h => cases h; exact ⟨rule12 g s, enters_of Try.func73 (by kernel_rfl) rfl, rfl⟩
  | 13, h => cases h; exact ⟨rule13 g s, enters_of Try.func74 (by kernel_rfl) rfl, rfl⟩
  | 14, h => cases h; exact ⟨rule14 g s, enters_of Try.func75 (by kernel_rfl) rfl, rfl⟩
  | 15, h => cases h; exact ⟨rule15 g s, enters_of Try.func76 (by kernel_rfl) rfl, rfl⟩
  | 16, h => cases h; exact ⟨rule16 g s, enters_of Try.func77 (by kernel_rfl) rfl, rfl⟩
  | k + 17, h => exact absurd h (by simp [rows])

/-- What the loop has seen: each rule of the group, of the first k, holds. -/
def Seen (s : Style) (gr : Int) (k : Nat) : Prop := ∀ j, j < k → (if j < 13 then (1 : Int) else 2) = gr → rule s j = true
theorem seen_all (s : Style) (gr : Int) (hg : groupI s.kind = gr) (h0 : gr ≠ 0) (h : Seen s gr 17) : rightB s = true := by
  unfold rightB groupI at *
  by_cases h1 : s.kind = 1 ∨ s.kind = 2
  · rw [if_pos h1] at hg ⊢
    unfold boxB
    rw [List.all_eq_true]
    intro j hj
    rw [List.mem_range] at hj
    exact h j (by omega) (by rw [if_pos hj]; exact hg)
  · rw [if_neg h1] at hg ⊢
    by_cases h3 : s.kind = 3
    · rw [if_pos h3] at hg ⊢
      have k := fun j hj hj' => h j hj (by rw [if_neg (show ¬ j < 13 by omega)]; exact hg)
      simp only [textB, List.all_cons, List.all_nil, k 13 (by omega) (by omega), k 14 (by omega) (by omega), k 15 (by omega) (by omega), k 16 (by omega) (by omega), Bool.and_self]
    · rw [if_neg h3] at hg
      exact absurd hg.symm h0
theorem seen_not (s : Style) (gr : Int) (hg : groupI s.kind = gr) (k : Nat) (hk : k < 17) (he : (if k < 13 then (1 : Int) else 2) = gr) (h : rule s k = false) : rightB s = false := by
  unfold rightB groupI at *
  by_cases h1 : s.kind = 1 ∨ s.kind = 2
  · rw [if_pos h1] at hg ⊢
    unfold boxB
    rw [List.all_eq_false]
    refine ⟨k, ?_, by simp [h]⟩
    rw [List.mem_range]
    split at he <;> omega
  · rw [if_neg h1] at hg ⊢
    by_cases h3 : s.kind = 3
    · rw [if_pos h3] at hg ⊢
      unfold textB
      rw [List.all_eq_false]
      refine ⟨k, ?_, by simp [h]⟩
      have : 13 ≤ k := by split at he <;> omega
      have : k = 13 ∨ k = 14 ∨ k = 15 ∨ k = 16 := by omega
      rcases this with rfl | rfl | rfl | rfl <;> simp
    · rw [if_neg h3]
theorem seen_none (s : Style) (hg : groupI s.kind = 0) : rightB s = false := by
  unfold rightB groupI at *
  by_cases h1 : s.kind = 1 ∨ s.kind = 2
  · rw [if_pos h1] at hg; omega
  · rw [if_neg h1] at hg ⊢
    by_cases h3 : s.kind = 3
    · rw [if_pos h3] at hg; omega
    · rw [if_neg h3]
end Go.Proofs.Ytcgblbbadbkdgaa
