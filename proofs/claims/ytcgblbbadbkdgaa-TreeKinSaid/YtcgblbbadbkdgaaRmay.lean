/-
  Contract of the document's answer, of one length: may it be?
-/
import Derived.Test.YtcgblbbadbkdgaaStyle
import Derived.BigGuard
namespace Go.Proofs.Ytcgblbbadbkdgaa
open Go.RowKit

def lowPx (below : Bool) : Int := if below then -1099511627776 else 0
def lowPart (below : Bool) : Int := if below then -100000 else 0

theorem rmay_any (l : LenV) (below : Bool) (w : World) :
    Calls Try.prog 78 #[lenV l, .bool below] w fun e w' => e = .returned (.bool (mayB l (lowPx below) (lowPart below))) ∧ Below w.heap.size w w' := by
  obtain ⟨k, n⟩ := l
  have hb := Lib.hid ((Below.refl w.heap.size w).alloc (Nat.le_refl _) (.cells #[.int .u8 k, .int .i64 n] 23))
  unfold mayB betweenB lowPx lowPart
  simp only
  by_cases h0 : k = 0
  · subst h0
    rw [if_pos rfl]
    cases below <;>
    · go_enter Try.func78, Try.ntmps78
      go_wp2
      go_ret
      exact ⟨by rfl, hb.out⟩
  rw [if_neg h0]
  have h0' : (k == 0) = false := by simpa using h0
  by_cases h1 : k = 1
  · subst h1
    rw [if_pos rfl]
    clear h0 h0'
    cases below
    · simp only [Bool.false_eq_true, if_false]
      by_cases a : n ≤ 1099511627776
      · rw [show decide (n ≤ 1099511627776) = true by simpa using a, Bool.and_true]
        go_enter Try.func78, Try.ntmps78
        go_wp2
        go_ret
        exact ⟨rfl, hb.out⟩
      · rw [show decide (n ≤ 1099511627776) = false by simpa using a, Bool.and_false]
        go_enter Try.func78, Try.ntmps78
        go_wp2
        go_ret
        exact ⟨rfl, hb.out⟩
    · simp only [if_true]
      by_cases a : n ≤ 1099511627776
      · rw [show decide (n ≤ 1099511627776) = true by simpa using a, Bool.and_true]
        go_enter Try.func78, Try.ntmps78
        go_wp2
        go_ret
        exact ⟨rfl, hb.out⟩
      · rw [show decide (n ≤ 1099511627776) = false by simpa using a, Bool.and_false]
        go_enter Try.func78, Try.ntmps78
        go_wp2
        go_ret
        exact ⟨rfl, hb.out⟩
  rw [if_neg h1]
  have h1' : (k == 1) = false := by simpa using h1
  by_cases h2 : k = 2
  · subst h2
    rw [if_pos rfl]
    clear h0 h0' h1 h1'
    cases below
    · simp only [Bool.false_eq_true, if_false]
      by_cases a : n ≤ 100000
      · rw [show decide (n ≤ 100000) = true by simpa using a, Bool.and_true]
        go_enter Try.func78, Try.ntmps78
        go_wp2
        go_ret
        exact ⟨rfl, hb.out⟩
      · rw [show decide (n ≤ 100000) = false by simpa using a, Bool.and_false]
        go_enter Try.func78, Try.ntmps78
        go_wp2
        go_ret
        exact ⟨rfl, hb.out⟩
    · simp only [if_true]
      by_cases a : n ≤ 100000
      · rw [show decide (n ≤ 100000) = true by simpa using a, Bool.and_true]
        go_enter Try.func78, Try.ntmps78
        go_wp2
        go_ret
        exact ⟨rfl, hb.out⟩
      · rw [show decide (n ≤ 100000) = false by simpa using a, Bool.and_false]
        go_enter Try.func78, Try.ntmps78
        go_wp2
        go_ret
        exact ⟨rfl, hb.out⟩
  rw [if_neg h2]
  have h2' : (k == 2) = false := by simpa using h2
  clear h0 h1 h2
  cases below <;>
  · go_enter Try.func78, Try.ntmps78
    go_wp2
    go_ret
    exact ⟨rfl, hb.out⟩
end Go.Proofs.Ytcgblbbadbkdgaa
