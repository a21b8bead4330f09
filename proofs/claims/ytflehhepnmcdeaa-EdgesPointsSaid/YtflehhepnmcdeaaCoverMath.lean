/-
  Plain arithmetic of covers: the least and the greatest of some numbers, cut.
-/
import Derived.Test.YtflehhepnmcdeaaPointed
namespace Go.Proofs.Ytflehhepnmcdeaa

def leastI (g : Four → Int) : List Four → Int
  | [] => 0
  | r :: l => (r :: l).foldl (fun m s => min m (g s)) (g r)
def mostI (g : Four → Int) (l : List Four) : Int := l.foldl (fun m s => max m (g s)) 0

theorem foldl_min (g : Four → Int) : ∀ (l : List Four) (a : Int), l.foldl (fun m s => min m (g s)) a ≤ a ∧ (∀ r ∈ l, l.foldl (fun m s => min m (g s)) a ≤ g r) ∧ (l.foldl (fun m s => min m (g s)) a = a ∨ ∃ r ∈ l, l.foldl (fun m s => min m (g s)) a = g r)
  | [], a => by simp
  | x :: l, a => by
    have ih := foldl_min g l (min a (g x))
    simp only [List.foldl_cons, List.mem_cons]
    refine ⟨by omega, ?_, ?_⟩
    · rintro r (rfl | hr)
      · omega
      · exact ih.2.1 r hr
    · rcases ih.2.2 with h | ⟨r, hr, h⟩
      · rw [h]
        rcases (by omega : min a (g x) = a ∨ min a (g x) = g x) with h2 | h2
        · exact Or.inl h2
        · exact Or.inr ⟨x, Or.inl rfl, h2⟩
      · exact Or.inr ⟨r, Or.inr hr, h⟩
theorem foldl_max (g : Four → Int) : ∀ (l : List Four) (a : Int), a ≤ l.foldl (fun m s => max m (g s)) a ∧ (∀ r ∈ l, g r ≤ l.foldl (fun m s => max m (g s)) a) ∧ (l.foldl (fun m s => max m (g s)) a = a ∨ ∃ r ∈ l, l.foldl (fun m s => max m (g s)) a = g r)
  | [], a => by simp
  | x :: l, a => by
    have ih := foldl_max g l (max a (g x))
    simp only [List.foldl_cons, List.mem_cons]
    refine ⟨by omega, ?_, ?_⟩
    · rintro r (rfl | hr)
      · omega
      · exact ih.2.1 r hr
    · rcases ih.2.2 with h | ⟨r, hr, h⟩
      · rw [h]
        rcases (by omega : max a (g x) = a ∨ max a (g x) = g x) with h2 | h2
        · exact Or.inl h2
        · exact Or.inr ⟨x, Or.inl rfl, h2⟩
      · exact Or.inr ⟨r, Or.inr hr, h⟩

theorem leastI_le {g : Four → Int} {l : List Four} {r : Four} (h : r ∈ l) : leastI g l ≤ g r := by
  cases l with
  | nil => cases h
  | cons x l => exact (foldl_min g (x :: l) (g x)).2.1 r h
theorem leastI_mem (g : Four → Int) {l : List Four} (h : l ≠ []) : ∃ r ∈ l, leastI g l = g r := by
  cases l with
  | nil => exact absurd rfl h
  | cons x l =>
    rcases (foldl_min g (x :: l) (g x)).2.2 with e | e
    · exact ⟨x, List.mem_cons_self .., e⟩
    · exact e
theorem mostI_le {g : Four → Int} {l : List Four} {r : Four} (h : r ∈ l) : g r ≤ mostI g l := (foldl_max g l 0).2.1 r h
theorem mostI_pos (g : Four → Int) (l : List Four) : 0 ≤ mostI g l := (foldl_max g l 0).1
theorem mostI_mem (g : Four → Int) (l : List Four) : mostI g l = 0 ∨ ∃ r ∈ l, mostI g l = g r := (foldl_max g l 0).2.2

/-- Of the first k. -/
def leastTo (g : Four → Int) (l : List Four) (k : Nat) : Int := (l.take k).foldl (fun m s => min m (g s)) (match l with | [] => 0 | r :: _ => g r)
theorem leastTo_zero (g : Four → Int) (r : Four) (l : List Four) : leastTo g (r :: l) 0 = g r := rfl
theorem leastTo_succ {g : Four → Int} {l : List Four} {k : Nat} {x : Four} (h : l[k]? = some x) : leastTo g l (k + 1) = min (leastTo g l k) (g x) := by
  unfold leastTo; rw [List.take_add_one, h]; simp
theorem leastTo_all {g : Four → Int} {l : List Four} {k : Nat} (h : l.length ≤ k) : leastTo g l k = leastI g l := by
  unfold leastTo leastI; rw [List.take_of_length_le h]; cases l <;> rfl
theorem mostI_succ {g : Four → Int} {l : List Four} {k : Nat} {x : Four} (h : l[k]? = some x) : mostI g (l.take (k + 1)) = max (mostI g (l.take k)) (g x) := by
  unfold mostI; rw [List.take_add_one, h]; simp

theorem cutI_max (a b : Int) : cutI (max a b) = max (cutI a) (cutI b) := by
  unfold cutI; split <;> split <;> (try split) <;> (try split) <;> (try split) <;> omega
theorem farI_max {a b : Int} (ha : 0 ≤ a) (hb : 0 ≤ b) : farI (max a b) = (farI a || farI b) := by
  unfold farI
  rw [Bool.eq_iff_iff]
  simp only [Bool.or_eq_true, decide_eq_true_eq]
  omega

/-- The cover: from where, how far. -/
def coverX (l : List Four) : Int := leastI (·.a) l
def coverY (l : List Four) : Int := leastI (·.b) l
def coverW (l : List Four) : Int := mostI (fun r => r.a + r.c - coverX l) l
def coverH (l : List Four) : Int := mostI (fun r => r.b + r.d - coverY l) l
def coverFar (l : List Four) : Bool := farI (coverX l) || farI (coverY l) || farI (coverW l) || farI (coverH l)
/-- A rectangle of numbers of 64 bits. -/
def FourOk (r : Four) : Prop := RectOk r.a r.b r.c r.d
end Go.Proofs.Ytflehhepnmcdeaa
