/-
  Plain arithmetic of covers of two and three rectangles.
-/
import Derived.Test.YtflehhepnmcdeaaNear
namespace Go.Proofs.Ytflehhepnmcdeaa

theorem Four.ext_ {a b : Four} (h1 : a.a = b.a) (h2 : a.b = b.b) (h3 : a.c = b.c) (h4 : a.d = b.d) : a = b := by
  cases a; cases b; simp_all

/-- The cover of two. -/
def join (a b : Four) : Four :=
  if somePts a then if somePts b then ⟨min a.a b.a, min a.b b.b, max (a.a + a.c) (b.a + b.c) - min a.a b.a, max (a.b + a.d) (b.b + b.d) - min a.b b.b⟩ else a
  else if somePts b then b else ⟨0, 0, 0, 0⟩

theorem some_iff {r : Four} : somePts r = true ↔ 0 < r.c ∧ 0 < r.d := by unfold somePts pointsB; simp

theorem cov_two (a b : Four) : cov [a, b] = join a b := by
  unfold cov join
  rcases ha : somePts a with _ | _ <;> rcases hb : somePts b with _ | _ <;> simp [ha, hb, coverX, coverY, coverW, coverH, leastI, mostI]
  · rw [some_iff] at hb
    apply Four.ext_ <;> simp <;> omega
  · rw [some_iff] at ha
    apply Four.ext_ <;> simp <;> omega
  · rw [some_iff] at ha hb
    refine ⟨?_, ?_⟩ <;> omega
theorem some_join (a b : Four) : somePts (join a b) = (somePts a || somePts b) := by
  unfold join
  rcases ha : somePts a with _ | _ <;> rcases hb : somePts b with _ | _ <;> simp [ha, hb]
  · simp [somePts, pointsB]
  · rw [some_iff] at *; simp; omega
theorem cov_three (a b c : Four) : cov [a, b, c] = join (join a b) c := by
  have hj := some_join a b
  unfold cov
  rw [show join (join a b) c = if somePts (join a b) then if somePts c then ⟨min (join a b).a c.a, min (join a b).b c.b, max ((join a b).a + (join a b).c) (c.a + c.c) - min (join a b).a c.a, max ((join a b).b + (join a b).d) (c.b + c.d) - min (join a b).b c.b⟩ else join a b
    else if somePts c then c else ⟨0, 0, 0, 0⟩ from rfl, hj]
  unfold join
  rcases ha : somePts a with _ | _ <;> rcases hb : somePts b with _ | _ <;> rcases hc : somePts c with _ | _ <;> simp [ha, hb, hc, coverX, coverY, coverW, coverH, leastI, mostI]
  all_goals (try rw [some_iff] at ha); (try rw [some_iff] at hb); (try rw [some_iff] at hc)
  all_goals first | (apply Four.ext_ <;> simp <;> omega) | (refine ⟨?_, ?_⟩ <;> omega) | omega
theorem join_comm (a b : Four) : join a b = join b a := by
  unfold join
  rcases ha : somePts a with _ | _ <;> rcases hb : somePts b with _ | _ <;> simp
  refine ⟨?_, ?_, ?_, ?_⟩ <;> omega
theorem join_assoc (a b c : Four) : join (join a b) c = join a (join b c) := by
  have h1 := some_join a b
  have h2 := some_join b c
  rw [show join (join a b) c = if somePts (join a b) then if somePts c then ⟨min (join a b).a c.a, min (join a b).b c.b, max ((join a b).a + (join a b).c) (c.a + c.c) - min (join a b).a c.a, max ((join a b).b + (join a b).d) (c.b + c.d) - min (join a b).b c.b⟩ else join a b
    else if somePts c then c else ⟨0, 0, 0, 0⟩ from rfl,
    show join a (join b c) = if somePts a then if somePts (join b c) then ⟨min a.a (join b c).a, min a.b (join b c).b, max (a.a + a.c) ((join b c).a + (join b c).c) - min a.a (join b c).a, max (a.b + a.d) ((join b c).b + (join b c).d) - min a.b (join b c).b⟩ else a
    else if somePts (join b c) then join b c else ⟨0, 0, 0, 0⟩ from rfl, h1, h2]
  unfold join
  rcases ha : somePts a with _ | _ <;> rcases hb : somePts b with _ | _ <;> rcases hc : somePts c with _ | _ <;> simp
  all_goals (try refine ⟨?_, ?_, ?_, ?_⟩) <;> omega
theorem chain_same (a b c : Four) : cov [cov [a, b], c] = cov [c, a, b] := by
  rw [cov_two, cov_two, cov_three, join_comm (join a b) c, join_assoc]
theorem in_join (a b : Four) : insideB a.a a.b a.c a.d (join a b).a (join a b).b (join a b).c (join a b).d = true := by
  rw [insideB_iff]
  unfold join
  rcases ha : somePts a with _ | _
  · have : ¬ (0 < a.c ∧ 0 < a.d) := by rw [← some_iff, ha]; simp
    omega
  · rw [some_iff] at ha
    rcases hb : somePts b with _ | _ <;> simp
    omega
theorem inside_trans {a b c : Four} (h : insideB a.a a.b a.c a.d b.a b.b b.c b.d = true) (h2 : insideB b.a b.b b.c b.d c.a c.b c.c c.d = true) : insideB a.a a.b a.c a.d c.a c.b c.c c.d = true := by
  rw [insideB_iff] at *; omega
theorem meet_more {a b c : Four} (h : insideB a.a a.b a.c a.d b.a b.b b.c b.d = true) (h2 : meetB a.a a.b a.c a.d c.a c.b c.c c.d = true) : meetB b.a b.b b.c b.d c.a c.b c.c c.d = true := by
  rw [insideB_iff] at h; rw [meetB_iff] at *; omega

theorem least_bd (lo hi : Int) (h0 : lo ≤ 0 ∧ 0 ≤ hi) (g : Four → Int) (l : List Four) (h : ∀ r ∈ l, lo ≤ g r ∧ g r ≤ hi) : lo ≤ leastI g l ∧ leastI g l ≤ hi := by
  cases l with
  | nil => exact h0
  | cons x l =>
    obtain ⟨r, hr, e⟩ := leastI_mem g (l := x :: l) (by simp)
    rw [e]; exact h r hr
theorem most_bd (hi : Int) (h0 : 0 ≤ hi) (g : Four → Int) (l : List Four) (h : ∀ r ∈ l, g r ≤ hi) : 0 ≤ mostI g l ∧ mostI g l ≤ hi := by
  refine ⟨mostI_pos g l, ?_⟩
  rcases mostI_mem g l with e | ⟨r, hr, e⟩
  · rw [e]; omega
  · rw [e]; exact h r hr
/-- Within b everywhere. -/
def Far (b : Int) (r : Four) : Prop := (-b ≤ r.a ∧ r.a ≤ b) ∧ (-b ≤ r.b ∧ r.b ≤ b) ∧ (-b ≤ r.c ∧ r.c ≤ b) ∧ (-b ≤ r.d ∧ r.d ≤ b)
theorem cov_far (b : Int) (hb : 0 ≤ b) (l : List Four) (h : ∀ r ∈ l, Far b r) : (-b ≤ (cov l).a ∧ (cov l).a ≤ b) ∧ (-b ≤ (cov l).b ∧ (cov l).b ≤ b) ∧ (0 ≤ (cov l).c ∧ (cov l).c ≤ 3 * b) ∧ (0 ≤ (cov l).d ∧ (cov l).d ≤ 3 * b) := by
  have hf : ∀ r ∈ l.filter somePts, Far b r := fun r hr => h r (List.mem_filter.1 hr).1
  have hx := least_bd (-b) b (by omega) (·.a) (l.filter somePts) (fun r hr => (hf r hr).1)
  have hy := least_bd (-b) b (by omega) (·.b) (l.filter somePts) (fun r hr => (hf r hr).2.1)
  refine ⟨hx, hy, most_bd (3 * b) (by omega) _ _ (fun r hr => ?_), most_bd (3 * b) (by omega) _ _ (fun r hr => ?_)⟩
  · have h1 := hf r hr
    unfold Far at h1
    unfold coverX; omega
  · have h1 := hf r hr
    unfold Far at h1
    unfold coverY; omega
theorem far_near {r : Four} (h : nearB r = true) : Far 1073741824 r := by
  have h := of_decide_eq_true h
  unfold nearI at h
  unfold Far; omega
theorem mid_cov (l : List Four) (h : ∀ r ∈ l, nearB r = true) : Mid (cov l) := by
  have := cov_far 1073741824 (by omega) l (fun r hr => far_near (h r hr))
  unfold Mid; omega
end Go.Proofs.Ytflehhepnmcdeaa
