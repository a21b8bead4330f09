/-
  Contracts of the statements' own small functions small and has; and what points say of small rectangles.
-/
import Derived.Test.YtflehhepnmcdeaaJoin
namespace Go.Proofs.Ytflehhepnmcdeaa
open Go.RowKit

/-- A rectangle of small numbers. -/
def smallR (r : Four) : Four := ⟨r.a.tmod 10, r.b.tmod 10, r.c.tmod 12, r.d.tmod 12⟩
/-- Small numbers. -/
structure Sm (r : Four) : Prop where
  a : -9 ≤ r.a ∧ r.a ≤ 9
  b : -9 ≤ r.b ∧ r.b ≤ 9
  c : -11 ≤ r.c ∧ r.c ≤ 11
  d : -11 ≤ r.d ∧ r.d ≤ 11
theorem tmod_bd (x : Int) (m : Int) (h : m = 10 ∨ m = 12) : -m < x.tmod m ∧ x.tmod m < m := by
  have hm : 0 < m := by omega
  have h1 := Int.tmod_lt_of_pos (-x) hm
  rw [Int.neg_tmod] at h1
  exact ⟨by omega, Int.tmod_lt_of_pos x hm⟩
theorem small_sm (r : Four) : Sm (smallR r) := by
  have h1 := tmod_bd r.a 10 (.inl rfl)
  have h2 := tmod_bd r.b 10 (.inl rfl)
  have h3 := tmod_bd r.c 12 (.inr rfl)
  have h4 := tmod_bd r.d 12 (.inr rfl)
  refine ⟨?_, ?_, ?_, ?_⟩ <;> (simp only [smallR]; omega)
theorem sm_mid {r : Four} (h : Sm r) : Mid r := by
  obtain ⟨h1, h2, h3, h4⟩ := h
  unfold Mid; omega

/-- Is the point in the rectangle? -/
def hasB (r : Four) (x y : Int) : Bool := decide (r.a ≤ x) && decide (x - r.a < r.c) && decide (r.b ≤ y) && decide (y - r.b < r.d)
theorem has_iff {r : Four} {x y : Int} : hasB r x y = true ↔ (r.a ≤ x ∧ x - r.a < r.c) ∧ r.b ≤ y ∧ y - r.b < r.d := by
  unfold hasB; simp only [Bool.and_eq_true, decide_eq_true_eq]; omega

/-- The points gone by. -/
def Done (x y p q : Int) : Prop := -9 ≤ p ∧ -9 ≤ q ∧ q < 30 ∧ (p < x ∨ (p = x ∧ q < y))

structure PI (a b : Four) (x y : Int) (C L : Bool) (R K : List Bool) : Prop where
  hC : C = true ↔ ∃ p q, Done x y p q ∧ hasB a p q = true ∧ hasB b p q = true
  hL : L = true ↔ ∀ p q, Done x y p q → hasB a p q = true → hasB b p q = true
  hR : ∀ p q, Done x y p q → (hasB a p q || hasB b p q) = true → R[(q + 9).toNat]? = some true ∧ K[(p + 9).toNat]? = some true
  lR : R.length = 40
  lK : K.length = 40

theorem pi_start (a b : Four) : PI a b (-9) (-9) false true (List.replicate 40 false) (List.replicate 40 false) := by
  have hn : ∀ p q, ¬ Done (-9) (-9) p q := fun p q h => by unfold Done at h; omega
  exact ⟨⟨fun h => Bool.noConfusion h, fun ⟨p, q, h, _⟩ => absurd h (hn p q)⟩, ⟨fun _ p q h => absurd h (hn p q), fun _ => rfl⟩, fun p q h => absurd h (hn p q), by simp, by simp⟩
theorem pi_end {a b : Four} {x : Int} {C L : Bool} {R K : List Bool} (h : PI a b x 30 C L R K) : PI a b (x + 1) (-9) C L R K := by
  have hd : ∀ p q, Done x 30 p q ↔ Done (x + 1) (-9) p q := fun p q => by unfold Done; omega
  obtain ⟨h1, h2, h3, h4, h5⟩ := h
  simp only [hd] at h1 h2 h3
  exact ⟨h1, h2, h3, h4, h5⟩

theorem pi_step {a b : Four} {x y : Int} {C L : Bool} {R K : List Bool} (h : PI a b x y C L R K) (hx : -9 ≤ x ∧ x < 30) (hy : -9 ≤ y ∧ y < 30) {R' K' : List Bool}
    (hR' : R' = if (hasB a x y || hasB b x y) = true then R.set (y + 9).toNat true else R) (hK' : K' = if (hasB a x y || hasB b x y) = true then K.set (x + 9).toNat true else K) :
    PI a b x (y + 1) (C || hasB a x y && hasB b x y) (L && (!hasB a x y || hasB b x y)) R' K' := by
  have hd : ∀ p q, Done x (y + 1) p q ↔ Done x y p q ∨ (p = x ∧ q = y) := fun p q => by unfold Done; omega
  have keepR : ∀ k, R[k]? = some true → R'[k]? = some true := fun k hk => by
    rw [hR']; split
    · by_cases e : (y + 9).toNat = k
      · subst e; rw [List.getElem?_set_self (by rw [h.lR]; omega)]
      · rw [List.getElem?_set_ne e]; exact hk
    · exact hk
  have keepK : ∀ k, K[k]? = some true → K'[k]? = some true := fun k hk => by
    rw [hK']; split
    · by_cases e : (x + 9).toNat = k
      · subst e; rw [List.getElem?_set_self (by rw [h.lK]; omega)]
      · rw [List.getElem?_set_ne e]; exact hk
    · exact hk
  refine ⟨?_, ?_, ?_, ?_, ?_⟩
  · simp only [Bool.or_eq_true, Bool.and_eq_true, h.hC, hd]
    constructor
    · rintro (⟨p, q, h1, h2⟩ | h1)
      · exact ⟨p, q, .inl h1, h2⟩
      · exact ⟨x, y, .inr ⟨rfl, rfl⟩, h1⟩
    · rintro ⟨p, q, h1 | ⟨rfl, rfl⟩, h2⟩
      · exact .inl ⟨p, q, h1, h2⟩
      · exact .inr h2
  · simp only [Bool.and_eq_true, Bool.or_eq_true, Bool.not_eq_true', h.hL, hd]
    constructor
    · rintro ⟨h1, h2⟩ p q (h3 | ⟨rfl, rfl⟩) h4
      · exact h1 p q h3 h4
      · rcases h2 with h2 | h2
        · rw [h2] at h4; cases h4
        · exact h2
    · intro h1
      refine ⟨fun p q h2 => h1 p q (.inl h2), ?_⟩
      rcases hh : hasB a x y with _ | _
      · exact .inl rfl
      · exact .inr (h1 x y (.inr ⟨rfl, rfl⟩) hh)
  · intro p q h1 h2
    rcases (hd p q).1 h1 with h3 | ⟨rfl, rfl⟩
    · exact ⟨keepR _ (h.hR p q h3 h2).1, keepK _ (h.hR p q h3 h2).2⟩
    · rw [hR', hK', if_pos h2, if_pos h2]
      exact ⟨List.getElem?_set_self (by rw [h.lR]; omega), List.getElem?_set_self (by rw [h.lK]; omega)⟩
  · rw [hR']; split <;> simp [h.lR]
  · rw [hK']; split <;> simp [h.lK]

theorem hasB_join {a b : Four} {x y : Int} (h : (hasB a x y || hasB b x y) = true) : hasB (join a b) x y = true := by
  rw [Bool.or_eq_true, has_iff, has_iff] at h
  rw [has_iff]
  unfold join
  rcases ha : somePts a with _ | _ <;> rcases hb : somePts b with _ | _
  · have h1 : ¬ (0 < a.c ∧ 0 < a.d) := by rw [← some_iff, ha]; simp
    have h2 : ¬ (0 < b.c ∧ 0 < b.d) := by rw [← some_iff, hb]; simp
    omega
  · have h1 : ¬ (0 < a.c ∧ 0 < a.d) := by rw [← some_iff, ha]; simp
    simp; omega
  · have h2 : ¬ (0 < b.c ∧ 0 < b.d) := by rw [← some_iff, hb]; simp
    simp; omega
  · simp; omega

/-- What is asked of the cover at the end. -/
structure PFin (c : Four) (R K : List Bool) : Prop where
  fa : -9 ≤ c.a ∧ c.a ≤ 9
  fb : -9 ≤ c.b ∧ c.b ≤ 9
  fc : 0 ≤ c.c ∧ c.c ≤ 29
  fd : 0 ≤ c.d ∧ c.d ≤ 29
  fx : c.a + c.c ≤ 30
  fy : c.b + c.d ≤ 30
  fe : 0 < c.c ↔ 0 < c.d
  fm : 0 < c.c → K[(c.a + 9).toNat]? = some true ∧ K[(c.a + c.c - 1 + 9).toNat]? = some true ∧ R[(c.b + 9).toNat]? = some true ∧ R[(c.b + c.d - 1 + 9).toNat]? = some true

theorem pi_meet {a b : Four} {C L : Bool} {R K : List Bool} (h : PI a b 30 (-9) C L R K) (ha : Sm a) (hb : Sm b) : meetB a.a a.b a.c a.d b.a b.b b.c b.d = C := by
  obtain ⟨a1, a2, a3, a4⟩ := ha
  obtain ⟨b1, b2, b3, b4⟩ := hb
  rw [Bool.eq_iff_iff, meetB_iff, h.hC]
  constructor
  · intro hm
    refine ⟨max a.a b.a, max a.b b.b, ?_, ?_, ?_⟩
    · unfold Done; omega
    · rw [has_iff]; omega
    · rw [has_iff]; omega
  · rintro ⟨p, q, -, h1, h2⟩
    rw [has_iff] at h1 h2
    omega
theorem pi_inside {a b : Four} {C L : Bool} {R K : List Bool} (h : PI a b 30 (-9) C L R K) (ha : Sm a) (hb : Sm b) : insideB a.a a.b a.c a.d b.a b.b b.c b.d = L := by
  obtain ⟨a1, a2, a3, a4⟩ := ha
  obtain ⟨b1, b2, b3, b4⟩ := hb
  rw [Bool.eq_iff_iff, insideB_iff, h.hL]
  constructor
  · intro hm p q _ h1
    rw [has_iff] at h1 ⊢
    omega
  · intro hp
    by_cases hs : 0 < a.c ∧ 0 < a.d
    · have h1 := hp a.a a.b (by unfold Done; omega) (by rw [has_iff]; omega)
      have h2 := hp (a.a + a.c - 1) (a.b + a.d - 1) (by unfold Done; omega) (by rw [has_iff]; omega)
      rw [has_iff] at h1 h2
      omega
    · omega
theorem or_l {a b : Bool} (h : a = true) : (a || b) = true := by rw [h]; rfl
theorem or_r {a b : Bool} (h : b = true) : (a || b) = true := by rw [h]; cases a <;> rfl
theorem pi_fin {a b : Four} {C L : Bool} {R K : List Bool} (h : PI a b 30 (-9) C L R K) (ha : Sm a) (hb : Sm b) : PFin (join a b) R K := by
  obtain ⟨a1, a2, a3, a4⟩ := ha
  obtain ⟨b1, b2, b3, b4⟩ := hb
  have mk : ∀ p q, (hasB a p q || hasB b p q) = true → R[(q + 9).toNat]? = some true ∧ K[(p + 9).toNat]? = some true := fun p q h1 => by
    refine h.hR p q ?_ h1
    rw [Bool.or_eq_true, has_iff, has_iff] at h1
    unfold Done; omega
  have ma : somePts a = true → (R[(a.b + 9).toNat]? = some true ∧ K[(a.a + 9).toNat]? = some true) ∧ (R[(a.b + a.d - 1 + 9).toNat]? = some true ∧ K[(a.a + a.c - 1 + 9).toNat]? = some true) := fun hs => by
    rw [some_iff] at hs
    exact ⟨mk a.a a.b (or_l (by rw [has_iff]; omega)), mk (a.a + a.c - 1) (a.b + a.d - 1) (or_l (by rw [has_iff]; omega))⟩
  have mb : somePts b = true → (R[(b.b + 9).toNat]? = some true ∧ K[(b.a + 9).toNat]? = some true) ∧ (R[(b.b + b.d - 1 + 9).toNat]? = some true ∧ K[(b.a + b.c - 1 + 9).toNat]? = some true) := fun hs => by
    rw [some_iff] at hs
    exact ⟨mk b.a b.b (or_r (by rw [has_iff]; omega)), mk (b.a + b.c - 1) (b.b + b.d - 1) (or_r (by rw [has_iff]; omega))⟩
  unfold join
  rcases hA : somePts a with _ | _ <;> rcases hB : somePts b with _ | _
  · have e : PFin ⟨0, 0, 0, 0⟩ R K := ⟨by decide, by decide, by decide, by decide, by decide, by decide, by decide, fun h => absurd h (by decide)⟩
    exact e
  · obtain ⟨⟨m1, m2⟩, m3, m4⟩ := mb hB
    have := some_iff.1 hB
    exact ⟨by simp; omega, by simp; omega, by simp; omega, by simp; omega, by simp; omega, by simp; omega, by simp; omega, fun _ => ⟨m2, m4, m1, m3⟩⟩
  · obtain ⟨⟨m1, m2⟩, m3, m4⟩ := ma hA
    have := some_iff.1 hA
    exact ⟨by simp; omega, by simp; omega, by simp; omega, by simp; omega, by simp; omega, by simp; omega, by simp; omega, fun _ => ⟨m2, m4, m1, m3⟩⟩
  · obtain ⟨⟨m1, m2⟩, m3, m4⟩ := ma hA
    obtain ⟨⟨k1, k2⟩, k3, k4⟩ := mb hB
    have s1 := some_iff.1 hA
    have s2 := some_iff.1 hB
    refine ⟨by simp; omega, by simp; omega, by simp; omega, by simp; omega, by simp; omega, by simp; omega, by simp; omega, fun _ => ⟨?_, ?_, ?_, ?_⟩⟩
    · simp only [if_true]
      rcases (by omega : min a.a b.a = a.a ∨ min a.a b.a = b.a) with e | e <;> rw [e] <;> assumption
    · simp only [if_true]
      rcases (by omega : min a.a b.a + (max (a.a + a.c) (b.a + b.c) - min a.a b.a) - 1 + 9 = a.a + a.c - 1 + 9 ∨ min a.a b.a + (max (a.a + a.c) (b.a + b.c) - min a.a b.a) - 1 + 9 = b.a + b.c - 1 + 9) with e | e <;> rw [e] <;> assumption
    · simp only [if_true]
      rcases (by omega : min a.b b.b = a.b ∨ min a.b b.b = b.b) with e | e <;> rw [e] <;> assumption
    · simp only [if_true]
      rcases (by omega : min a.b b.b + (max (a.b + a.d) (b.b + b.d) - min a.b b.b) - 1 + 9 = a.b + a.d - 1 + 9 ∨ min a.b b.b + (max (a.b + a.d) (b.b + b.d) - min a.b b.b) - 1 + 9 = b.b + b.d - 1 + 9) with e | e <;> rw [e] <;> assumption

theorem join_bd {a b : Four} (ha : Sm a) (hb : Sm b) : (-1000 ≤ (join a b).a ∧ (join a b).a ≤ 1000) ∧ -1000 ≤ (join a b).b ∧ (join a b).b ≤ 1000 := by
  obtain ⟨a1, a2, a3, a4⟩ := ha
  obtain ⟨b1, b2, b3, b4⟩ := hb
  unfold join
  rcases somePts a with _ | _ <;> rcases somePts b with _ | _ <;> simp <;> omega

set_option maxRecDepth 100000 in
theorem small_any (r : Four) (w : World) :
    Calls Try.prog 23 #[.agg #[.int .i64 r.a, .int .i64 r.b, .int .i64 r.c, .int .i64 r.d]] w fun e w' => e = .returned (.agg #[.int .i64 (smallR r).a, .int .i64 (smallR r).b, .int .i64 (smallR r).c, .int .i64 (smallR r).d]) ∧ Below w.heap.size w w' := by
  have hall := rect_all
  unfold smallR
  go_enter Try.func23, Try.ntmps23
  go_wp2_with fail
  generalize hW : World.alloc (World.alloc w _) _ = V
  obtain ⟨k3, hq6⟩ : Box V (w.heap.size + 1) [.int .i64 (r.a.tmod 10), .int .i64 (r.b.tmod 10), .int .i64 (r.c.tmod 12), .int .i64 (r.d.tmod 12)] ∧ Below w.heap.size w V := by
    subst hW
    exact ⟨by simpa [fourE] using Box.new (w.alloc (.cells (fourE r).toArray 33)) [.int .i64 (r.a.tmod 10), .int .i64 (r.b.tmod 10), .int .i64 (r.c.tmod 12), .int .i64 (r.d.tmod 12)] 33, ((Below.refl _ _).alloc (Nat.le_refl _) _).alloc (by simp) _⟩
  obtain ⟨q0, q1, q2, q3⟩ := k3.four
  clear hW
  exact bodyPost_ret (v := .agg #[.int .i64 (r.a.tmod 10), .int .i64 (r.b.tmod 10), .int .i64 (r.c.tmod 12), .int .i64 (r.d.tmod 12)]) (by simp [results, Try.results23, go_sem, q0, q1, q2, q3]) rfl ⟨rfl, hq6⟩

set_option maxRecDepth 100000 in
theorem has_any (r : Four) (x y : Int) (w : World) (h1 : -1000 ≤ r.a ∧ r.a ≤ 1000) (h2 : -1000 ≤ r.b ∧ r.b ≤ 1000) (h3 : -1000 ≤ x ∧ x ≤ 1000) (h4 : -1000 ≤ y ∧ y ≤ 1000) :
    Calls Try.prog 24 #[.agg #[.int .i64 r.a, .int .i64 r.b, .int .i64 r.c, .int .i64 r.d], .int .i64 x, .int .i64 y] w fun e w' => e = .returned (.bool (hasB r x y)) ∧ Below w.heap.size w w' := by
  unfold hasB
  rcases r with ⟨a, b, c, d⟩
  simp only at h1 h2 ⊢
  have hb := (Below.refl w.heap.size w).alloc (Nat.le_refl _) (.cells #[.int .i64 a, .int .i64 b, .int .i64 c, .int .i64 d] 33)
  rcases k1 : decide (a ≤ x) with _ | _ <;> rcases k2 : decide (x - a < c) with _ | _ <;> rcases k3 : decide (b ≤ y) with _ | _ <;> rcases k4 : decide (y - b < d) with _ | _
  all_goals
    simp only [decide_eq_true_eq, decide_eq_false_iff_not] at k1 k2 k3 k4
    go_enter Try.func24, Try.ntmps24
    go_wp2_with fail
    go_ret
    exact ⟨rfl, hb⟩
end Go.Proofs.Ytflehhepnmcdeaa
