/-
  Contracts of package edges: common, Meet, Inside: what each answers for every input; nothing below changes.
-/
import Derived.Test.YtflehhepnmcdeaaEdgeCommon
namespace Go.Proofs.Ytflehhepnmcdeaa
open Go.RowKit

/-- A rectangle of numbers of 64 bits. -/
structure RectOk (a b m n : Int) : Prop where
  x : I64 a
  y : I64 b
  w : I64 m
  h : I64 n

theorem common_any (a b m n a' b' m' n' : Int) (w : World) (h : RectOk a b m n) (h' : RectOk a' b' m' n') :
    Calls Try.prog 36 #[.agg #[.int .i64 a, .int .i64 b, .int .i64 m, .int .i64 n], .agg #[.int .i64 a', .int .i64 b', .int .i64 m', .int .i64 n']] w fun e w' => e = .returned (commonV a b m n a' b' m' n') ∧ Qt w.heap.size w w' :=
  common_h a b m n a' b' m' n' w (Lib.hid h.w) (Lib.hid h.h) (Lib.hid h'.w) (Lib.hid h'.h) (Lib.hid h.x) (Lib.hid h.y) (Lib.hid h'.x) (Lib.hid h'.y)

theorem meet_pos {a b m n a' b' m' n' : Int} (h : meetB a b m n a' b' m' n' = true) : (sharedI a m a' m' == 0) = false ∧ (sharedI b n b' n' == 0) = false := by
  unfold meetB pointsB at h
  simp at h
  exact ⟨by simp; omega, by simp; omega⟩

set_option maxRecDepth 100000 in
theorem meet_any (a b m n a' b' m' n' : Int) (w : World) (h : RectOk a b m n) (h' : RectOk a' b' m' n') :
    Calls Try.prog 17 #[.agg #[.int .i64 a, .int .i64 b, .int .i64 m, .int .i64 n], .agg #[.int .i64 a', .int .i64 b', .int .i64 m', .int .i64 n']] w fun e w' => e = .returned (.bool (meetB a b m n a' b' m' n')) ∧ Qt w.heap.size w w' := by
  have hz := rect_zero
  have hq := rect_eq
  have hc := fun w => Lib.hid (common_any a b m n a' b' m' n' w h h')
  clear h h'
  rcases hm : meetB a b m n a' b' m' n' with _ | _
  · have hv : Hid (commonV a b m n a' b' m' n' = .agg #[.int .i64 0, .int .i64 0, .int .i64 0, .int .i64 0]) := Lib.hid (by unfold commonV; rw [hm]; rfl)
    clear hm
    go_enter Try.func17, Try.ntmps17
    go_wp2_with fail
    refine (hc _).out.mono ?_; rintro e w1 ⟨rfl, hq1⟩; rw [hv.out]
    have hq2 := Lib.hid ((((Qt.refl w.heap.size w).alloc (Nat.le_refl _) _ _).alloc (by simp) _ _).trans (hq1.mono (by simp; omega)))
    clear hq1
    go_wp2_with fail
    go_ret
    exact ⟨rfl, hq2.out⟩
  · have hv : Hid (commonV a b m n a' b' m' n' = .agg #[.int .i64 (max a a'), .int .i64 (max b b'), .int .i64 (sharedI a m a' m'), .int .i64 (sharedI b n b' n')]) := Lib.hid (by unfold commonV; rw [hm]; rfl)
    obtain ⟨p1, p2⟩ := meet_pos hm
    clear hm
    go_enter Try.func17, Try.ntmps17
    go_wp2_with fail
    refine (hc _).out.mono ?_; rintro e w1 ⟨rfl, hq1⟩; rw [hv.out]
    have hq2 := Lib.hid ((((Qt.refl w.heap.size w).alloc (Nat.le_refl _) _ _).alloc (by simp) _ _).trans (hq1.mono (by simp; omega)))
    clear hq1
    go_wp2_with fail
    go_ret
    exact ⟨rfl, hq2.out⟩

theorem inside_boxes (w : World) (x1 x2 : List Value) (W : World)
    (h : (w.alloc (.cells x1.toArray 33)).alloc (.cells x2.toArray 33) = W) :
    Box W w.heap.size x1 ∧ Box W (w.heap.size + 1) x2 ∧ Qt w.heap.size w W ∧ W.heap.size = w.heap.size + 2 := by
  subst h
  refine ⟨(Box.new w x1 _).alloc _, ?_, ((Qt.refl _ _).alloc (Nat.le_refl _) _ _).alloc (by simp) _ _, by simp⟩
  simpa using Box.new (w.alloc (.cells x1.toArray 33)) x2 33

theorem eight {W : World} {g h : Nat} {a b c d a' b' c' d' : Value} (b1 : Box W g [a, b, c, d]) (b2 : Box W h [a', b', c', d']) :
    W.cell? ⟨g, 0, none⟩ = some a ∧ W.cell? ⟨g, 1, none⟩ = some b ∧ W.cell? ⟨g, 2, none⟩ = some c ∧ W.cell? ⟨g, 3, none⟩ = some d ∧ W.cell? ⟨h, 0, none⟩ = some a' ∧ W.cell? ⟨h, 1, none⟩ = some b' ∧ W.cell? ⟨h, 2, none⟩ = some c' ∧ W.cell? ⟨h, 3, none⟩ = some d' :=
  ⟨b1.four.1, b1.four.2.1, b1.four.2.2.1, b1.four.2.2.2, b2.four⟩

set_option maxRecDepth 100000 in
theorem inside_h (a b m n a' b' m' n' x y z u x' y' z' u' : Int) (w : World) (h : Hid (RectOk a b m n)) (h' : Hid (RectOk a' b' m' n'))
    (v1 : Hid (commonV a b m n a' b' m' n' = .agg #[.int .i64 x, .int .i64 y, .int .i64 z, .int .i64 u])) (v2 : Hid (commonV a b m n a b m n = .agg #[.int .i64 x', .int .i64 y', .int .i64 z', .int .i64 u'])) :
    Calls Try.prog 19 #[.agg #[.int .i64 a, .int .i64 b, .int .i64 m, .int .i64 n], .agg #[.int .i64 a', .int .i64 b', .int .i64 m', .int .i64 n']] w fun e w' => e = .returned (.bool (x == x' && y == y' && z == z' && u == u')) ∧ Qt w.heap.size w w' := by
  have hq := rect_eq
  go_enter Try.func19, Try.ntmps19
  go_wp2_with fail
  generalize hW : World.alloc (World.alloc w _) _ = W
  obtain ⟨b1, b2, hq, hs0⟩ := inside_boxes w [_, _, _, _] [_, _, _, _] W hW
  clear hW
  have hs := Lib.hid hs0
  clear hs0
  have hq1 := Lib.hid hq.drew
  go_region_held3 (fun w' => w'.cell? ⟨w.heap.size, 0, none⟩ = some (.int .i64 a) ∧ w'.cell? ⟨w.heap.size, 1, none⟩ = some (.int .i64 b) ∧ w'.cell? ⟨w.heap.size, 2, none⟩ = some (.int .i64 m) ∧ w'.cell? ⟨w.heap.size, 3, none⟩ = some (.int .i64 n) ∧
      w'.cell? ⟨w.heap.size + 1, 0, none⟩ = some (.int .i64 a') ∧ w'.cell? ⟨w.heap.size + 1, 1, none⟩ = some (.int .i64 b') ∧ w'.cell? ⟨w.heap.size + 1, 2, none⟩ = some (.int .i64 m') ∧ w'.cell? ⟨w.heap.size + 1, 3, none⟩ = some (.int .i64 n'))
    (first | exact eight b1.drew b2.drew | exact eight b12 b22 | exact eight b11 b21 | (go_keep; done))
    (first | (go_at_call 36; (with_reducible refine (common_any a b m n a' b' m' n' _ h.out h'.out).mono ?_); rintro e w1 ⟨rfl, hr1⟩; have b11 := b1.drew.below hr1.1; have b21 := b2.drew.below hr1.1; rw [v1.out])
           | (go_at_call 36; (with_reducible refine (common_any a b m n a b m n _ h.out h.out).mono ?_); rintro e w2 ⟨rfl, hr2⟩; have b12 := b11.below hr2.1; have b22 := b21.below hr2.1; rw [v2.out]))
  have hq2 := Lib.hid ((hq1.out.trans (hr1.mono (by show _ ≤ W.heap.size; rw [hs.out]; omega))).trans (hr2.mono (by have := hr1.1.size; have e := hs.out; have : W.heap.size ≤ w1.heap.size := this; omega)))
  clear hr1 hr2 b1 b2 b11 b12 b21 b22
  go_wp2_with fail
  go_ret
  exact ⟨rfl, hq2.out⟩

theorem restI_eq (f l t : Int) : restI f l t = max 0 (f + l - t) := by unfold restI; split <;> omega

/-- What common answers, number by number. -/
theorem commonV_of (a b m n a' b' m' n' : Int) : ∃ x y z u : Int, commonV a b m n a' b' m' n' = .agg #[.int .i64 x, .int .i64 y, .int .i64 z, .int .i64 u] ∧
    (meetB a b m n a' b' m' n' = true → x = max a a' ∧ y = max b b' ∧ z = sharedI a m a' m' ∧ u = sharedI b n b' n') ∧ (meetB a b m n a' b' m' n' = false → x = 0 ∧ y = 0 ∧ z = 0 ∧ u = 0) := by
  unfold commonV
  rcases h : meetB a b m n a' b' m' n' with _ | _
  · exact ⟨0, 0, 0, 0, by simp, (fun h => by cases h), fun _ => ⟨rfl, rfl, rfl, rfl⟩⟩
  · exact ⟨_, _, _, _, if_pos rfl, fun _ => ⟨rfl, rfl, rfl, rfl⟩, fun h => by cases h⟩

theorem meetB_iff (a b m n a' b' m' n' : Int) : meetB a b m n a' b' m' n' = true ↔ (0 < m ∧ 0 < m' ∧ a < a' + m' ∧ a' < a + m) ∧ (0 < n ∧ 0 < n' ∧ b < b' + n' ∧ b' < b + n) := by
  unfold meetB pointsB sharedI
  rw [restI_eq, restI_eq, restI_eq, restI_eq]
  simp only [Bool.and_eq_true, decide_eq_true_eq]
  omega

theorem insideB_iff (a b m n a' b' m' n' : Int) : insideB a b m n a' b' m' n' = true ↔ (m ≤ 0 ∨ n ≤ 0 ∨ (a' ≤ a ∧ a + m ≤ a' + m' ∧ b' ≤ b ∧ b + n ≤ b' + n')) := by
  unfold insideB pointsB
  simp only [Bool.or_eq_true, Bool.and_eq_true, decide_eq_true_eq, Bool.not_eq_true', Bool.and_eq_false_iff, decide_eq_false_iff_not]
  omega

theorem bool_of_iff {a : Bool} {p : Prop} (h : a = true ↔ p) : (p → a = true) ∧ (¬ p → a = false) := ⟨h.2, fun hn => by cases a <;> simp_all⟩

theorem inside_any (a b m n a' b' m' n' : Int) (w : World) (h : RectOk a b m n) (h' : RectOk a' b' m' n') :
    Calls Try.prog 19 #[.agg #[.int .i64 a, .int .i64 b, .int .i64 m, .int .i64 n], .agg #[.int .i64 a', .int .i64 b', .int .i64 m', .int .i64 n']] w fun e w' => e = .returned (.bool (insideB a b m n a' b' m' n')) ∧ Qt w.heap.size w w' := by
  obtain ⟨x, y, z, u, v1, t1, f1⟩ := commonV_of a b m n a' b' m' n'
  obtain ⟨x', y', z', u', v2, t2, f2⟩ := commonV_of a b m n a b m n
  have e : (x == x' && y == y' && z == z' && u == u') = insideB a b m n a' b' m' n' := by
    rw [Bool.eq_iff_iff, insideB_iff]
    simp only [Bool.and_eq_true, beq_iff_eq]
    by_cases p : meetB a b m n a' b' m' n' = true
    · obtain ⟨rfl, rfl, rfl, rfl⟩ := t1 p
      have q : meetB a b m n a b m n = true := by rw [meetB_iff] at p ⊢; omega
      obtain ⟨rfl, rfl, rfl, rfl⟩ := t2 q
      rw [meetB_iff] at p
      unfold sharedI
      rw [restI_eq, restI_eq, restI_eq, restI_eq, restI_eq, restI_eq]
      omega
    · obtain ⟨rfl, rfl, rfl, rfl⟩ := f1 (by simpa using p)
      by_cases q : meetB a b m n a b m n = true
      · obtain ⟨rfl, rfl, rfl, rfl⟩ := t2 q
        rw [meetB_iff] at p q
        unfold sharedI
        rw [restI_eq, restI_eq]
        omega
      · obtain ⟨rfl, rfl, rfl, rfl⟩ := f2 (by simpa using q)
        rw [meetB_iff] at q
        omega
  rw [← e]
  exact inside_h a b m n a' b' m' n' x y z u x' y' z' u' w (Lib.hid h) (Lib.hid h') (Lib.hid v1) (Lib.hid v2)
end Go.Proofs.Ytflehhepnmcdeaa
