/-
  Contracts of the document's answer for edges: Some, meet, Meet, inside, Inside.
-/
import Derived.Test.YtflehhepnmcdeaaRef2b
import Derived.Test.YtflehhepnmcdeaaEdgeMeet
namespace Go.Proofs.Ytflehhepnmcdeaa
open Go.RowKit

set_option maxRecDepth 100000 in
theorem rsome_any (a b m n : Int) (w : World) :
    Calls Try.prog 37 #[.agg #[.int .i64 a, .int .i64 b, .int .i64 m, .int .i64 n]] w fun e w' => e = .returned (.bool (pointsB m n)) ∧ Below w.heap.size w w' := by
  unfold pointsB
  rcases hm : decide (0 < m) with _ | _ <;> rcases hn : decide (0 < n) with _ | _
  all_goals
    go_enter Try.func37, Try.ntmps37
    go_wp2_with fail
    go_ret
    exact ⟨rfl, (Below.refl _ _).alloc (Nat.le_refl _) _⟩

/-- Of two made one behind the other, is the first one less? -/
theorem less_made {w w1 w2 : World} {m1 m2 : Bool} {E1 E2 : Option Addr} {k1 k2 c1 c2 : Nat} {l1 l2 : List Bool} {x y : Int} (h1 : SlB w1 E1 k1 c1 l1) (h2 : SlB w2 E2 k2 c2 l2) (hb1 : Below w.heap.size w w1) (hb2 : Below w1.heap.size w1 w2) (hk1 : k1 ≤ 128) (hk2 : k2 ≤ 128) (v1 : sgn m1 l1 = x) (v2 : sgn m2 l2 = y) :
    Calls Try.prog 55 #[.agg #[.bool m1, .slice E1 k1 c1], .agg #[.bool m2, .slice E2 k2 c2]] w2 fun e w' => e = .returned (.bool (decide (x < y))) ∧ Below w.heap.size w w' := by
  have h := rless_any m1 m2 E1 E2 k1 k2 c1 c2 l1 l2 w2 (h1.keep hb2) h2 (by omega) (by omega)
  rw [v1, v2] at h
  exact h.mono fun _ _ ⟨he, hb⟩ => ⟨he, (hb1.trans (hb2.mono hb1.size)).trans (hb.mono (Nat.le_trans hb1.size hb2.size))⟩

set_option maxRecDepth 100000 in
set_option maxHeartbeats 800000 in
theorem rmeet_h (a m b n : Int) (w : World) (ha : Hid (I64 a)) (hm : Hid (I64 m)) (hb : Hid (I64 b)) (hn : Hid (I64 n)) :
    Calls Try.prog 38 #[.int .i64 a, .int .i64 m, .int .i64 b, .int .i64 n] w fun e w' => e = .returned (.bool (decide (a < b + n) && decide (b < a + m))) ∧ Below w.heap.size w w' := by
  rcases t1 : decide (a < b + n) with _ | _
  · have t1 := Lib.hid t1
    go_enter Try.func38, Try.ntmps38
    go_wp2_with fail
    refine (of_any a w ha.out).mono ?_; rintro e w1 ⟨m1, E1, k1, c1, l1, rfl, hk1, hv1, -, hS1, hb1, -⟩
    have hv1 := Lib.hid hv1
    go_wp2_with fail
    refine (radd_any b n w1 hb.out hn.out).mono ?_; rintro e w2 ⟨m2, E2, k2, c2, l2, rfl, hk2, hv2, -, hS2, hb2, -⟩
    have hv2 := Lib.hid hv2
    have cl := Lib.hid (less_made hS1 hS2 hb1 hb2 (by omega) (by omega) hv1.out hv2.out)
    clear hS1 hS2 hb1 hb2
    go_wp2_with fail
    refine cl.out.mono ?_; rintro e w3 ⟨rfl, hb3⟩
    rw [t1.out]
    have hb3 := Lib.hid hb3
    clear cl
    go_wp2_with fail
    go_ret
    exact ⟨rfl, hb3.out⟩
  · have t1 := Lib.hid t1
    go_enter Try.func38, Try.ntmps38
    go_wp2_with fail
    refine (of_any a w ha.out).mono ?_; rintro e w1 ⟨m1, E1, k1, c1, l1, rfl, hk1, hv1, -, hS1, hb1, -⟩
    have hv1 := Lib.hid hv1
    go_wp2_with fail
    refine (radd_any b n w1 hb.out hn.out).mono ?_; rintro e w2 ⟨m2, E2, k2, c2, l2, rfl, hk2, hv2, -, hS2, hb2, -⟩
    have hv2 := Lib.hid hv2
    have cl := Lib.hid (less_made hS1 hS2 hb1 hb2 (by omega) (by omega) hv1.out hv2.out)
    clear hS1 hS2 hb1 hb2 hk1 hk2
    go_wp2_with fail
    refine cl.out.mono ?_; rintro e w3 ⟨rfl, hb3⟩
    rw [t1.out]
    have hb3 := Lib.hid hb3
    clear cl
    go_wp2_with fail
    refine (of_any b w3 hb.out).mono ?_; rintro e w4 ⟨m3, E3, k3, c3, l3, rfl, hk3, hv3, -, hS3, hb4, -⟩
    have hv3 := Lib.hid hv3
    go_wp2_with fail
    refine (radd_any a m w4 ha.out hm.out).mono ?_; rintro e w5 ⟨m4, E4, k4, c4, l4, rfl, hk4, hv4, -, hS4, hb5, -⟩
    have hv4 := Lib.hid hv4
    have cl := Lib.hid (less_made hS3 hS4 hb4 hb5 (by omega) (by omega) hv3.out hv4.out)
    clear hS3 hS4 hb4 hb5 hk3 hk4
    go_wp2_with fail
    refine cl.out.mono ?_; rintro e w6 ⟨rfl, hb6⟩
    have hb7 := Lib.hid (hb3.out.trans (hb6.mono hb3.out.size))
    clear cl hb6
    go_wp2_with fail
    go_ret
    exact ⟨by simp, hb7.out⟩
theorem rmeet_any (a m b n : Int) (w : World) (ha : I64 a) (hm : I64 m) (hb : I64 b) (hn : I64 n) :
    Calls Try.prog 38 #[.int .i64 a, .int .i64 m, .int .i64 b, .int .i64 n] w fun e w' => e = .returned (.bool (decide (a < b + n) && decide (b < a + m))) ∧ Below w.heap.size w w' := rmeet_h a m b n w (Lib.hid ha) (Lib.hid hm) (Lib.hid hb) (Lib.hid hn)

set_option maxRecDepth 100000 in
set_option maxHeartbeats 800000 in
theorem rins_h (a m b n : Int) (w : World) (ha : Hid (I64 a)) (hm : Hid (I64 m)) (hb : Hid (I64 b)) (hn : Hid (I64 n)) :
    Calls Try.prog 39 #[.int .i64 a, .int .i64 m, .int .i64 b, .int .i64 n] w fun e w' => e = .returned (.bool (decide (b ≤ a) && !decide (b + n < a + m))) ∧ Below w.heap.size w w' := by
  rcases t1 : decide (b ≤ a) with _ | _
  · go_enter Try.func39, Try.ntmps39
    go_wp2_with fail
    go_ret
    exact ⟨rfl, Below.refl _ _⟩
  · rcases t2 : decide (b + n < a + m) with _ | _
    all_goals
      have t2 := Lib.hid t2
      go_enter Try.func39, Try.ntmps39
      go_wp2_with fail
      refine (radd_any b n w hb.out hn.out).mono ?_; rintro e w1 ⟨m1, E1, k1, c1, l1, rfl, hk1, hv1, -, hS1, hb1, -⟩
      have hv1 := Lib.hid hv1
      go_wp2_with fail
      refine (radd_any a m w1 ha.out hm.out).mono ?_; rintro e w2 ⟨m2, E2, k2, c2, l2, rfl, hk2, hv2, -, hS2, hb2, -⟩
      have hv2 := Lib.hid hv2
      have cl := Lib.hid (less_made hS1 hS2 hb1 hb2 (by omega) (by omega) hv1.out hv2.out)
      clear hS1 hS2 hb1 hb2 hk1 hk2
      go_wp2_with fail
      refine cl.out.mono ?_; rintro e w3 ⟨rfl, hb3⟩
      rw [t2.out]
      have hb3 := Lib.hid hb3
      clear cl
      go_wp2_with fail
      go_ret
      exact ⟨rfl, hb3.out⟩
theorem rins_any (a m b n : Int) (w : World) (ha : I64 a) (hm : I64 m) (hb : I64 b) (hn : I64 n) :
    Calls Try.prog 39 #[.int .i64 a, .int .i64 m, .int .i64 b, .int .i64 n] w fun e w' => e = .returned (.bool (decide (b ≤ a) && !decide (b + n < a + m))) ∧ Below w.heap.size w w' := rins_h a m b n w (Lib.hid ha) (Lib.hid hm) (Lib.hid hb) (Lib.hid hn)

/-- What Meet says of two stretches. -/
def mB (a m b n : Int) : Bool := decide (a < b + n) && decide (b < a + m)
def iB (a m b n : Int) : Bool := decide (b ≤ a) && !decide (b + n < a + m)

set_option maxRecDepth 100000 in
set_option maxHeartbeats 1600000 in
theorem rMeet_h (a b m n a' b' m' n' : Int) (w : World) (P P' X Y : Bool) (h : Hid (RectOk a b m n)) (h' : Hid (RectOk a' b' m' n')) (hP : Hid (pointsB m n = P)) (hP' : Hid (pointsB m' n' = P')) (hX : Hid (mB a m a' m' = X)) (hY : Hid (mB b n b' n' = Y)) :
    Calls Try.prog 18 #[.agg #[.int .i64 a, .int .i64 b, .int .i64 m, .int .i64 n], .agg #[.int .i64 a', .int .i64 b', .int .i64 m', .int .i64 n']] w fun e w' => e = .returned (.bool (P && P' && X && Y)) ∧ Below w.heap.size w w' := by
  have s1 := fun w => Lib.hid (rsome_any a b m n w)
  have s2 := fun w => Lib.hid (rsome_any a' b' m' n' w)
  have x1 := fun w => Lib.hid (rmeet_any a m a' m' w h.out.x h.out.w h'.out.x h'.out.w)
  have y1 := fun w => Lib.hid (rmeet_any b n b' n' w h.out.y h.out.h h'.out.y h'.out.h)
  rw [hP.out] at s1
  rw [hP'.out] at s2
  rw [show (decide (a < a' + m') && decide (a' < a + m)) = X from hX.out] at x1
  rw [show (decide (b < b' + n') && decide (b' < b + n)) = Y from hY.out] at y1
  clear hP hP' hX hY
  cases P <;> cases P' <;> cases X <;> cases Y
  all_goals
    go_enter Try.func18, Try.ntmps18
    go_wp2_with fail
    generalize hW : World.alloc (World.alloc w _) _ = V
    obtain ⟨b1, b2, hq, -⟩ := inside_boxes w [_, _, _, _] [_, _, _, _] V hW
    clear hW
    have hb := hq.1
    clear hq
    have p1 := b1.four
    have p2 := b2.four
    go_wp2_with (first | (go_at_call 37; (with_reducible refine (s1 _).out.mono ?_); rintro e w1 ⟨rfl, hq⟩; have hb := hb.trans (hq.mono hb.size); have b1 := b1.below hq; have b2 := b2.below hq; clear p1 p2 hq; have p1 := b1.four; have p2 := b2.four) | (go_at_call 37; (with_reducible refine (s2 _).out.mono ?_); rintro e w1 ⟨rfl, hq⟩; have hb := hb.trans (hq.mono hb.size); have b1 := b1.below hq; have b2 := b2.below hq; clear p1 p2 hq; have p1 := b1.four; have p2 := b2.four) | (go_at_call 38; (with_reducible refine (x1 _).out.mono ?_); rintro e w1 ⟨rfl, hq⟩; have hb := hb.trans (hq.mono hb.size); have b1 := b1.below hq; have b2 := b2.below hq; clear p1 p2 hq; have p1 := b1.four; have p2 := b2.four) | (go_at_call 38; (with_reducible refine (y1 _).out.mono ?_); rintro e w1 ⟨rfl, hq⟩; have hb := hb.trans (hq.mono hb.size); have b1 := b1.below hq; have b2 := b2.below hq; clear p1 p2 hq; have p1 := b1.four; have p2 := b2.four))
    go_ret
    exact ⟨rfl, hb⟩

set_option maxRecDepth 100000 in
set_option maxHeartbeats 1600000 in
theorem rInside_h (a b m n a' b' m' n' : Int) (w : World) (P P' X Y : Bool) (h : Hid (RectOk a b m n)) (h' : Hid (RectOk a' b' m' n')) (hP : Hid (pointsB m n = P)) (hP' : Hid (pointsB m' n' = P')) (hX : Hid (iB a m a' m' = X)) (hY : Hid (iB b n b' n' = Y)) :
    Calls Try.prog 20 #[.agg #[.int .i64 a, .int .i64 b, .int .i64 m, .int .i64 n], .agg #[.int .i64 a', .int .i64 b', .int .i64 m', .int .i64 n']] w fun e w' => e = .returned (.bool (!P || P' && X && Y)) ∧ Below w.heap.size w w' := by
  have s1 := fun w => Lib.hid (rsome_any a b m n w)
  have s2 := fun w => Lib.hid (rsome_any a' b' m' n' w)
  have x1 := fun w => Lib.hid (rins_any a m a' m' w h.out.x h.out.w h'.out.x h'.out.w)
  have y1 := fun w => Lib.hid (rins_any b n b' n' w h.out.y h.out.h h'.out.y h'.out.h)
  rw [hP.out] at s1
  rw [hP'.out] at s2
  rw [show (decide (a' ≤ a) && !decide (a' + m' < a + m)) = X from hX.out] at x1
  rw [show (decide (b' ≤ b) && !decide (b' + n' < b + n)) = Y from hY.out] at y1
  clear hP hP' hX hY
  cases P <;> cases P' <;> cases X <;> cases Y
  all_goals
    go_enter Try.func20, Try.ntmps20
    go_wp2_with fail
    generalize hW : World.alloc (World.alloc w _) _ = V
    obtain ⟨b1, b2, hq, -⟩ := inside_boxes w [_, _, _, _] [_, _, _, _] V hW
    clear hW
    have hb := hq.1
    clear hq
    have p1 := b1.four
    have p2 := b2.four
    go_wp2_with (first | (go_at_call 37; (with_reducible refine (s1 _).out.mono ?_); rintro e w1 ⟨rfl, hq⟩; have hb := hb.trans (hq.mono hb.size); have b1 := b1.below hq; have b2 := b2.below hq; clear p1 p2 hq; have p1 := b1.four; have p2 := b2.four) | (go_at_call 37; (with_reducible refine (s2 _).out.mono ?_); rintro e w1 ⟨rfl, hq⟩; have hb := hb.trans (hq.mono hb.size); have b1 := b1.below hq; have b2 := b2.below hq; clear p1 p2 hq; have p1 := b1.four; have p2 := b2.four) | (go_at_call 39; (with_reducible refine (x1 _).out.mono ?_); rintro e w1 ⟨rfl, hq⟩; have hb := hb.trans (hq.mono hb.size); have b1 := b1.below hq; have b2 := b2.below hq; clear p1 p2 hq; have p1 := b1.four; have p2 := b2.four) | (go_at_call 39; (with_reducible refine (y1 _).out.mono ?_); rintro e w1 ⟨rfl, hq⟩; have hb := hb.trans (hq.mono hb.size); have b1 := b1.below hq; have b2 := b2.below hq; clear p1 p2 hq; have p1 := b1.four; have p2 := b2.four))
    go_ret
    exact ⟨rfl, hb⟩

theorem rMeet_any (a b m n a' b' m' n' : Int) (w : World) (h : RectOk a b m n) (h' : RectOk a' b' m' n') :
    Calls Try.prog 18 #[.agg #[.int .i64 a, .int .i64 b, .int .i64 m, .int .i64 n], .agg #[.int .i64 a', .int .i64 b', .int .i64 m', .int .i64 n']] w fun e w' => e = .returned (.bool (meetB a b m n a' b' m' n')) ∧ Below w.heap.size w w' := by
  have e : (pointsB m n && pointsB m' n' && mB a m a' m' && mB b n b' n') = meetB a b m n a' b' m' n' := by
    rw [Bool.eq_iff_iff, meetB_iff]; unfold pointsB mB; simp only [Bool.and_eq_true, decide_eq_true_eq]; omega
  rw [← e]
  exact rMeet_h a b m n a' b' m' n' w _ _ _ _ (Lib.hid h) (Lib.hid h') (Lib.hid rfl) (Lib.hid rfl) (Lib.hid rfl) (Lib.hid rfl)
theorem rInside_any (a b m n a' b' m' n' : Int) (w : World) (h : RectOk a b m n) (h' : RectOk a' b' m' n') :
    Calls Try.prog 20 #[.agg #[.int .i64 a, .int .i64 b, .int .i64 m, .int .i64 n], .agg #[.int .i64 a', .int .i64 b', .int .i64 m', .int .i64 n']] w fun e w' => e = .returned (.bool (insideB a b m n a' b' m' n')) ∧ Below w.heap.size w w' := by
  have e : (!pointsB m n || pointsB m' n' && iB a m a' m' && iB b n b' n') = insideB a b m n a' b' m' n' := by
    rw [Bool.eq_iff_iff, insideB_iff]; unfold pointsB iB; simp only [Bool.or_eq_true, Bool.not_eq_true', Bool.and_eq_true, Bool.and_eq_false_iff, decide_eq_true_eq, decide_eq_false_iff_not]; omega
  rw [← e]
  exact rInside_h a b m n a' b' m' n' w _ _ _ _ (Lib.hid h) (Lib.hid h') (Lib.hid rfl) (Lib.hid rfl) (Lib.hid rfl) (Lib.hid rfl)
end Go.Proofs.Ytflehhepnmcdeaa
