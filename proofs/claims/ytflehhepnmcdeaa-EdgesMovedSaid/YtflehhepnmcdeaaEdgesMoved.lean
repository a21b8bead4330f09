/-
  Moved by the same, two rectangles meet and lie in each other as they did, and what covers them is moved with them: for every input, no conditions.
-/
import Derived.Test.YtflehhepnmcdeaaWorks2
import Derived.Test.YtflehhepnmcdeaaView4
import Derived.Test.YtflehhepnmcdeaaLaw
import Derived.Test.YtflehhepnmcdeaaJoin
import Derived.Test.YtflehhepnmcdeaaLater
import Derived.Deep.DeepCutAuto
import Derived.Deep.RegionHeld3
import Derived.ProofKit
import Derived.OpenShut
import Derived.BigGuard
namespace Go.Proofs.Ytflehhepnmcdeaa.lawEdgesMoved
open Go.ChangeShapes Go.WideShapes Go.ChangeAt Go.RowKit Go.Proofs.Ytflehhepnmcdeaa
set_option linter.unusedVariables false

theorem own : ownKnob Try.prog.godebug = none := by kernel_rfl

def mv (r : Four) (dx dy : Int) : Four := ⟨r.a + dx, r.b + dy, r.c, r.d⟩
theorem some_mv (r : Four) (dx dy : Int) : somePts (mv r dx dy) = somePts r := rfl
theorem join_mv (a b : Four) (dx dy : Int) (h : somePts (join a b) = true) : join (mv a dx dy) (mv b dx dy) = mv (join a b) dx dy := by
  rw [some_join] at h
  unfold join
  rw [some_mv, some_mv]
  rcases ha : somePts a with _ | _ <;> rcases hb : somePts b with _ | _
  · rw [ha, hb] at h; cases h
  · simp
  · simp
  · simp only [if_true, mv]
    apply Four.ext_ <;> simp <;> omega
theorem join_none (a b : Four) (dx dy : Int) (h : somePts (join a b) = false) : join a b = ⟨0, 0, 0, 0⟩ ∧ join (mv a dx dy) (mv b dx dy) = ⟨0, 0, 0, 0⟩ := by
  rw [some_join, Bool.or_eq_false_iff] at h
  unfold join
  rw [some_mv, some_mv, h.1, h.2]
  exact ⟨rfl, rfl⟩
theorem meet_mv (a b : Four) (dx dy : Int) : meetB (mv a dx dy).a (mv a dx dy).b (mv a dx dy).c (mv a dx dy).d (mv b dx dy).a (mv b dx dy).b (mv b dx dy).c (mv b dx dy).d = meetB a.a a.b a.c a.d b.a b.b b.c b.d := by
  rw [Bool.eq_iff_iff, meetB_iff, meetB_iff]; simp only [mv]; omega
theorem inside_mv (a b : Four) (dx dy : Int) : insideB (mv a dx dy).a (mv a dx dy).b (mv a dx dy).c (mv a dx dy).d (mv b dx dy).a (mv b dx dy).b (mv b dx dy).c (mv b dx dy).d = insideB a.a a.b a.c a.d b.a b.b b.c b.d := by
  rw [Bool.eq_iff_iff, insideB_iff, insideB_iff]; simp only [mv]; omega

theorem two_boxes (w : World) (x1 x2 : List Value) (t1 t2 : TypeId) (W : World) (h : (w.alloc (.cells x1.toArray t1)).alloc (.cells x2.toArray t2) = W) : Box W w.heap.size x1 ∧ Box W (w.heap.size + 1) x2 ∧ Below w.heap.size w W := by
  subst h
  refine ⟨(Box.new w x1 _).alloc _, ?_, ((Below.refl _ _).alloc (Nat.le_refl _) _).alloc (by simp) _⟩
  simpa using Box.new (w.alloc (.cells x1.toArray t1)) x2 t2

/-- The two arguments lie in boxes of their own. -/
structure Two (W : World) (a b : Four) (w : World) : Prop where
  b1 : Box w W.heap.size (fourE a)
  b2 : Box w (W.heap.size + 1) (fourE b)
  hb : Below W.heap.size W w
theorem Two.below {W : World} {a b : Four} {w w' : World} (h : Two W a b w) (hb : Below w.heap.size w w') : Two W a b w' := ⟨h.b1.below hb, h.b2.below hb, h.hb.trans (hb.mono h.hb.size)⟩
theorem Two.cells {W : World} {a b : Four} {w : World} (h : Two W a b w) :
    ((w.cell? ⟨W.heap.size, 0, none⟩ = some (.int .i64 a.a) ∧ w.cell? ⟨W.heap.size, 1, none⟩ = some (.int .i64 a.b) ∧ w.cell? ⟨W.heap.size, 2, none⟩ = some (.int .i64 a.c) ∧ w.cell? ⟨W.heap.size, 3, none⟩ = some (.int .i64 a.d)) ∧
    (w.cell? ⟨W.heap.size + 1, 0, none⟩ = some (.int .i64 b.a) ∧ w.cell? ⟨W.heap.size + 1, 1, none⟩ = some (.int .i64 b.b) ∧ w.cell? ⟨W.heap.size + 1, 2, none⟩ = some (.int .i64 b.c) ∧ w.cell? ⟨W.heap.size + 1, 3, none⟩ = some (.int .i64 b.d))) ∧
    W.heap.size + 1 < w.heap.size ∧ W.heap.size < w.heap.size := ⟨⟨h.b1.four, h.b2.four⟩, h.b2.lt, h.b1.lt⟩

set_option maxRecDepth 200000 in
set_option maxHeartbeats 3200000 in
theorem walk_no (W : World) (a b : Four) (dx dy : Int) (h : ¬ (nearB a = true ∧ nearB b = true)) :
    Calls Try.prog 8 #[.agg #[.int .i64 a.a, .int .i64 a.b, .int .i64 a.c, .int .i64 a.d], .agg #[.int .i64 b.a, .int .i64 b.b, .int .i64 b.c, .int .i64 b.d], .int .i32 dx, .int .i32 dy] W fun e w' => e = .returned (.bool true) ∧ Below W.heap.size W w' := by
  have n1 := fun w => Lib.hid (near_any a w)
  have n2 := fun w => Lib.hid (near_any b w)
  rcases hA : nearB a with _ | _ <;> rcases hB : nearB b with _ | _
  all_goals first | (exfalso; apply h; refine And.intro ?_ ?_ <;> assumption) | skip
  all_goals
    rw [hA] at n1
    rw [hB] at n2
    clear hA hB h
    go_enter Try.func8, Try.ntmps8
    go_wp2_with fail
    generalize hW : World.alloc (World.alloc W _) _ = V
    obtain ⟨b1, b2, hbV⟩ := two_boxes W [_, _, _, _] [_, _, _, _] _ _ V hW
    clear hW
    have bx : Two W a b V := ⟨b1, b2, hbV⟩
    clear b1 b2 hbV
    have p := bx.cells
    refine (n1 _).out.mono ?_; rintro e w1 ⟨rfl, hq⟩
    have bx := bx.below hq
    clear p hq
    have p := bx.cells
    go_wp2_with (first | (go_at_call 25; (with_reducible refine (n2 _).out.mono ?_); rintro e w1 ⟨rfl, hq⟩; have bx := bx.below hq; clear p hq; have p := bx.cells) | (go_at_call 10; (with_reducible refine (works2_any _).mono ?_); rintro e w1 ⟨rfl, hq⟩; have bx := bx.below hq; clear p hq))
    go_ret
    exact ⟨rfl, bx.hb⟩

set_option maxRecDepth 200000 in
set_option maxHeartbeats 3200000 in
theorem walk_yes (W : World) (a b : Four) (dx dy : Int) (M J K : Bool) (h1 : Hid (nearB a = true)) (h2 : Hid (nearB b = true)) (hx : -2147483648 ≤ dx ∧ dx ≤ 2147483647) (hy : -2147483648 ≤ dy ∧ dy ≤ 2147483647)
    (hM : Hid (meetB a.a a.b a.c a.d b.a b.b b.c b.d = M)) (hJ : Hid (insideB a.a a.b a.c a.d b.a b.b b.c b.d = J)) (hK : Hid (insideB b.a b.b b.c b.d a.a a.b a.c a.d = K)) :
    Calls Try.prog 8 #[.agg #[.int .i64 a.a, .int .i64 a.b, .int .i64 a.c, .int .i64 a.d], .agg #[.int .i64 b.a, .int .i64 b.b, .int .i64 b.c, .int .i64 b.d], .int .i32 dx, .int .i32 dy] W fun e w' => e = .returned (.bool true) ∧ Below W.heap.size W w' := by
  have n1 := fun w => Lib.hid (near_any a w)
  have n2 := fun w => Lib.hid (near_any b w)
  rw [h1.out] at n1
  rw [h2.out] at n2
  have fa := far_near h1.out
  have fb := far_near h2.out
  have k1 : Mid a := mid_of h1.out
  have k2 : Mid b := mid_of h2.out
  have k3 : Mid (mv a dx dy) := by unfold Far at fa; unfold Mid; simp only [mv]; omega
  have k4 : Mid (mv b dx dy) := by unfold Far at fb; unfold Mid; simp only [mv]; omega
  have kx : Mid (cov [a, b]) := mid_cov [a, b] (by intro r hr; simp at hr; rcases hr with rfl | rfl; exact h1.out; exact h2.out)
  have l1 : ∀ r ∈ [a, b], Mid r := by intro r hr; simp at hr; rcases hr with rfl | rfl; exact k1; exact k2
  have l2 : ∀ r ∈ [mv a dx dy, mv b dx dy], Mid r := by intro r hr; simp at hr; rcases hr with rfl | rfl; exact k3; exact k4
  have v1 : ∀ w, Hid (Calls Try.prog 26 #[.agg #[.int .i64 (a).a, .int .i64 (a).b, .int .i64 (a).c, .int .i64 (a).d], .int .i32 dx, .int .i32 dy] w fun e w' => e = .returned (.agg #[.int .i64 (mv a dx dy).a, .int .i64 (mv a dx dy).b, .int .i64 (mv a dx dy).c, .int .i64 (mv a dx dy).d]) ∧ Below w.heap.size w w') := fun w => Lib.hid (moved_any a dx dy w (by unfold Mid at k1; omega) (by unfold Mid at k1; omega) (by unfold Mid at k1; omega) (by unfold Mid at k1; omega) hx.1 hx.2 hy.1 hy.2)
  have v2 : ∀ w, Hid (Calls Try.prog 26 #[.agg #[.int .i64 (b).a, .int .i64 (b).b, .int .i64 (b).c, .int .i64 (b).d], .int .i32 dx, .int .i32 dy] w fun e w' => e = .returned (.agg #[.int .i64 (mv b dx dy).a, .int .i64 (mv b dx dy).b, .int .i64 (mv b dx dy).c, .int .i64 (mv b dx dy).d]) ∧ Below w.heap.size w w') := fun w => Lib.hid (moved_any b dx dy w (by unfold Mid at k2; omega) (by unfold Mid at k2; omega) (by unfold Mid at k2; omega) (by unfold Mid at k2; omega) hx.1 hx.2 hy.1 hy.2)
  have v3 : ∀ w, Hid (Calls Try.prog 26 #[.agg #[.int .i64 ((cov [a, b])).a, .int .i64 ((cov [a, b])).b, .int .i64 ((cov [a, b])).c, .int .i64 ((cov [a, b])).d], .int .i32 dx, .int .i32 dy] w fun e w' => e = .returned (.agg #[.int .i64 (mv (cov [a, b]) dx dy).a, .int .i64 (mv (cov [a, b]) dx dy).b, .int .i64 (mv (cov [a, b]) dx dy).c, .int .i64 (mv (cov [a, b]) dx dy).d]) ∧ Below w.heap.size w w') := fun w => Lib.hid (moved_any (cov [a, b]) dx dy w (by unfold Mid at kx; omega) (by unfold Mid at kx; omega) (by unfold Mid at kx; omega) (by unfold Mid at kx; omega) hx.1 hx.2 hy.1 hy.2)
  have m1 := fun w => Lib.hid (meet_any a.a a.b a.c a.d b.a b.b b.c b.d w (mid_ok k1) (mid_ok k2))
  have i1 := fun w => Lib.hid (inside_any a.a a.b a.c a.d b.a b.b b.c b.d w (mid_ok k1) (mid_ok k2))
  have j1 := fun w => Lib.hid (inside_any b.a b.b b.c b.d a.a a.b a.c a.d w (mid_ok k2) (mid_ok k1))
  have m2 := fun w => Lib.hid (meet_any _ _ _ _ _ _ _ _ w (mid_ok k3) (mid_ok k4))
  have i2 := fun w => Lib.hid (inside_any _ _ _ _ _ _ _ _ w (mid_ok k3) (mid_ok k4))
  have j2 := fun w => Lib.hid (inside_any _ _ _ _ _ _ _ _ w (mid_ok k4) (mid_ok k3))
  rw [hM.out] at m1
  rw [hJ.out] at i1
  rw [hK.out] at j1
  rw [meet_mv, hM.out] at m2
  rw [inside_mv, hJ.out] at i2
  rw [inside_mv, hK.out] at j2
  have g1 := fun (A : Option Addr) (w : World) (h : Sl fourE w A 2 2 [a, b]) => Lib.hid (cover_mid A 2 2 [a, b] w h l1 (by omega))
  have g2 := fun (A : Option Addr) (w : World) (h : Sl fourE w A 2 2 [mv a dx dy, mv b dx dy]) => Lib.hid (cover_mid A 2 2 [mv a dx dy, mv b dx dy] w h l2 (by omega))
  have hres : Hid ((somePts (cov [a, b]) = true → cov [mv a dx dy, mv b dx dy] = mv (cov [a, b]) dx dy) ∧ (somePts (cov [a, b]) = false → cov [a, b] = ⟨0, 0, 0, 0⟩ ∧ cov [mv a dx dy, mv b dx dy] = ⟨0, 0, 0, 0⟩)) := Lib.hid (by
    rw [cov_two, cov_two]; exact ⟨join_mv a b dx dy, join_none a b dx dy⟩)
  clear fa fb k1 k2 k3 k4 kx l1 l2 h1 h2 hM hJ hK
  generalize mv a dx dy = c at *
  generalize mv b dx dy = d at *
  generalize cov [a, b] = x at *
  generalize cov [c, d] = y at *
  generalize mv x dx dy = z at *
  go_enter Try.func8, Try.ntmps8
  go_wp2_with fail
  generalize hW : World.alloc (World.alloc W _) _ = V
  obtain ⟨b1, b2, hbV⟩ := two_boxes W [_, _, _, _] [_, _, _, _] _ _ V hW
  clear hW
  have bx : Two W a b V := ⟨b1, b2, hbV⟩
  clear b1 b2 hbV
  refine (n1 _).out.mono ?_; rintro e w1 ⟨rfl, hq⟩
  have bx := bx.below hq
  clear hq
  have p := bx.cells
  go_wp2_with fail
  refine (n2 _).out.mono ?_; rintro e w2 ⟨rfl, hq⟩
  have bx := bx.below hq
  clear hq p n1 n2
  have p := bx.cells
  go_wp2_with fail
  refine (v1 _).out.mono ?_; rintro e w3 ⟨rfl, hq⟩
  have bx := bx.below hq
  have lt3 : W.heap.size + 1 < w3.heap.size := bx.b2.lt
  clear hq p v1
  have p := bx.cells
  go_wp2_with fail
  generalize hW : World.alloc w3 _ = V3
  obtain ⟨hb1, b9⟩ : Below w3.heap.size w3 V3 ∧ Box V3 w3.heap.size (fourE c) := by
    subst hW
    exact ⟨(Below.refl _ _).alloc (Nat.le_refl _) _, Box.new w3 (fourE c) _⟩
  clear hW
  have bx := bx.below hb1
  refine (v2 _).out.mono ?_; rintro e w4 ⟨rfl, hq⟩
  have bx := bx.below hq
  have b9 := b9.below hq
  clear hq p v2 hb1
  have lt9 : W.heap.size + 1 < w3.heap.size ∧ w3.heap.size < w4.heap.size := by
    exact ⟨lt3, b9.lt⟩
  generalize w3.heap.size = g9 at *
  have p := bx.cells
  have p9 := b9.four
  go_upto_region 5 with fail
  generalize hW : World.alloc w4 _ = V4
  obtain ⟨hb1, b10⟩ : Below w4.heap.size w4 V4 ∧ Box V4 w4.heap.size (fourE d) := by
    subst hW
    exact ⟨(Below.refl _ _).alloc (Nat.le_refl _) _, Box.new w4 (fourE d) _⟩
  clear hW p p9
  have bx := bx.below hb1
  have b9 := b9.below hb1
  clear hb1
  generalize w4.heap.size = g10 at *
  obtain ⟨x0, x1, x2, x3⟩ := Later.four bx.b1
  obtain ⟨y0, y1, y2, y3⟩ := Later.four bx.b2
  obtain ⟨z0, z1, z2, z3⟩ := Later.four b9
  obtain ⟨t0, t1, t2, t3⟩ := Later.four b10
  refine wp_region_later V4 (by kernel_rfl) (by kernel_rfl) (Below.refl _ _) ?_
  repeat (quiet_step ((first | (go_at_call 17; (with_reducible exact Later.callQt _ (m1 _).out)) | (go_at_call 17; (with_reducible exact Later.callQt _ (m2 _).out)) | (go_at_call 19; (with_reducible exact Later.callQt _ (i1 _).out)) | (go_at_call 19; (with_reducible exact Later.callQt _ (i2 _).out)) | (go_at_call 19; (with_reducible exact Later.callQt _ (j1 _).out)) | (go_at_call 19; (with_reducible exact Later.callQt _ (j2 _).out)))))
  refine wpQuiet_nil ?_
  rintro w5 ⟨⟨wq, hbq⟩, h9⟩
  obtain rfl : w5 = wq := h9
  have bx := bx.below hbq
  have b9 := b9.below hbq
  have b10 := b10.below hbq
  clear x0 x1 x2 x3 y0 y1 y2 y3 z0 z1 z2 z3 t0 t1 t2 t3 m1 m2 i1 i2 j1 j2
  have p := bx.cells
  have p9 := b9.four
  have p10 := b10.four
  go_wp2_with fail
  generalize hW : World.alloc w5 _ = V5
  obtain ⟨hL, hb1⟩ : Sl fourE V5 (some ⟨w5.heap.size, 0, none⟩) 2 2 [a, b] ∧ Below w5.heap.size w5 V5 := by
    subst hW
    exact ⟨Sl.lit w5 [a, b] _, (Below.refl _ _).alloc (Nat.le_refl _) _⟩
  clear hW
  have bx := bx.below hb1
  have b9 := b9.below hb1
  have b10 := b10.below hb1
  refine (g1 _ _ hL).out.mono ?_; rintro e w6 ⟨rfl, hq⟩
  have bx := bx.below hq
  have b9 := b9.below hq
  have b10 := b10.below hq
  clear hq hL hb1 p p9 p10 g1
  have p := bx.cells
  have p9 := b9.four
  have p10 := b10.four
  have lt := b9.lt
  have lt' := b10.lt
  go_wp2_with fail
  generalize hW : World.alloc (World.alloc w6 _) _ = V6
  obtain ⟨hL, hb1, b11⟩ : Sl fourE V6 (some ⟨w6.heap.size + 1, 0, none⟩) 2 2 [c, d] ∧ Below w6.heap.size w6 V6 ∧ Box V6 w6.heap.size (fourE x) := by
    subst hW
    exact ⟨by simpa [fourE] using Sl.lit (f := fourE) (w6.alloc (.cells (fourE x).toArray 33)) [c, d] 33, ((Below.refl _ _).alloc (Nat.le_refl _) _).alloc (by simp) _, (Box.new w6 (fourE x) _).alloc _⟩
  clear hW
  have bx := bx.below hb1
  refine (g2 _ _ hL).out.mono ?_; rintro e w7 ⟨rfl, hq⟩
  have bx := bx.below hq
  have b11 := b11.below hq
  clear hq hL hb1 p p9 p10 g2 b9 b10 lt lt'
  generalize w6.heap.size = g11 at *
  have p := bx.cells
  have p11 := b11.four
  have lt11 := b11.lt
  have q0 := rect_eq
  have qz := rect_zero
  rcases hs : somePts x with _ | _
  · obtain ⟨e1, e2⟩ := hres.out.2 hs
    subst e1
    subst e2
    clear hres hs v3
    go_wp2_with fail
    generalize hW : World.alloc w7 _ = V7
    have hb1 : Below w7.heap.size w7 V7 := by
      subst hW
      exact (Below.refl _ _).alloc (Nat.le_refl _) _
    clear hW
    have bx := bx.below hb1
    refine (works2_any _).mono ?_; rintro e w8 ⟨rfl, hq⟩
    have bx := bx.below hq
    clear p p11 hq hb1
    go_wp2_with fail
    go_ret
    exact ⟨rfl, bx.hb⟩
  · obtain ⟨h3, h4⟩ := some_iff.1 hs
    have e1 := hres.out.1 hs
    clear hres hs
    have d0 : decide (x.c ≤ 0) = false := by simpa using h3
    have d1 : decide (x.d ≤ 0) = false := by simpa using h4
    subst e1
    go_wp2_with fail
    generalize hW : World.alloc w7 _ = V7
    obtain ⟨hb1, b13⟩ : Below w7.heap.size w7 V7 ∧ Box V7 w7.heap.size (fourE y) := by
      subst hW
      exact ⟨(Below.refl _ _).alloc (Nat.le_refl _) _, Box.new w7 (fourE y) _⟩
    clear hW p p11
    have bx := bx.below hb1
    have b11 := b11.below hb1
    generalize w7.heap.size = g13 at *
    obtain ⟨z0, z1, z2, z3⟩ := Later.four b11
    obtain ⟨t0, t1, t2, t3⟩ := Later.four b13
    refine wp_region_later V7 (by kernel_rfl) (by kernel_rfl) (Below.refl _ _) ?_
    repeat (quiet_step ((first | (go_at_call 26; (with_reducible exact Later.call _ (v3 _).out)) | (go_at_call 10; (with_reducible exact Later.call _ (works2_any _))))))
    refine wpQuiet_nil ?_
    rintro w8 ⟨⟨wq, hbq⟩, h9⟩
    obtain rfl : w8 = wq := h9
    have bx := bx.below hbq
    clear z0 z1 z2 z3 t0 t1 t2 t3
    go_wp2_with fail
    go_ret
    exact ⟨rfl, bx.hb⟩

theorem walk (W : World) (x0 : Four) (o0 : FourOk x0) (x1 : Four) (o1 : FourOk x1) (a2 : Int) (w2 : (Lit.int .i32 a2).wf = true) (a3 : Int) (w3 : (Lit.int .i32 a3).wf = true) :
    Calls Try.prog 8 #[.agg #[.int .i64 x0.a, .int .i64 x0.b, .int .i64 x0.c, .int .i64 x0.d], .agg #[.int .i64 x1.a, .int .i64 x1.b, .int .i64 x1.c, .int .i64 x1.d], .int .i32 a2, .int .i32 a3] W fun e w' => e = .returned (.bool true) ∧ Below W.heap.size W w' := by
  by_cases h : nearB x0 = true ∧ nearB x1 = true
  · exact walk_yes W x0 x1 a2 a3 _ _ _ (Lib.hid h.1) (Lib.hid h.2) (bounds_i32 w2) (bounds_i32 w3) (Lib.hid rfl) (Lib.hid rfl) (Lib.hid rfl)
  · exact walk_no W x0 x1 a2 a3 h

set_option maxRecDepth 100000 in
theorem lifted (os : Os) (started : os.Started) (H : Type) (enc : TypeId × Value → H) :
    ReturnsInHanded {} Try.checked os 8 .any (Rows.edgesMovedSpec.pre6 enc Try.prog Try.f8 Rows.edgesMovedRow.domain false) (Rows.edgesMovedSpec.post enc Try.prog Try.f8 false true false false) := by
  refine returnsInHanded_of_change (C := Try.checked) own started (by kernel_rfl) Try.func8
    (ChangeSpec.witness6 (enc := enc) (C := Try.checked) false ⟨#[], #[.agg #[.int .i64 0, .int .i64 0, .int .i64 0, .int .i64 0], .agg #[.int .i64 0, .int .i64 0, .int .i64 0, .int .i64 0], .int .i32 0, .int .i32 0], []⟩ 8 (by kernel_rfl) (by kernel_rfl) (by kernel_rfl) (by kernel_rfl)) ?_
  intro W base args ds gs before hval0 hW hcnd _
  have hval : ∀ (j : Nat) t v, Try.f8.params[j]? = some t → args[j]? = some v → Value.okWide Try.prog W .any base t v := hval0
  have hW' := hW
  obtain ⟨p, q, hA0, hV, rfl, hfz, hnd⟩ := hW
  have hA : DataW.TrodAll enc Try.prog W 0 (fun _ => true) true Try.f8.params.toList args.toList ds p := hA0
  rw [Try.params8] at hA hval
  obtain ⟨v0, vs0, d0, ds0, p0, q0, hargs, rfl, rfl, h0, r0⟩ := trodAll_cons hA
  obtain ⟨v1, vs1, d1, ds1, p1, q1, rfl, rfl, rfl, h1, r1⟩ := trodAll_cons r0
  obtain ⟨v2, vs2, d2, ds2, p2, q2, rfl, rfl, rfl, h2, r2⟩ := trodAll_cons r1
  obtain ⟨v3, vs3, d3, ds3, p3, q3, rfl, rfl, rfl, h3, r3⟩ := trodAll_cons r2
  obtain ⟨rfl, rfl, rfl⟩ := trodAll_nil r3
  obtain rfl : args = #[v0, v1, v2, v3] := by cases args; simp_all
  obtain ⟨rfl, rfl⟩ := trodVars_none hV
  obtain ⟨x0, rfl, o0⟩ := view_rect (hval 0 33 v0 rfl rfl) h0
  obtain ⟨x1, rfl, o1⟩ := view_rect (hval 1 33 v1 rfl rfl) h1
  obtain ⟨a2, rfl, -, -, w2⟩ := open_int Try.underlying21 (hval 2 21 v2 rfl rfl) h2
  obtain ⟨a3, rfl, -, -, w3⟩ := open_int Try.underlying21 (hval 3 21 v3 rfl rfl) h3
  refine (walk W x0 o0 x1 o1 a2 w2 a3 w3).mono fun e W' ⟨he, hg⟩ => ?_
  subst he
  exact ⟨_, rfl, law_post laidOut (by kernel_rfl) rfl Try.underlying4 rfl hW' rfl rfl rfl hg⟩

theorem over : Rows.edgesMovedRow.holds Try.pinned (OpenSpec.ofChange Rows.edgesMovedSpec) :=
  OpenClaim.holds_of_wide 8 Try.f8 rfl rfl rfl rfl rfl rfl rfl ⟨rfl, rfl, rfl, rfl, rfl⟩ rfl rfl rfl rfl rfl (by kernel_rfl) Try.func8 (by kernel_rfl)
    (of_decide_eq_true (by kernel_rfl)) (by unfold Func.isWrapper; first | (rw [if_pos (by decide +kernel)]; kernel_rfl) | (rw [if_neg (by decide +kernel)]; exact ⟨rfl, rfl⟩))
    (fun os started H enc _ => lifted os started H enc)

/-- The statement. -/
theorem proved : Rows.EdgesMovedSaid := over
#print axioms proved
end Go.Proofs.Ytflehhepnmcdeaa.lawEdgesMoved
