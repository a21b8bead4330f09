/-
  What lies in what lies in a third lies in that; what covers some, and others beside, covers all: for every input, no conditions.
-/
import Derived.Test.YtflehhepnmcdeaaWorks2
import Derived.Test.YtflehhepnmcdeaaView4
import Derived.Test.YtflehhepnmcdeaaLaw
import Derived.Test.YtflehhepnmcdeaaJoin
import Derived.Deep.DeepCutAuto
import Derived.Deep.RegionHeld3
import Derived.ProofKit
import Derived.OpenShut
import Derived.BigGuard
namespace Go.Proofs.Ytflehhepnmcdeaa.lawEdgesChain
open Go.ChangeShapes Go.WideShapes Go.ChangeAt Go.RowKit Go.Proofs.Ytflehhepnmcdeaa
set_option linter.unusedVariables false

theorem own : ownKnob Try.prog.godebug = none := by kernel_rfl

theorem three_boxes (w : World) (x1 x2 x3 : List Value) (t1 t2 t3 : TypeId) (W : World)
    (h : ((w.alloc (.cells x1.toArray t1)).alloc (.cells x2.toArray t2)).alloc (.cells x3.toArray t3) = W) :
    Box W w.heap.size x1 ∧ Box W (w.heap.size + 1) x2 ∧ Box W (w.heap.size + 1 + 1) x3 ∧ Below w.heap.size w W := by
  subst h
  refine ⟨((Box.new w x1 _).alloc _).alloc _, ?_, ?_, (((Below.refl _ _).alloc (Nat.le_refl _) _).alloc (by simp) _).alloc (by simp; omega) _⟩
  · simpa using (Box.new (w.alloc (.cells x1.toArray t1)) x2 t2).alloc _
  · simpa using Box.new ((w.alloc (.cells x1.toArray t1)).alloc (.cells x2.toArray t2)) x3 t3

/-- The three arguments lie in boxes of their own. -/
structure Boxes (W : World) (a b t : Four) (w : World) : Prop where
  b1 : Box w W.heap.size (fourE a)
  b2 : Box w (W.heap.size + 1) (fourE b)
  b3 : Box w (W.heap.size + 1 + 1) (fourE t)
  hb : Below W.heap.size W w
theorem Boxes.below {W : World} {a b t : Four} {w w' : World} (h : Boxes W a b t w) (hb : Below w.heap.size w w') : Boxes W a b t w' :=
  ⟨h.b1.below hb, h.b2.below hb, h.b3.below hb, h.hb.trans (hb.mono h.hb.size)⟩
theorem Boxes.cells {W : World} {a b t : Four} {w : World} (h : Boxes W a b t w) :
    ((w.cell? ⟨W.heap.size, 0, none⟩ = some (.int .i64 a.a) ∧ w.cell? ⟨W.heap.size, 1, none⟩ = some (.int .i64 a.b) ∧ w.cell? ⟨W.heap.size, 2, none⟩ = some (.int .i64 a.c) ∧ w.cell? ⟨W.heap.size, 3, none⟩ = some (.int .i64 a.d)) ∧
    (w.cell? ⟨W.heap.size + 1, 0, none⟩ = some (.int .i64 b.a) ∧ w.cell? ⟨W.heap.size + 1, 1, none⟩ = some (.int .i64 b.b) ∧ w.cell? ⟨W.heap.size + 1, 2, none⟩ = some (.int .i64 b.c) ∧ w.cell? ⟨W.heap.size + 1, 3, none⟩ = some (.int .i64 b.d)) ∧
    (w.cell? ⟨W.heap.size + 1 + 1, 0, none⟩ = some (.int .i64 t.a) ∧ w.cell? ⟨W.heap.size + 1 + 1, 1, none⟩ = some (.int .i64 t.b) ∧ w.cell? ⟨W.heap.size + 1 + 1, 2, none⟩ = some (.int .i64 t.c) ∧ w.cell? ⟨W.heap.size + 1 + 1, 3, none⟩ = some (.int .i64 t.d))) ∧ W.heap.size + 1 + 1 < w.heap.size ∧ W.heap.size + 1 < w.heap.size ∧ W.heap.size < w.heap.size := ⟨⟨h.b1.four, h.b2.four, h.b3.four⟩, h.b3.lt, h.b2.lt, h.b1.lt⟩

set_option maxRecDepth 200000 in
set_option maxHeartbeats 3200000 in
theorem walk_no (W : World) (a b c : Four) (h : ¬ (nearB a = true ∧ nearB b = true ∧ nearB c = true)) :
    Calls Try.prog 9 #[.agg #[.int .i64 a.a, .int .i64 a.b, .int .i64 a.c, .int .i64 a.d], .agg #[.int .i64 b.a, .int .i64 b.b, .int .i64 b.c, .int .i64 b.d], .agg #[.int .i64 c.a, .int .i64 c.b, .int .i64 c.c, .int .i64 c.d]] W fun e w' => e = .returned (.bool true) ∧ Below W.heap.size W w' := by
  have n1 := fun w => Lib.hid (near_any a w)
  have n2 := fun w => Lib.hid (near_any b w)
  have n3 := fun w => Lib.hid (near_any c w)
  rcases hA : nearB a with _ | _ <;> rcases hB : nearB b with _ | _ <;> rcases hC : nearB c with _ | _
  all_goals first | (exfalso; apply h; refine And.intro ?_ (And.intro ?_ ?_) <;> assumption) | skip
  all_goals
    rw [hA] at n1
    rw [hB] at n2
    rw [hC] at n3
    clear hA hB hC h
    go_enter Try.func9, Try.ntmps9
    go_wp2_with fail
    generalize hW : World.alloc (World.alloc (World.alloc W _) _) _ = V
    obtain ⟨b1, b2, b3, hbV⟩ := three_boxes W [_, _, _, _] [_, _, _, _] [_, _, _, _] _ _ _ V hW
    clear hW
    have bx : Boxes W a b c V := ⟨b1, b2, b3, hbV⟩
    clear b1 b2 b3 hbV
    have p := bx.cells
    refine (n1 _).out.mono ?_; rintro e w1 ⟨rfl, hq⟩
    have bx := bx.below hq
    clear p hq
    have p := bx.cells
    go_wp2_with (first | (go_at_call 25; (with_reducible refine (n2 _).out.mono ?_); rintro e w1 ⟨rfl, hq⟩; have bx := bx.below hq; clear p hq; have p := bx.cells) | (go_at_call 25; (with_reducible refine (n3 _).out.mono ?_); rintro e w1 ⟨rfl, hq⟩; have bx := bx.below hq; clear p hq; have p := bx.cells) | (go_at_call 10; (with_reducible refine (works2_any _).mono ?_); rintro e w1 ⟨rfl, hq⟩; have bx := bx.below hq; clear p hq))
    go_ret
    exact ⟨rfl, bx.hb⟩

set_option maxRecDepth 200000 in
set_option maxHeartbeats 3200000 in
theorem walk_yes (W : World) (a b c : Four) (h1 : Hid (nearB a = true)) (h2 : Hid (nearB b = true)) (h3 : Hid (nearB c = true)) :
    Calls Try.prog 9 #[.agg #[.int .i64 a.a, .int .i64 a.b, .int .i64 a.c, .int .i64 a.d], .agg #[.int .i64 b.a, .int .i64 b.b, .int .i64 b.c, .int .i64 b.d], .agg #[.int .i64 c.a, .int .i64 c.b, .int .i64 c.c, .int .i64 c.d]] W fun e w' => e = .returned (.bool true) ∧ Below W.heap.size W w' := by
  have n1 := fun w => Lib.hid (near_any a w)
  have n2 := fun w => Lib.hid (near_any b w)
  have n3 := fun w => Lib.hid (near_any c w)
  rw [h1.out] at n1
  rw [h2.out] at n2
  rw [h3.out] at n3
  have o1 := Lib.hid (mid_ok (mid_of h1.out))
  have o2 := Lib.hid (mid_ok (mid_of h2.out))
  have o3 := Lib.hid (mid_ok (mid_of h3.out))
  go_enter Try.func9, Try.ntmps9
  go_wp2_with fail
  generalize hW : World.alloc (World.alloc (World.alloc W _) _) _ = V
  obtain ⟨b1, b2, b3, hbV⟩ := three_boxes W [_, _, _, _] [_, _, _, _] [_, _, _, _] _ _ _ V hW
  clear hW
  have bx : Boxes W a b c V := ⟨b1, b2, b3, hbV⟩
  clear b1 b2 b3 hbV
  refine (n1 _).out.mono ?_; rintro e w1 ⟨rfl, hq⟩
  have bx := bx.below hq
  clear hq
  have p := bx.cells
  go_wp2_with fail
  refine (n2 _).out.mono ?_; rintro e w2 ⟨rfl, hq⟩
  have bx := bx.below hq
  clear hq p
  have p := bx.cells
  go_wp2_with fail
  refine (n3 _).out.mono ?_; rintro e w3 ⟨rfl, hq⟩
  have bx := bx.below hq
  clear hq p
  have p := bx.cells
  go_upto_region 3 with fail
  go_cut [51] (fun s wx => s = .bool false ∧ Hid (Boxes W a b c wx))
  case first =>
    have i1 := fun w => Lib.hid (inside_any a.a a.b a.c a.d b.a b.b b.c b.d w o1.out o2.out)
    have i2 := fun w => Lib.hid (inside_any b.a b.b b.c b.d c.a c.b c.c c.d w o2.out o3.out)
    have i3 := fun w => Lib.hid (inside_any a.a a.b a.c a.d c.a c.b c.c c.d w o1.out o3.out)
    have m1 := fun w => Lib.hid (meet_any a.a a.b a.c a.d c.a c.b c.c c.d w o1.out o3.out)
    have m2 := fun w => Lib.hid (meet_any b.a b.b b.c b.d c.a c.b c.c c.d w o2.out o3.out)
    rcases t1 : insideB a.a a.b a.c a.d b.a b.b b.c b.d with _ | _
    · rw [t1] at i1
      clear t1 i2 i3 m1 m2
      go_wp2_with (first | (go_at_call 19; (with_reducible refine (i1 _).out.mono ?_); rintro e w1 ⟨rfl, hq⟩; have bx := bx.below hq.1; clear p hq; have p := bx.cells))
      go_meet
      exact ⟨rfl, Lib.hid bx⟩
    · rcases t4 : meetB a.a a.b a.c a.d c.a c.b c.c c.d with _ | _ <;> rcases t2 : insideB b.a b.b b.c b.d c.a c.b c.c c.d with _ | _
      all_goals
        rw [t1] at i1
        rw [t2] at i2
        rw [t4] at m1
        try rw [inside_trans t1 t2] at i3
        try rw [meet_more t1 t4] at m2
        clear t1 t2 t4
        go_wp2_with (first | (go_at_call 19; (with_reducible refine (i1 _).out.mono ?_); rintro e w1 ⟨rfl, hq⟩; have bx := bx.below hq.1; clear p hq; have p := bx.cells) | (go_at_call 19; (with_reducible refine (i2 _).out.mono ?_); rintro e w1 ⟨rfl, hq⟩; have bx := bx.below hq.1; clear p hq; have p := bx.cells) | (go_at_call 19; (with_reducible refine (i3 _).out.mono ?_); rintro e w1 ⟨rfl, hq⟩; have bx := bx.below hq.1; clear p hq; have p := bx.cells) | (go_at_call 17; (with_reducible refine (m1 _).out.mono ?_); rintro e w1 ⟨rfl, hq⟩; have bx := bx.below hq.1; clear p hq; have p := bx.cells) | (go_at_call 17; (with_reducible refine (m2 _).out.mono ?_); rintro e w1 ⟨rfl, hq⟩; have bx := bx.below hq.1; clear p hq; have p := bx.cells))
        go_meet
        exact ⟨rfl, Lib.hid bx⟩
  case rest =>
    obtain ⟨rfl, hB⟩ := hcut
    have bx := hB.out
    clear p n1 n2 n3 hB
    have p := bx.cells
    go_wp2_with fail
    have k1 : Mid a := mid_of h1.out
    have k2 : Mid b := mid_of h2.out
    have k3 : Mid c := mid_of h3.out
    have kx : Mid (cov [a, b]) := mid_cov [a, b] (by intro r hr; simp at hr; rcases hr with rfl | rfl; exact h1.out; exact h2.out)
    have kz : Mid (cov [c, a, b]) := mid_cov [c, a, b] (by intro r hr; simp at hr; rcases hr with rfl | rfl | rfl; exact h3.out; exact h1.out; exact h2.out)
    have l1 : ∀ r ∈ [a, b], Mid r := by intro r hr; simp at hr; rcases hr with rfl | rfl; exact k1; exact k2
    have l2 : ∀ r ∈ [cov [a, b], c], Mid r := by intro r hr; simp at hr; rcases hr with rfl | rfl; exact kx; exact k3
    have l3 : ∀ r ∈ [c, a, b], Mid r := by intro r hr; simp at hr; rcases hr with rfl | rfl | rfl; exact k3; exact k1; exact k2
    have z1 : insideB a.a a.b a.c a.d (cov [c, a, b]).a (cov [c, a, b]).b (cov [c, a, b]).c (cov [c, a, b]).d = true := by
      rw [cov_three, join_comm c a, join_assoc]; exact in_join _ _
    have z2 : insideB b.a b.b b.c b.d (cov [c, a, b]).a (cov [c, a, b]).b (cov [c, a, b]).c (cov [c, a, b]).d = true := by
      rw [cov_three, join_comm (join c a) b]; exact in_join _ _
    have z3 : insideB c.a c.b c.c c.d (cov [c, a, b]).a (cov [c, a, b]).b (cov [c, a, b]).c (cov [c, a, b]).d = true := by
      rw [cov_three, join_assoc]; exact in_join _ _
    have z4 : insideB (cov [a, b]).a (cov [a, b]).b (cov [a, b]).c (cov [a, b]).d (cov [c, a, b]).a (cov [c, a, b]).b (cov [c, a, b]).c (cov [c, a, b]).d = true := by
      rw [← chain_same, cov_two (cov [a, b]) c]; exact in_join _ _
    have hyz := Lib.hid (chain_same a b c)
    have g1 := fun (A : Option Addr) (w : World) (h : Sl fourE w A 2 2 [a, b]) => Lib.hid (cover_mid A 2 2 [a, b] w h l1 (by omega))
    have g2 := fun (A : Option Addr) (w : World) (h : Sl fourE w A 2 2 [cov [a, b], c]) => Lib.hid (cover_mid A 2 2 [cov [a, b], c] w h l2 (by omega))
    have g3 := fun (A : Option Addr) (w : World) (h : Sl fourE w A 3 3 [c, a, b]) => Lib.hid (cover_mid A 3 3 [c, a, b] w h l3 (by omega))
    simp only [hyz.out] at g2
    have zm : Hid ((0 < c.c ∧ 0 < c.d) → meetB (cov [c, a, b]).a (cov [c, a, b]).b (cov [c, a, b]).c (cov [c, a, b]).d c.a c.b c.c c.d = true) := Lib.hid (fun h => by
      rw [meetB_iff]; rw [insideB_iff] at z3; omega)
    clear hyz l1 l2 l3 k1 k2 h1 h2 h3
    generalize cov [a, b] = x at *
    generalize cov [c, a, b] = z at *
    have ox := Lib.hid (mid_ok kx)
    have oz := Lib.hid (mid_ok kz)
    have i1 := fun w => Lib.hid (inside_any a.a a.b a.c a.d z.a z.b z.c z.d w o1.out oz.out)
    have i2 := fun w => Lib.hid (inside_any b.a b.b b.c b.d z.a z.b z.c z.d w o2.out oz.out)
    have i3 := fun w => Lib.hid (inside_any c.a c.b c.c c.d z.a z.b z.c z.d w o3.out oz.out)
    have i4 := fun w => Lib.hid (inside_any x.a x.b x.c x.d z.a z.b z.c z.d w ox.out oz.out)
    have m1 := fun w => Lib.hid (meet_any z.a z.b z.c z.d c.a c.b c.c c.d w oz.out o3.out)
    rw [z1] at i1
    rw [z2] at i2
    rw [z3] at i3
    rw [z4] at i4
    clear z1 z2 z3 z4 kx kz k3
    generalize hW : World.alloc wc _ = V1
    obtain ⟨hL, hb1⟩ : Sl fourE V1 (some ⟨wc.heap.size, 0, none⟩) 2 2 [a, b] ∧ Below wc.heap.size wc V1 := by
      subst hW
      exact ⟨Sl.lit wc [a, b] _, (Below.refl _ _).alloc (Nat.le_refl _) _⟩
    clear hW
    have bx := bx.below hb1
    refine (g1 _ _ hL).out.mono ?_; rintro e w4 ⟨rfl, hq⟩
    have bx := bx.below hq
    clear hq hL hb1 p g1
    have p := bx.cells
    go_wp2_with fail
    generalize hW : World.alloc (World.alloc w4 _) _ = V2
    obtain ⟨hL, hb1, b7⟩ : Sl fourE V2 (some ⟨w4.heap.size + 1, 0, none⟩) 2 2 [x, c] ∧ Below w4.heap.size w4 V2 ∧ Box V2 w4.heap.size (fourE x) := by
      subst hW
      exact ⟨by simpa [fourE] using Sl.lit (f := fourE) (w4.alloc (.cells (fourE x).toArray 33)) [x, c] 33, ((Below.refl _ _).alloc (Nat.le_refl _) _).alloc (by simp) _, (Box.new w4 (fourE x) _).alloc _⟩
    clear hW
    have bx := bx.below hb1
    refine (g2 _ _ hL).out.mono ?_; rintro e w5 ⟨rfl, hq⟩
    have bx := bx.below hq
    have b7 := b7.below hq
    clear hq hL hb1 p g2
    generalize w4.heap.size = g7 at *
    have p := bx.cells
    have p7 := b7.four
    have lt7 := b7.lt
    go_wp2_with fail
    generalize hW : World.alloc (World.alloc w5 _) _ = V3
    obtain ⟨hL, hb1, b9⟩ : Sl fourE V3 (some ⟨w5.heap.size + 1, 0, none⟩) 3 3 [c, a, b] ∧ Below w5.heap.size w5 V3 ∧ Box V3 w5.heap.size (fourE z) := by
      subst hW
      exact ⟨by simpa [fourE] using Sl.lit (f := fourE) (w5.alloc (.cells (fourE z).toArray 33)) [c, a, b] 33, ((Below.refl _ _).alloc (Nat.le_refl _) _).alloc (by simp) _, (Box.new w5 (fourE z) _).alloc _⟩
    clear hW
    have bx := bx.below hb1
    have b7 := b7.below hb1
    refine (g3 _ _ hL).out.mono ?_; rintro e w6 ⟨rfl, hq⟩
    have bx := bx.below hq
    have b7 := b7.below hq
    have b9 := b9.below hq
    clear hq hL hb1 p g3 p7 lt7
    generalize w5.heap.size = g9 at *
    have p := bx.cells
    have p7 := b7.four
    have p9 := b9.four
    have lt7 := b7.lt
    have lt9 := b9.lt
    have q0 := rect_eq
    have hzz : (z.a == z.a && z.b == z.b && z.c == z.c && z.d == z.d) = true := by simp
    go_wp2_with fail
    generalize hW : World.alloc w6 _ = V4
    obtain ⟨hb1, b11⟩ : Below w6.heap.size w6 V4 ∧ Box V4 w6.heap.size (fourE z) := by
      subst hW
      exact ⟨(Below.refl _ _).alloc (Nat.le_refl _) _, Box.new w6 (fourE z) _⟩
    clear hW
    have bx := bx.below hb1
    have b7 := b7.below hb1
    clear hb1 p p7 p9 b9 lt7 lt9
    generalize w6.heap.size = g11 at *
    have p := bx.cells
    have p7 := b7.four
    have p11 := b11.four
    go_upto_region 10 with (first | (go_at_call 19; (with_reducible refine (i1 _).out.mono ?_); rintro e w1 ⟨rfl, hq⟩; have bx := bx.below hq.1; have b7 := b7.below hq.1; have b11 := b11.below hq.1; clear p p7 p11 hq; have p := bx.cells; have p7 := b7.four; have p11 := b11.four) | (go_at_call 19; (with_reducible refine (i2 _).out.mono ?_); rintro e w1 ⟨rfl, hq⟩; have bx := bx.below hq.1; have b7 := b7.below hq.1; have b11 := b11.below hq.1; clear p p7 p11 hq; have p := bx.cells; have p7 := b7.four; have p11 := b11.four) | (go_at_call 19; (with_reducible refine (i3 _).out.mono ?_); rintro e w1 ⟨rfl, hq⟩; have bx := bx.below hq.1; have b7 := b7.below hq.1; have b11 := b11.below hq.1; clear p p7 p11 hq; have p := bx.cells; have p7 := b7.four; have p11 := b11.four) | (go_at_call 19; (with_reducible refine (i4 _).out.mono ?_); rintro e w1 ⟨rfl, hq⟩; have bx := bx.below hq.1; have b7 := b7.below hq.1; have b11 := b11.below hq.1; clear p p7 p11 hq; have p := bx.cells; have p7 := b7.four; have p11 := b11.four))
    rcases hm : meetB z.a z.b z.c z.d c.a c.b c.c c.d with _ | _
    · have hc : ¬ (0 < c.c ∧ 0 < c.d) := fun h => by rw [zm.out h] at hm; cases hm
      rw [hm] at m1
      clear hm zm
      by_cases h0 : 0 < c.c
      · have h1 : ¬ 0 < c.d := fun h => hc ⟨h0, h⟩
        have d0 : decide (c.c ≤ 0) = false := by simpa using h0
        have d1 : decide (c.d ≤ 0) = true := by simpa using h1
        clear hc h0 h1
        go_wp2_with (first | (go_at_call 17; (with_reducible refine (m1 _).out.mono ?_); rintro e w1 ⟨rfl, hq⟩; have bx := bx.below hq.1; have b7 := b7.below hq.1; have b11 := b11.below hq.1; clear p p7 p11 hq; have p := bx.cells; have p7 := b7.four; have p11 := b11.four) | (go_at_call 10; (with_reducible refine (works2_any _).mono ?_); rintro e w1 ⟨rfl, hq⟩; have bx := bx.below hq; clear p p7 p11 hq))
        go_ret
        exact ⟨rfl, bx.hb⟩
      · have d0 : decide (c.c ≤ 0) = true := by simpa using h0
        clear hc h0
        go_wp2_with (first | (go_at_call 17; (with_reducible refine (m1 _).out.mono ?_); rintro e w1 ⟨rfl, hq⟩; have bx := bx.below hq.1; have b7 := b7.below hq.1; have b11 := b11.below hq.1; clear p p7 p11 hq; have p := bx.cells; have p7 := b7.four; have p11 := b11.four) | (go_at_call 10; (with_reducible refine (works2_any _).mono ?_); rintro e w1 ⟨rfl, hq⟩; have bx := bx.below hq; clear p p7 p11 hq))
        go_ret
        exact ⟨rfl, bx.hb⟩
    · rw [hm] at m1
      clear hm zm
      go_wp2_with (first | (go_at_call 17; (with_reducible refine (m1 _).out.mono ?_); rintro e w1 ⟨rfl, hq⟩; have bx := bx.below hq.1; have b7 := b7.below hq.1; have b11 := b11.below hq.1; clear p p7 p11 hq; have p := bx.cells; have p7 := b7.four; have p11 := b11.four) | (go_at_call 10; (with_reducible refine (works2_any _).mono ?_); rintro e w1 ⟨rfl, hq⟩; have bx := bx.below hq; clear p p7 p11 hq))
      go_ret
      exact ⟨rfl, bx.hb⟩

theorem walk (W : World) (x0 : Four) (o0 : FourOk x0) (x1 : Four) (o1 : FourOk x1) (x2 : Four) (o2 : FourOk x2) :
    Calls Try.prog 9 #[.agg #[.int .i64 x0.a, .int .i64 x0.b, .int .i64 x0.c, .int .i64 x0.d], .agg #[.int .i64 x1.a, .int .i64 x1.b, .int .i64 x1.c, .int .i64 x1.d], .agg #[.int .i64 x2.a, .int .i64 x2.b, .int .i64 x2.c, .int .i64 x2.d]] W fun e w' => e = .returned (.bool true) ∧ Below W.heap.size W w' := by
  by_cases h : nearB x0 = true ∧ nearB x1 = true ∧ nearB x2 = true
  · exact walk_yes W x0 x1 x2 (Lib.hid h.1) (Lib.hid h.2.1) (Lib.hid h.2.2)
  · exact walk_no W x0 x1 x2 h

set_option maxRecDepth 100000 in
theorem lifted (os : Os) (started : os.Started) (H : Type) (enc : TypeId × Value → H) :
    ReturnsInHanded {} Try.checked os 9 .any (Rows.edgesChainSpec.pre6 enc Try.prog Try.f9 Rows.edgesChainRow.domain false) (Rows.edgesChainSpec.post enc Try.prog Try.f9 false true false false) := by
  refine returnsInHanded_of_change (C := Try.checked) own started (by kernel_rfl) Try.func9
    (ChangeSpec.witness6 (enc := enc) (C := Try.checked) false ⟨#[], #[.agg #[.int .i64 0, .int .i64 0, .int .i64 0, .int .i64 0], .agg #[.int .i64 0, .int .i64 0, .int .i64 0, .int .i64 0], .agg #[.int .i64 0, .int .i64 0, .int .i64 0, .int .i64 0]], []⟩ 9 (by kernel_rfl) (by kernel_rfl) (by kernel_rfl) (by kernel_rfl)) ?_
  intro W base args ds gs before hval0 hW hcnd _
  have hval : ∀ (j : Nat) t v, Try.f9.params[j]? = some t → args[j]? = some v → Value.okWide Try.prog W .any base t v := hval0
  have hW' := hW
  obtain ⟨p, q, hA0, hV, rfl, hfz, hnd⟩ := hW
  have hA : DataW.TrodAll enc Try.prog W 0 (fun _ => true) true Try.f9.params.toList args.toList ds p := hA0
  rw [Try.params9] at hA hval
  obtain ⟨v0, vs0, d0, ds0, p0, q0, hargs, rfl, rfl, h0, r0⟩ := trodAll_cons hA
  obtain ⟨v1, vs1, d1, ds1, p1, q1, rfl, rfl, rfl, h1, r1⟩ := trodAll_cons r0
  obtain ⟨v2, vs2, d2, ds2, p2, q2, rfl, rfl, rfl, h2, r2⟩ := trodAll_cons r1
  obtain ⟨rfl, rfl, rfl⟩ := trodAll_nil r2
  obtain rfl : args = #[v0, v1, v2] := by cases args; simp_all
  obtain ⟨rfl, rfl⟩ := trodVars_none hV
  obtain ⟨x0, rfl, o0⟩ := view_rect (hval 0 33 v0 rfl rfl) h0
  obtain ⟨x1, rfl, o1⟩ := view_rect (hval 1 33 v1 rfl rfl) h1
  obtain ⟨x2, rfl, o2⟩ := view_rect (hval 2 33 v2 rfl rfl) h2
  refine (walk W x0 o0 x1 o1 x2 o2).mono fun e W' ⟨he, hg⟩ => ?_
  subst he
  exact ⟨_, rfl, law_post laidOut (by kernel_rfl) rfl Try.underlying4 rfl hW' rfl rfl rfl hg⟩

theorem over : Rows.edgesChainRow.holds Try.pinned (OpenSpec.ofChange Rows.edgesChainSpec) :=
  OpenClaim.holds_of_wide 9 Try.f9 rfl rfl rfl rfl rfl rfl rfl ⟨rfl, rfl, rfl, rfl, rfl⟩ rfl rfl rfl rfl rfl (by kernel_rfl) Try.func9 (by kernel_rfl)
    (of_decide_eq_true (by kernel_rfl)) (by unfold Func.isWrapper; first | (rw [if_pos (by decide +kernel)]; kernel_rfl) | (rw [if_neg (by decide +kernel)]; exact ⟨rfl, rfl⟩))
    (fun os started H enc _ => lifted os started H enc)

/-- The statement. -/
theorem proved : Rows.EdgesChainSaid := over
#print axioms proved
end Go.Proofs.Ytflehhepnmcdeaa.lawEdgesChain
