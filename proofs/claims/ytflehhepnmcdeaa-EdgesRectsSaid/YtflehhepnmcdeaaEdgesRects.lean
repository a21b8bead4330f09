/-
  What edges.Grow, Meet and Inside answer of any rectangles is the document's: for every input, no conditions.
-/
import Derived.Test.YtflehhepnmcdeaaWorks2
import Derived.Test.YtflehhepnmcdeaaView4
import Derived.Test.YtflehhepnmcdeaaLaw
import Derived.Test.YtflehhepnmcdeaaLater
import Derived.Test.YtflehhepnmcdeaaRef2d
import Derived.ProofKit
import Derived.OpenShut
import Derived.BigGuard
namespace Go.Proofs.Ytflehhepnmcdeaa.lawEdgesRects
open Go.ChangeShapes Go.WideShapes Go.ChangeAt Go.RowKit Go.Proofs.Ytflehhepnmcdeaa
set_option linter.unusedVariables false

theorem own : ownKnob Try.prog.godebug = none := by kernel_rfl

theorem three_boxes (w : World) (x1 x2 x3 : List Value) (t1 t2 t3 : TypeId) (W : World)
    (h : ((w.alloc (.cells x1.toArray t1)).alloc (.cells x2.toArray t2)).alloc (.cells x3.toArray t3) = W) :
    Box W w.heap.size x1 ∧ Box W (w.heap.size + 1) x2 ∧ Box W (w.heap.size + 1 + 1) x3 ∧ Below w.heap.size w W := by
  subst h
  refine ⟨((Box.new w x1 _).alloc _).alloc _, ?_, ?_, (((Below.refl _ _).alloc (Nat.le_refl _) _).alloc (by simp) _).alloc (by simp; omega) _⟩
  · simpa using (Box.new (w.alloc (.cells x1.toArray t1)) x2 t2).alloc _
  · simpa using Box.new ((w.alloc (.cells x1.toArray t1)).alloc (.cells x2.toArray t2)) x3 t3

/-- The three arguments lie in boxes of their own. -/
structure Boxes (W : World) (a b t : Four) (w : World) : Prop where
  b1 : Box w W.heap.size (fourE a)
  b2 : Box w (W.heap.size + 1) (fourE b)
  b3 : Box w (W.heap.size + 1 + 1) (fourE t)
  hb : Below W.heap.size W w
theorem Boxes.below {W : World} {a b t : Four} {w w' : World} (h : Boxes W a b t w) (hb : Below w.heap.size w w') : Boxes W a b t w' :=
  ⟨h.b1.below hb, h.b2.below hb, h.b3.below hb, h.hb.trans (hb.mono h.hb.size)⟩
theorem Boxes.cells {W : World} {a b t : Four} {w : World} (h : Boxes W a b t w) :
    ((w.cell? ⟨W.heap.size, 0, none⟩ = some (.int .i64 a.a) ∧ w.cell? ⟨W.heap.size, 1, none⟩ = some (.int .i64 a.b) ∧ w.cell? ⟨W.heap.size, 2, none⟩ = some (.int .i64 a.c) ∧ w.cell? ⟨W.heap.size, 3, none⟩ = some (.int .i64 a.d)) ∧
    (w.cell? ⟨W.heap.size + 1, 0, none⟩ = some (.int .i64 b.a) ∧ w.cell? ⟨W.heap.size + 1, 1, none⟩ = some (.int .i64 b.b) ∧ w.cell? ⟨W.heap.size + 1, 2, none⟩ = some (.int .i64 b.c) ∧ w.cell? ⟨W.heap.size + 1, 3, none⟩ = some (.int .i64 b.d)) ∧
    (w.cell? ⟨W.heap.size + 1 + 1, 0, none⟩ = some (.int .i64 t.a) ∧ w.cell? ⟨W.heap.size + 1 + 1, 1, none⟩ = some (.int .i64 t.b) ∧ w.cell? ⟨W.heap.size + 1 + 1, 2, none⟩ = some (.int .i64 t.c) ∧ w.cell? ⟨W.heap.size + 1 + 1, 3, none⟩ = some (.int .i64 t.d))) ∧ W.heap.size + 1 + 1 < w.heap.size ∧ W.heap.size + 1 < w.heap.size ∧ W.heap.size < w.heap.size := ⟨⟨h.b1.four, h.b2.four, h.b3.four⟩, h.b3.lt, h.b2.lt, h.b1.lt⟩

set_option maxRecDepth 200000 in
set_option maxHeartbeats 3200000 in
theorem walk_h (W : World) (a b t : Four) (ha : Hid (FourOk a)) (hb : Hid (FourOk b)) (ht : Hid (FourOk t)) :
    Calls Try.prog 4 #[.agg #[.int .i64 a.a, .int .i64 a.b, .int .i64 a.c, .int .i64 a.d], .agg #[.int .i64 b.a, .int .i64 b.b, .int .i64 b.c, .int .i64 b.d], .agg #[.int .i64 t.a, .int .i64 t.b, .int .i64 t.c, .int .i64 t.d]] W fun e w' => e = .returned (.bool true) ∧ Below W.heap.size W w' := by
  have g1 := fun w => Lib.hid (grow_any a.a a.b a.c a.d t.a t.b t.c t.d w ha.out ht.out)
  have g2 := fun w => Lib.hid (rGrow_any a t w ha.out ht.out)
  have m1 := fun w => Lib.hid (meet_any a.a a.b a.c a.d b.a b.b b.c b.d w ha.out hb.out)
  have m2 := fun w => Lib.hid (rMeet_any a.a a.b a.c a.d b.a b.b b.c b.d w ha.out hb.out)
  have i1 := fun w => Lib.hid (inside_any a.a a.b a.c a.d b.a b.b b.c b.d w ha.out hb.out)
  have i2 := fun w => Lib.hid (rInside_any a.a a.b a.c a.d b.a b.b b.c b.d w ha.out hb.out)
  generalize cutI (a.a - t.d) = X at *
  generalize cutI (a.b - t.a) = Y at *
  generalize cutI (a.c + t.d + t.b) = Z at *
  generalize cutI (a.d + t.a + t.c) = U at *
  generalize growFar a.a a.b a.c a.d t.a t.b t.c t.d = G at *
  generalize meetB a.a a.b a.c a.d b.a b.b b.c b.d = M at *
  generalize insideB a.a a.b a.c a.d b.a b.b b.c b.d = J at *
  have q0 := rect_eq
  go_enter Try.func4, Try.ntmps4
  go_wp2_with fail
  generalize hW : World.alloc (World.alloc (World.alloc W _) _) _ = V
  obtain ⟨b1, b2, b3, hbV⟩ := three_boxes W [_, _, _, _] [_, _, _, _] [_, _, _, _] _ _ _ V hW
  clear hW
  have bx : Boxes W a b t V := ⟨b1, b2, b3, hbV⟩
  clear b1 b2 b3 hbV
  refine (g1 _).out.mono ?_; rintro e w1 ⟨rfl, hq⟩
  have bx := bx.below hq.1
  have p := bx.cells
  clear hq
  go_wp2_with fail
  generalize hW : World.alloc w1 _ = V1
  obtain ⟨hb1, b7⟩ : Below w1.heap.size w1 V1 ∧ Box V1 w1.heap.size (fourE ⟨X, Y, Z, U⟩) := by
    subst hW
    exact ⟨(Below.refl _ _).alloc (Nat.le_refl _) _, Box.new w1 (fourE ⟨X, Y, Z, U⟩) _⟩
  clear hW
  have bx := bx.below hb1
  refine (g2 _).out.mono ?_; rintro e w2 ⟨rfl, hq⟩
  have bx := bx.below hq
  have b7 := b7.below hq
  clear hq p hb1
  generalize w1.heap.size = g7 at *
  have p := bx.cells
  have p7 := b7.four
  have lt7 := b7.lt
  go_wp2_with fail
  generalize hW : World.alloc w2 _ = V2
  obtain ⟨hb1, b9⟩ : Below w2.heap.size w2 V2 ∧ Box V2 w2.heap.size (fourE ⟨X, Y, Z, U⟩) := by
    subst hW
    exact ⟨(Below.refl _ _).alloc (Nat.le_refl _) _, Box.new w2 (fourE ⟨X, Y, Z, U⟩) _⟩
  clear hW p p7
  have bx := bx.below hb1
  have b7 := b7.below hb1
  generalize w2.heap.size = g9 at *
  clear hb1 lt7
  obtain ⟨x0, x1, x2, x3⟩ := Later.four bx.b1
  obtain ⟨y0, y1, y2, y3⟩ := Later.four bx.b2
  obtain ⟨z0, z1, z2, z3⟩ := Later.four b7
  obtain ⟨t0, t1, t2, t3⟩ := Later.four b9
  refine wp_region_later V2 (by kernel_rfl) (by kernel_rfl) (Below.refl _ _) ?_
  repeat (quiet_step ((first | (go_at_call 17; (with_reducible exact Later.callQt _ (m1 _).out)) | (go_at_call 18; (with_reducible exact Later.call _ (m2 _).out)) | (go_at_call 19; (with_reducible exact Later.callQt _ (i1 _).out)) | (go_at_call 20; (with_reducible exact Later.call _ (i2 _).out)) | (go_at_call 10; (with_reducible exact Later.call _ (works2_any _))))))
  refine wpQuiet_nil ?_
  rintro w5 ⟨⟨wq, hbq⟩, h9⟩
  obtain rfl : w5 = wq := h9
  have bx := bx.below hbq
  clear x0 x1 x2 x3 y0 y1 y2 y3 z0 z1 z2 z3 t0 t1 t2 t3 m1 m2 i1 i2
  go_wp2_with fail
  go_ret
  exact ⟨rfl, bx.hb⟩

theorem walk (W : World) (x0 : Four) (o0 : FourOk x0) (x1 : Four) (o1 : FourOk x1) (x2 : Four) (o2 : FourOk x2) :
    Calls Try.prog 4 #[.agg #[.int .i64 x0.a, .int .i64 x0.b, .int .i64 x0.c, .int .i64 x0.d], .agg #[.int .i64 x1.a, .int .i64 x1.b, .int .i64 x1.c, .int .i64 x1.d], .agg #[.int .i64 x2.a, .int .i64 x2.b, .int .i64 x2.c, .int .i64 x2.d]] W fun e w' => e = .returned (.bool true) ∧ Below W.heap.size W w' :=
  walk_h W x0 x1 x2 (Lib.hid o0) (Lib.hid o1) (Lib.hid o2)

set_option maxRecDepth 100000 in
theorem lifted (os : Os) (started : os.Started) (H : Type) (enc : TypeId × Value → H) :
    ReturnsInHanded {} Try.checked os 4 .any (Rows.edgesRectsSpec.pre6 enc Try.prog Try.f4 Rows.edgesRectsRow.domain false) (Rows.edgesRectsSpec.post enc Try.prog Try.f4 false true false false) := by
  refine returnsInHanded_of_change (C := Try.checked) own started (by kernel_rfl) Try.func4
    (ChangeSpec.witness6 (enc := enc) (C := Try.checked) false ⟨#[], #[.agg #[.int .i64 0, .int .i64 0, .int .i64 0, .int .i64 0], .agg #[.int .i64 0, .int .i64 0, .int .i64 0, .int .i64 0], .agg #[.int .i64 0, .int .i64 0, .int .i64 0, .int .i64 0]], []⟩ 4 (by kernel_rfl) (by kernel_rfl) (by kernel_rfl) (by kernel_rfl)) ?_
  intro W base args ds gs before hval0 hW hcnd _
  have hval : ∀ (j : Nat) t v, Try.f4.params[j]? = some t → args[j]? = some v → Value.okWide Try.prog W .any base t v := hval0
  have hW' := hW
  obtain ⟨p, q, hA0, hV, rfl, hfz, hnd⟩ := hW
  have hA : DataW.TrodAll enc Try.prog W 0 (fun _ => true) true Try.f4.params.toList args.toList ds p := hA0
  rw [Try.params4] at hA hval
  obtain ⟨v0, vs0, d0, ds0, p0, q0, hargs, rfl, rfl, h0, r0⟩ := trodAll_cons hA
  obtain ⟨v1, vs1, d1, ds1, p1, q1, rfl, rfl, rfl, h1, r1⟩ := trodAll_cons r0
  obtain ⟨v2, vs2, d2, ds2, p2, q2, rfl, rfl, rfl, h2, r2⟩ := trodAll_cons r1
  obtain ⟨rfl, rfl, rfl⟩ := trodAll_nil r2
  obtain rfl : args = #[v0, v1, v2] := by cases args; simp_all
  obtain ⟨rfl, rfl⟩ := trodVars_none hV
  obtain ⟨x0, rfl, o0⟩ := view_rect (hval 0 33 v0 rfl rfl) h0
  obtain ⟨x1, rfl, o1⟩ := view_rect (hval 1 33 v1 rfl rfl) h1
  obtain ⟨x2, rfl, o2⟩ := view_sides (hval 2 24 v2 rfl rfl) h2
  refine (walk W x0 o0 x1 o1 x2 o2).mono fun e W' ⟨he, hg⟩ => ?_
  subst he
  exact ⟨_, rfl, law_post laidOut (by kernel_rfl) rfl Try.underlying4 rfl hW' rfl rfl rfl hg⟩

theorem over : Rows.edgesRectsRow.holds Try.pinned (OpenSpec.ofChange Rows.edgesRectsSpec) :=
  OpenClaim.holds_of_wide 4 Try.f4 rfl rfl rfl rfl rfl rfl rfl ⟨rfl, rfl, rfl, rfl, rfl⟩ rfl rfl rfl rfl rfl (by kernel_rfl) Try.func4 (by kernel_rfl)
    (of_decide_eq_true (by kernel_rfl)) (by unfold Func.isWrapper; first | (rw [if_pos (by decide +kernel)]; kernel_rfl) | (rw [if_neg (by decide +kernel)]; exact ⟨rfl, rfl⟩))
    (fun os started H enc _ => lifted os started H enc)

/-- The statement. -/
theorem proved : Rows.EdgesRectsSaid := over
#print axioms proved
end Go.Proofs.Ytflehhepnmcdeaa.lawEdgesRects
