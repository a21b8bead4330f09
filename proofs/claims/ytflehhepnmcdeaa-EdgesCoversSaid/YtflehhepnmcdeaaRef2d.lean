/-
  Contract of the document's answer for edges: Grow.
-/
import Derived.Test.YtflehhepnmcdeaaRef2c
import Derived.Test.YtflehhepnmcdeaaGrow
import Derived.Test.YtflehhepnmcdeaaCoverMath
namespace Go.Proofs.Ytflehhepnmcdeaa
open Go.RowKit

theorem cut_val {w : World} {m : Bool} {A : Option Addr} {n c : Nat} {l : List Bool} {x : Int} (hS : SlB w A n c l) (hv : Hid (sgn m l = x)) (hl : n ≤ 50000) :
    Calls Try.prog 31 #[.agg #[.bool m, .slice A n c]] w fun e w' => MadeCut w x e w' := by
  rw [← hv.out]; exact refcut_any m A n c l w hS hl
theorem add_val {w1 w2 : World} {m1 m2 : Bool} {A C : Option Addr} {n k cA cC : Nat} {al bl : List Bool} {x y : Int} (h1 : SlB w1 A n cA al) (h2 : SlB w2 C k cC bl) (hb : Below w1.heap.size w1 w2) (v1 : Hid (sgn m1 al = x)) (v2 : Hid (sgn m2 bl = y)) (hl : n ≤ 50000) (hl2 : k ≤ 50000) :
    Calls Try.prog 32 #[.agg #[.bool m1, .slice A n cA], .agg #[.bool m2, .slice C k cC]] w2 fun e w' => MadeBig w2 (x + y) (max n k + 1) e w' := by
  rw [← v1.out, ← v2.out]; exact add_any m1 m2 A C n k cA cC al bl w2 (h1.keep hb) h2 hl hl2

/-- The two arguments of Grow in their boxes. -/
structure GBox (w : World) (a t : Four) (v : World) : Prop where
  b1 : Box v w.heap.size (fourE a)
  b2 : Box v (w.heap.size + 1) (fourE t)
  b3 : Box v (w.heap.size + 1 + 1) [.int .i64 0, .int .i64 0, .int .i64 0, .int .i64 0]
  hb : Below w.heap.size w v
theorem GBox.below {w : World} {a t : Four} {v v' : World} (h : GBox w a t v) (hb : Below v.heap.size v v') : GBox w a t v' := ⟨h.b1.below hb, h.b2.below hb, h.b3.below hb, h.hb.trans (hb.mono h.hb.size)⟩
theorem GBox.drew {w : World} {a t : Four} {v : World} (h : GBox w a t v) : GBox w a t v.drew := ⟨h.b1.drew, h.b2.drew, h.b3.drew, h.hb.drew⟩
theorem GBox.cells {w : World} {a t : Four} {v : World} (h : GBox w a t v) : v.cell? ⟨w.heap.size, 0, none⟩ = some (.int .i64 a.a) ∧ v.cell? ⟨w.heap.size, 1, none⟩ = some (.int .i64 a.b) ∧ v.cell? ⟨w.heap.size, 2, none⟩ = some (.int .i64 a.c) ∧ v.cell? ⟨w.heap.size, 3, none⟩ = some (.int .i64 a.d) ∧
    v.cell? ⟨w.heap.size + 1, 0, none⟩ = some (.int .i64 t.a) ∧ v.cell? ⟨w.heap.size + 1, 1, none⟩ = some (.int .i64 t.b) ∧ v.cell? ⟨w.heap.size + 1, 2, none⟩ = some (.int .i64 t.c) ∧ v.cell? ⟨w.heap.size + 1, 3, none⟩ = some (.int .i64 t.d) :=
  ⟨h.b1.four.1, h.b1.four.2.1, h.b1.four.2.2.1, h.b1.four.2.2.2, h.b2.four⟩

theorem g_boxes (w : World) (x1 x2 x3 : List Value) (t1 t2 t3 : TypeId) (W : World)
    (h : ((w.alloc (.cells x1.toArray t1)).alloc (.cells x2.toArray t2)).alloc (.cells x3.toArray t3) = W) :
    Box W w.heap.size x1 ∧ Box W (w.heap.size + 1) x2 ∧ Box W (w.heap.size + 1 + 1) x3 ∧ Below w.heap.size w W := by
  subst h
  refine ⟨((Box.new w x1 _).alloc _).alloc _, ?_, ?_, (((Below.refl _ _).alloc (Nat.le_refl _) _).alloc (by simp) _).alloc (by simp; omega) _⟩
  · simpa using (Box.new (w.alloc (.cells x1.toArray t1)) x2 t2).alloc _
  · simpa using Box.new ((w.alloc (.cells x1.toArray t1)).alloc (.cells x2.toArray t2)) x3 t3

set_option maxRecDepth 100000 in
set_option maxHeartbeats 3200000 in
theorem rGrow_h (a t : Four) (w : World) (h : Hid (FourOk a)) (h' : Hid (FourOk t)) :
    Calls Try.prog 16 #[.agg #[.int .i64 a.a, .int .i64 a.b, .int .i64 a.c, .int .i64 a.d], .agg #[.int .i64 t.a, .int .i64 t.b, .int .i64 t.c, .int .i64 t.d]] w fun e w' => e = .returned (.tuple #[.agg #[.int .i64 (cutI (a.a + -t.d)), .int .i64 (cutI (a.b + -t.a)), .int .i64 (cutI (a.c + (t.d + t.b))), .int .i64 (cutI (a.d + (t.a + t.c)))], .bool (farI (a.a + -t.d) || farI (a.b + -t.a) || farI (a.c + (t.d + t.b)) || farI (a.d + (t.a + t.c)))]) ∧ Below w.heap.size w w' := by
  have o1 := fun w => Lib.hid (of_any a.a w h.out.x)
  have o2 := fun w => Lib.hid (of_any a.b w h.out.y)
  have o3 := fun w => Lib.hid (of_any a.c w h.out.w)
  have o4 := fun w => Lib.hid (of_any a.d w h.out.h)
  have n1 := fun w => Lib.hid (rminus_any t.d w h'.out.h)
  have n2 := fun w => Lib.hid (rminus_any t.a w h'.out.x)
  have n3 := fun w => Lib.hid (radd_any t.d t.b w h'.out.h h'.out.y)
  have n4 := fun w => Lib.hid (radd_any t.a t.c w h'.out.x h'.out.w)
  have hall := rect_all
  go_enter Try.func16, Try.ntmps16
  go_wp2_with fail
  generalize hW : World.alloc (World.alloc (World.alloc w _) _) _ = V
  obtain ⟨b1, b2, b3, hb⟩ := g_boxes w [_, _, _, _] [_, _, _, _] [_, _, _, _] _ _ _ V hW
  clear hW
  have I : GBox w a t V := ⟨b1, b2, b3, hb⟩
  clear b1 b2 b3 hb
  have I := I.drew
  go_region_held3 (fun w' => w'.cell? ⟨w.heap.size, 0, none⟩ = some (.int .i64 a.a) ∧ w'.cell? ⟨w.heap.size, 1, none⟩ = some (.int .i64 a.b) ∧ w'.cell? ⟨w.heap.size, 2, none⟩ = some (.int .i64 a.c) ∧ w'.cell? ⟨w.heap.size, 3, none⟩ = some (.int .i64 a.d) ∧ w'.cell? ⟨w.heap.size + 1, 0, none⟩ = some (.int .i64 t.a) ∧ w'.cell? ⟨w.heap.size + 1, 1, none⟩ = some (.int .i64 t.b) ∧ w'.cell? ⟨w.heap.size + 1, 2, none⟩ = some (.int .i64 t.c) ∧ w'.cell? ⟨w.heap.size + 1, 3, none⟩ = some (.int .i64 t.d))
    (first | (with_reducible exact I.cells) | (go_keep; done))
    (first | (go_at_call 33; (with_reducible refine (o1 _).out.mono ?_); rintro e w1 ⟨m1, E1, k1, c1, l1, rfl, hk1, hv1', -, hS1, hb1, -⟩; have hv1 := Lib.hid hv1'; clear hv1'; have I := I.below hb1) | (go_at_call 34; (with_reducible refine (n1 _).out.mono ?_); rintro e w2 ⟨m2, E2, k2, c2, l2, rfl, hk2, hv2', -, hS2, hb2, -⟩; have hv2 := Lib.hid hv2'; clear hv2'; have I := I.below hb2) | (go_at_call 32; (with_reducible refine (add_val hS1 hS2 hb2 hv1 hv2 (by omega) (by omega)).mono ?_); rintro e w3 ⟨m3, E3, k3, c3, l3, rfl, hk3, hv3', -, hS3, hb3, -⟩; have hv3 := Lib.hid hv3'; clear hv3'; have I := I.below hb3) | (go_at_call 31; (with_reducible refine (cut_val hS3 hv3 (by omega)).mono ?_); rintro e w4 ⟨rfl, hb4⟩; have I := I.below hb4))
  clear hS1 hS2 hS3 hb1 hb2 hb3 hb4 hk1 hk2 hk3 hv1 hv2 hv3
  have p := I.cells
  go_wp2_with fail
  have I := I.drew
  clear p
  go_region_held3 (fun w' => w'.cell? ⟨w.heap.size, 0, none⟩ = some (.int .i64 a.a) ∧ w'.cell? ⟨w.heap.size, 1, none⟩ = some (.int .i64 a.b) ∧ w'.cell? ⟨w.heap.size, 2, none⟩ = some (.int .i64 a.c) ∧ w'.cell? ⟨w.heap.size, 3, none⟩ = some (.int .i64 a.d) ∧ w'.cell? ⟨w.heap.size + 1, 0, none⟩ = some (.int .i64 t.a) ∧ w'.cell? ⟨w.heap.size + 1, 1, none⟩ = some (.int .i64 t.b) ∧ w'.cell? ⟨w.heap.size + 1, 2, none⟩ = some (.int .i64 t.c) ∧ w'.cell? ⟨w.heap.size + 1, 3, none⟩ = some (.int .i64 t.d))
    (first | (with_reducible exact I.cells) | (go_keep; done))
    (first | (go_at_call 33; (with_reducible refine (o2 _).out.mono ?_); rintro e w1 ⟨m1, E1, k1, c1, l1, rfl, hk1, hv1', -, hS1, hb1, -⟩; have hv1 := Lib.hid hv1'; clear hv1'; have I := I.below hb1) | (go_at_call 34; (with_reducible refine (n2 _).out.mono ?_); rintro e w2 ⟨m2, E2, k2, c2, l2, rfl, hk2, hv2', -, hS2, hb2, -⟩; have hv2 := Lib.hid hv2'; clear hv2'; have I := I.below hb2) | (go_at_call 32; (with_reducible refine (add_val hS1 hS2 hb2 hv1 hv2 (by omega) (by omega)).mono ?_); rintro e w3 ⟨m3, E3, k3, c3, l3, rfl, hk3, hv3', -, hS3, hb3, -⟩; have hv3 := Lib.hid hv3'; clear hv3'; have I := I.below hb3) | (go_at_call 31; (with_reducible refine (cut_val hS3 hv3 (by omega)).mono ?_); rintro e w4 ⟨rfl, hb4⟩; have I := I.below hb4))
  clear hS1 hS2 hS3 hb1 hb2 hb3 hb4 hk1 hk2 hk3 hv1 hv2 hv3
  have p := I.cells
  go_wp2_with fail
  have I := I.drew
  clear p
  go_region_held3 (fun w' => w'.cell? ⟨w.heap.size, 0, none⟩ = some (.int .i64 a.a) ∧ w'.cell? ⟨w.heap.size, 1, none⟩ = some (.int .i64 a.b) ∧ w'.cell? ⟨w.heap.size, 2, none⟩ = some (.int .i64 a.c) ∧ w'.cell? ⟨w.heap.size, 3, none⟩ = some (.int .i64 a.d) ∧ w'.cell? ⟨w.heap.size + 1, 0, none⟩ = some (.int .i64 t.a) ∧ w'.cell? ⟨w.heap.size + 1, 1, none⟩ = some (.int .i64 t.b) ∧ w'.cell? ⟨w.heap.size + 1, 2, none⟩ = some (.int .i64 t.c) ∧ w'.cell? ⟨w.heap.size + 1, 3, none⟩ = some (.int .i64 t.d))
    (first | (with_reducible exact I.cells) | (go_keep; done))
    (first | (go_at_call 33; (with_reducible refine (o3 _).out.mono ?_); rintro e w1 ⟨m1, E1, k1, c1, l1, rfl, hk1, hv1', -, hS1, hb1, -⟩; have hv1 := Lib.hid hv1'; clear hv1'; have I := I.below hb1) | (go_at_call 35; (with_reducible refine (n3 _).out.mono ?_); rintro e w2 ⟨m2, E2, k2, c2, l2, rfl, hk2, hv2', -, hS2, hb2, -⟩; have hv2 := Lib.hid hv2'; clear hv2'; have I := I.below hb2) | (go_at_call 32; (with_reducible refine (add_val hS1 hS2 hb2 hv1 hv2 (by omega) (by omega)).mono ?_); rintro e w3 ⟨m3, E3, k3, c3, l3, rfl, hk3, hv3', -, hS3, hb3, -⟩; have hv3 := Lib.hid hv3'; clear hv3'; have I := I.below hb3) | (go_at_call 31; (with_reducible refine (cut_val hS3 hv3 (by omega)).mono ?_); rintro e w4 ⟨rfl, hb4⟩; have I := I.below hb4))
  clear hS1 hS2 hS3 hb1 hb2 hb3 hb4 hk1 hk2 hk3 hv1 hv2 hv3
  have p := I.cells
  go_wp2_with fail
  have I := I.drew
  clear p
  go_region_held3 (fun w' => w'.cell? ⟨w.heap.size, 0, none⟩ = some (.int .i64 a.a) ∧ w'.cell? ⟨w.heap.size, 1, none⟩ = some (.int .i64 a.b) ∧ w'.cell? ⟨w.heap.size, 2, none⟩ = some (.int .i64 a.c) ∧ w'.cell? ⟨w.heap.size, 3, none⟩ = some (.int .i64 a.d) ∧ w'.cell? ⟨w.heap.size + 1, 0, none⟩ = some (.int .i64 t.a) ∧ w'.cell? ⟨w.heap.size + 1, 1, none⟩ = some (.int .i64 t.b) ∧ w'.cell? ⟨w.heap.size + 1, 2, none⟩ = some (.int .i64 t.c) ∧ w'.cell? ⟨w.heap.size + 1, 3, none⟩ = some (.int .i64 t.d))
    (first | (with_reducible exact I.cells) | (go_keep; done))
    (first | (go_at_call 33; (with_reducible refine (o4 _).out.mono ?_); rintro e w1 ⟨m1, E1, k1, c1, l1, rfl, hk1, hv1', -, hS1, hb1, -⟩; have hv1 := Lib.hid hv1'; clear hv1'; have I := I.below hb1) | (go_at_call 35; (with_reducible refine (n4 _).out.mono ?_); rintro e w2 ⟨m2, E2, k2, c2, l2, rfl, hk2, hv2', -, hS2, hb2, -⟩; have hv2 := Lib.hid hv2'; clear hv2'; have I := I.below hb2) | (go_at_call 32; (with_reducible refine (add_val hS1 hS2 hb2 hv1 hv2 (by omega) (by omega)).mono ?_); rintro e w3 ⟨m3, E3, k3, c3, l3, rfl, hk3, hv3', -, hS3, hb3, -⟩; have hv3 := Lib.hid hv3'; clear hv3'; have I := I.below hb3) | (go_at_call 31; (with_reducible refine (cut_val hS3 hv3 (by omega)).mono ?_); rintro e w4 ⟨rfl, hb4⟩; have I := I.below hb4))
  clear hS1 hS2 hS3 hb1 hb2 hb3 hb4 hk1 hk2 hk3 hv1 hv2 hv3 o1 o2 o3 o4 n1 n2 n3 n4
  have p := I.b3.four
  have q := I.b3.four_free
  go_wp2_with fail
  all_goals
    generalize hW5 : World.setCell (World.setCell (World.setCell (World.setCell w4 _ _) _ _) _ _) _ _ = W5
    obtain ⟨k3, hq6⟩ : Box W5 (w.heap.size + 1 + 1) [.int .i64 (cutI (a.a + -t.d)), .int .i64 (cutI (a.b + -t.a)), .int .i64 (cutI (a.c + (t.d + t.b))), .int .i64 (cutI (a.d + (t.a + t.c)))] ∧ Below w.heap.size w W5 := by
      subst hW5
      exact ⟨(((I.b3.set 0 _ (by simp)).set 1 _ (by simp)).set 2 _ (by simp)).set 3 _ (by simp), (((I.hb.setCell (by simp; omega) _).setCell (by simp; omega) _).setCell (by simp; omega) _).setCell (by simp; omega) _⟩
    obtain ⟨q0, q1, q2, q3⟩ := k3.four
    clear hW5 p q I
    exact bodyPost_ret (v := .tuple #[.agg #[.int .i64 (cutI (a.a + -t.d)), .int .i64 (cutI (a.b + -t.a)), .int .i64 (cutI (a.c + (t.d + t.b))), .int .i64 (cutI (a.d + (t.a + t.c)))], .bool (farI (a.a + -t.d) || farI (a.b + -t.a) || farI (a.c + (t.d + t.b)) || farI (a.d + (t.a + t.c)))]) (by simp [results, Try.results16, go_sem, *]) rfl ⟨rfl, hq6⟩

theorem rGrow_any (a t : Four) (w : World) (h : FourOk a) (h' : FourOk t) :
    Calls Try.prog 16 #[.agg #[.int .i64 a.a, .int .i64 a.b, .int .i64 a.c, .int .i64 a.d], .agg #[.int .i64 t.a, .int .i64 t.b, .int .i64 t.c, .int .i64 t.d]] w fun e w' => e = .returned (.tuple #[.agg #[.int .i64 (cutI (a.a - t.d)), .int .i64 (cutI (a.b - t.a)), .int .i64 (cutI (a.c + t.d + t.b)), .int .i64 (cutI (a.d + t.a + t.c))], .bool (growFar a.a a.b a.c a.d t.a t.b t.c t.d)]) ∧ Below w.heap.size w w' := by
  have h := rGrow_h a t w (Lib.hid h) (Lib.hid h')
  rw [show a.a + -t.d = a.a - t.d by omega, show a.b + -t.a = a.b - t.a by omega, show a.c + (t.d + t.b) = a.c + t.d + t.b by omega, show a.d + (t.a + t.c) = a.d + t.a + t.c by omega] at h
  exact h
end Go.Proofs.Ytflehhepnmcdeaa
