/-
  Contracts of package edges: less, reach, Grow: what each answers for every input; nothing below changes.
-/
import Derived.Test.YtflehhepnmcdeaaEdgeMeet
import Derived.Test.YtflehhepnmcdeaaInts
import Derived.RegionTactic
namespace Go.Proofs.Ytflehhepnmcdeaa
open Go.RowKit

theorem not_i64 (y : Int) (h : I64 y) : bits .xor .i64 (-1) y = -y - 1 := by
  unfold I64 at h
  show IntKind.i64.wrap ((BitVec.ofInt 64 (-1) ^^^ BitVec.ofInt 64 y).toNat : Int) = _
  have e : BitVec.ofInt 64 (-1) = BitVec.allOnes 64 := by decide
  rw [e, BitVec.allOnes_xor, BitVec.toNat_not, BitVec.toNat_ofInt, IntKind.wrap_i64]
  omega

set_option maxRecDepth 100000 in
theorem eless_h (x y : Int) (w : World) (hx : Hid (I64 x)) (hy : Hid (I64 y)) :
    Calls Try.prog 30 #[.int .i64 x, .int .i64 y] w fun e w' => e = .returned (.tuple #[.int .i64 (cutI (x - y)), .bool (farI (x - y))]) ∧ Qt w.heap.size w w' := by
  have hy' : I64 (-y - 1) := by have := hy.out; unfold I64 at *; omega
  have hi := fun w => Lib.hid (ints_lit w [x, -y - 1, 1] 2 (by intro z hz; simp at hz; rcases hz with rfl | rfl | rfl; exact hx.out; exact hy'; constructor <;> decide))
  have hs : Hid ([x, -y - 1, 1].sum = x - y) := Lib.hid (by simp; omega)
  have hnot := not_i64 y hy.out
  clear hy'
  go_enter Try.func30, Try.ntmps30
  go_wp2_with fail
  refine (sum_any _ _ _ _ _ (hi _).out (Lib.hid rfl) (by simp)).mono ?_
  rintro e w1 ⟨rfl, hq⟩
  rw [hs.out]
  have hq1 := Lib.hid (Qt.trans ((Qt.refl w.heap.size w).alloc (Nat.le_refl _) _ _) (hq.mono (by simp)))
  clear hq
  go_wp2_with fail
  go_ret2
  exact ⟨rfl, hq1.out⟩

theorem eless_any (x y : Int) (w : World) (hx : I64 x) (hy : I64 y) :
    Calls Try.prog 30 #[.int .i64 x, .int .i64 y] w fun e w' => e = .returned (.tuple #[.int .i64 (cutI (x - y)), .bool (farI (x - y))]) ∧ Qt w.heap.size w w' :=
  eless_h x y w (Lib.hid hx) (Lib.hid hy)

set_option maxRecDepth 100000 in
theorem reach_h (s f l : Int) (w : World) (hs : Hid (I64 s)) (hf : Hid (I64 f)) (hl : Hid (I64 l)) :
    Calls Try.prog 42 #[.int .i64 s, .int .i64 f, .int .i64 l] w fun e w' => e = .returned (.tuple #[.int .i64 (cutI (f + l - s)), .bool (farI (f + l - s))]) ∧ Qt w.heap.size w w' := by
  have hs' : I64 (-s - 1) := by have := hs.out; unfold I64 at *; omega
  have hi := fun w => Lib.hid (ints_lit w [f, l, -s - 1, 1] 2 (by intro z hz; simp at hz; rcases hz with rfl | rfl | rfl | rfl; exact hf.out; exact hl.out; exact hs'; constructor <;> decide))
  have hsum : Hid ([f, l, -s - 1, 1].sum = f + l - s) := Lib.hid (by simp; omega)
  have hnot := not_i64 s hs.out
  clear hs'
  go_enter Try.func42, Try.ntmps42
  go_wp2_with fail
  refine (sum_any _ _ _ _ _ (hi _).out (Lib.hid rfl) (by simp)).mono ?_
  rintro e w1 ⟨rfl, hq⟩
  rw [hsum.out]
  have hq1 := Lib.hid (Qt.trans ((Qt.refl w.heap.size w).alloc (Nat.le_refl _) _ _) (hq.mono (by simp)))
  clear hq
  go_wp2_with fail
  go_ret2
  exact ⟨rfl, hq1.out⟩
theorem reach_any (s f l : Int) (w : World) (hs : I64 s) (hf : I64 f) (hl : I64 l) :
    Calls Try.prog 42 #[.int .i64 s, .int .i64 f, .int .i64 l] w fun e w' => e = .returned (.tuple #[.int .i64 (cutI (f + l - s)), .bool (farI (f + l - s))]) ∧ Qt w.heap.size w w' :=
  reach_h s f l w (Lib.hid hs) (Lib.hid hf) (Lib.hid hl)

/-- What Grow answers of the rectangle a b m n, by the sides T R B L. -/
def growFar (a b m n T R B L : Int) : Bool := farI (a - L) || farI (b - T) || farI (m + L + R) || farI (n + T + B)

theorem four_boxes (w : World) (x1 x2 x3 x4 : List Value) (t1 t2 t3 t4 : TypeId) (W : World)
    (h : (((w.alloc (.cells x1.toArray t1)).alloc (.cells x2.toArray t2)).alloc (.cells x3.toArray t3)).alloc (.cells x4.toArray t4) = W) :
    Box W w.heap.size x1 ∧ Box W (w.heap.size + 1) x2 ∧ Box W (w.heap.size + 1 + 1) x3 ∧ Box W (w.heap.size + 1 + 1 + 1) x4 ∧ Qt w.heap.size w W ∧ W.heap.size = w.heap.size + 4 := by
  subst h
  refine ⟨(((Box.new w x1 _).alloc _).alloc _).alloc _, ?_, ?_, ?_, ((((Qt.refl _ _).alloc (Nat.le_refl _) _ _).alloc (by simp) _ _).alloc (by simp; omega) _ _).alloc (by simp; omega) _ _, by simp⟩
  · simpa using ((Box.new (w.alloc (.cells x1.toArray t1)) x2 t2).alloc _).alloc _
  · simpa using (Box.new ((w.alloc (.cells x1.toArray t1)).alloc (.cells x2.toArray t2)) x3 t3).alloc _
  · simpa using Box.new (((w.alloc (.cells x1.toArray t1)).alloc (.cells x2.toArray t2)).alloc (.cells x3.toArray t3)) x4 t4

set_option maxRecDepth 100000 in
set_option maxHeartbeats 1600000 in
theorem grow_h (a b m n T R B L : Int) (w : World) (h : Hid (RectOk a b m n)) (h' : Hid (RectOk T R B L)) :
    Calls Try.prog 15 #[.agg #[.int .i64 a, .int .i64 b, .int .i64 m, .int .i64 n], .agg #[.int .i64 T, .int .i64 R, .int .i64 B, .int .i64 L]] w fun e w' => e = .returned (.tuple #[.agg #[.int .i64 (cutI (a - L)), .int .i64 (cutI (b - T)), .int .i64 (cutI (m + L + R)), .int .i64 (cutI (n + T + B))], .bool (growFar a b m n T R B L)]) ∧ Qt w.heap.size w w' := by
  go_enter Try.func15, Try.ntmps15
  go_wp2_with fail
  generalize hW : World.alloc (World.alloc (World.alloc (World.alloc w _) _) _) _ = W
  obtain ⟨b1, b2, b3, b4, hq, hs0⟩ := four_boxes w [_, _, _, _] [_, _, _, _] [_, _, _, _] [_, _, _, _] _ _ _ _ W hW
  clear hW
  have hs := Lib.hid hs0
  have hq := Lib.hid hq
  clear hs0
  refine (eless_any a L W h.out.x h'.out.h).mono ?_; rintro e w1 ⟨rfl, hq1⟩
  have c1 := b1.below hq1.1
  have c2 := b2.below hq1.1
  have c3 := b3.below hq1.1
  have c4 := b4.below hq1.1
  have hr1 := Lib.hid (hq.out.trans (hq1.mono hq.out.1.size))
  have hs1 : w.heap.size + 4 ≤ w1.heap.size := by have := hq1.1.size; have e := hs.out; omega
  clear b1 b2 b3 b4 hq hq1
  have p1 := c1.four
  have p2 := c2.four
  have p4 := c4.four
  have f1 := c1.four_free
  have f4 := c4.four_free
  go_wp2_with fail
  clear p1 p2 p4 f1 f4
  generalize hV : World.setCell (World.setCell w1 _ _) _ _ = V1
  obtain ⟨d1, d2, d3, d4, hv1⟩ : Box V1 w.heap.size [.int .i64 (cutI (a - L)), .int .i64 b, .int .i64 m, .int .i64 n] ∧ Box V1 (w.heap.size + 1) [.int .i64 T, .int .i64 R, .int .i64 B, .int .i64 L] ∧ Box V1 (w.heap.size + 1 + 1) [.int .i64 0, .int .i64 0, .int .i64 0, .int .i64 0] ∧
      Box V1 (w.heap.size + 1 + 1 + 1) [.bool (farI (a - L)), .bool false, .bool false, .bool false] ∧ Qt w.heap.size w V1 := by
    subst hV
    exact ⟨(c1.set 0 _ (by simp)).off (by omega) _ _, (c2.off (by omega) _ _).off (by omega) _ _, (c3.off (by omega) _ _).off (by omega) _ _, (c4.off (by omega) _ _).set 0 _ (by simp), (hr1.out.setCell (by simp) _).setCell (by simp; omega) _⟩
  clear hV c1 c2 c3 c4 hr1
  refine (eless_any b T V1 h.out.y h'.out.x).mono ?_; rintro e w2 ⟨rfl, hq1⟩
  have c1 := d1.below hq1.1
  have c2 := d2.below hq1.1
  have c3 := d3.below hq1.1
  have c4 := d4.below hq1.1
  have hr1 := Lib.hid (hv1.trans (hq1.mono hv1.1.size))
  clear d1 d2 d3 d4 hv1 hq1 hs1 hs
  have p1 := c1.four
  have p2 := c2.four
  have p4 := c4.four
  have f1 := c1.four_free
  have f4 := c4.four_free
  go_wp2_with fail
  clear p1 p2 p4 f1 f4
  generalize hV : World.setCell (World.setCell w2 _ _) _ _ = V2
  have es : w2.heap.size = V2.heap.size := by rw [← hV]; simp [World.setCell]
  obtain ⟨d1, d2, d3, d4, hv1⟩ : Box V2 w.heap.size [.int .i64 (cutI (a - L)), .int .i64 (cutI (b - T)), .int .i64 m, .int .i64 n] ∧ Box V2 (w.heap.size + 1) [.int .i64 T, .int .i64 R, .int .i64 B, .int .i64 L] ∧ Box V2 (w.heap.size + 1 + 1) [.int .i64 0, .int .i64 0, .int .i64 0, .int .i64 0] ∧
      Box V2 (w.heap.size + 1 + 1 + 1) [.bool (farI (a - L)), .bool (farI (b - T)), .bool false, .bool false] ∧ Qt w.heap.size w V2 := by
    subst hV
    exact ⟨(c1.set 1 _ (by simp)).off (by omega) _ _, (c2.off (by omega) _ _).off (by omega) _ _, (c3.off (by omega) _ _).off (by omega) _ _, (c4.off (by omega) _ _).set 1 _ (by simp), (hr1.out.setCell (by simp) _).setCell (by simp; omega) _⟩
  clear hV c1 c2 c3 c4 hr1
  rw [es]
  have hi3 := Lib.hid (ints_lit V2 [m, L, R] 2 (by intro z hz; simp at hz; rcases hz with rfl | rfl | rfl; exact h.out.w; exact h'.out.h; exact h'.out.y))
  have e3 : Hid ([m, L, R].sum = m + L + R) := Lib.hid (by simp; omega)
  refine (sum_any _ _ _ _ _ hi3.out (Lib.hid rfl) (by simp)).mono ?_; rintro e w3 ⟨rfl, hq1⟩
  rw [e3.out]
  have c1 := (d1.alloc _).below hq1.1
  have c2 := (d2.alloc _).below hq1.1
  have c3 := (d3.alloc _).below hq1.1
  have c4 := (d4.alloc _).below hq1.1
  have hr1 := Lib.hid ((hv1.alloc hv1.1.size _ _).trans (hq1.mono (by have := hv1.1.size; simp; omega)))
  clear d1 d2 d3 d4 hv1 hq1 hi3 e3
  have p1 := c1.four
  have p2 := c2.four
  have p4 := c4.four
  have f1 := c1.four_free
  have f4 := c4.four_free
  go_wp2_with fail
  clear p1 p2 p4 f1 f4
  generalize hV : World.setCell (World.setCell w3 _ _) _ _ = V3
  have es : w3.heap.size = V3.heap.size := by rw [← hV]; simp [World.setCell]
  obtain ⟨d1, d2, d3, d4, hv1⟩ : Box V3 w.heap.size [.int .i64 (cutI (a - L)), .int .i64 (cutI (b - T)), .int .i64 (cutI (m + L + R)), .int .i64 n] ∧ Box V3 (w.heap.size + 1) [.int .i64 T, .int .i64 R, .int .i64 B, .int .i64 L] ∧ Box V3 (w.heap.size + 1 + 1) [.int .i64 0, .int .i64 0, .int .i64 0, .int .i64 0] ∧
      Box V3 (w.heap.size + 1 + 1 + 1) [.bool (farI (a - L)), .bool (farI (b - T)), .bool (farI (m + L + R)), .bool false] ∧ Qt w.heap.size w V3 := by
    subst hV
    exact ⟨(c1.set 2 _ (by simp)).off (by omega) _ _, (c2.off (by omega) _ _).off (by omega) _ _, (c3.off (by omega) _ _).off (by omega) _ _, (c4.off (by omega) _ _).set 2 _ (by simp), (hr1.out.setCell (by simp) _).setCell (by simp; omega) _⟩
  clear hV c1 c2 c3 c4 hr1
  rw [es]
  have hi3 := Lib.hid (ints_lit V3 [n, T, B] 2 (by intro z hz; simp at hz; rcases hz with rfl | rfl | rfl; exact h.out.h; exact h'.out.x; exact h'.out.w))
  have e3 : Hid ([n, T, B].sum = n + T + B) := Lib.hid (by simp; omega)
  refine (sum_any _ _ _ _ _ hi3.out (Lib.hid rfl) (by simp)).mono ?_; rintro e w4 ⟨rfl, hq1⟩
  rw [e3.out]
  have c1 := (d1.alloc _).below hq1.1
  have c2 := (d2.alloc _).below hq1.1
  have c3 := (d3.alloc _).below hq1.1
  have c4 := (d4.alloc _).below hq1.1
  have hr1 := Lib.hid ((hv1.alloc hv1.1.size _ _).trans (hq1.mono (by have := hv1.1.size; simp; omega)))
  clear d1 d2 d3 d4 hv1 hq1 hi3 e3
  have p1 := c1.four
  have p2 := c2.four
  have p4 := c4.four
  have f1 := c1.four_free
  have f4 := c4.four_free
  go_wp2_with fail
  clear p1 p2 p4 f1 f4
  generalize hV : World.setCell (World.setCell w4 _ _) _ _ = V4
  obtain ⟨d1, d3, d4, hv1⟩ : Box V4 w.heap.size [.int .i64 (cutI (a - L)), .int .i64 (cutI (b - T)), .int .i64 (cutI (m + L + R)), .int .i64 (cutI (n + T + B))] ∧ Box V4 (w.heap.size + 1 + 1) [.int .i64 0, .int .i64 0, .int .i64 0, .int .i64 0] ∧
      Box V4 (w.heap.size + 1 + 1 + 1) [.bool (farI (a - L)), .bool (farI (b - T)), .bool (farI (m + L + R)), .bool (farI (n + T + B))] ∧ Qt w.heap.size w V4 := by
    subst hV
    exact ⟨(c1.set 3 _ (by simp)).off (by omega) _ _, (c3.off (by omega) _ _).off (by omega) _ _, (c4.off (by omega) _ _).set 3 _ (by simp), (hr1.out.setCell (by simp) _).setCell (by simp; omega) _⟩
  clear hV c1 c2 c3 c4 hr1
  have p1 := d1.four
  have p3 := d3.four
  have p4 := d4.four
  have f3 := d3.four_free
  have hz := four_bools0
  have heq := four_eq
  go_region
  go_wp2_with fail
  generalize hW5 : World.drew (World.setCell (World.setCell (World.setCell (World.setCell V4 _ _) _ _) _ _) _ _) = W5
  obtain ⟨k3, hq6⟩ : Box W5 (w.heap.size + 1 + 1) [.int .i64 (cutI (a - L)), .int .i64 (cutI (b - T)), .int .i64 (cutI (m + L + R)), .int .i64 (cutI (n + T + B))] ∧ Qt w.heap.size w W5 := by
    subst hW5
    exact ⟨((((d3.set 0 _ (by simp)).set 1 _ (by simp)).set 2 _ (by simp)).set 3 _ (by simp)).drew, ((((hv1.setCell (by simp; omega) _).setCell (by simp; omega) _).setCell (by simp; omega) _).setCell (by simp; omega) _).drew⟩
  obtain ⟨q0, q1, q2, q3⟩ := k3.four
  clear hW5 p1 p3 p4 f3 d1 d3 d4
  exact bodyPost_ret (v := .tuple #[.agg #[.int .i64 (cutI (a - L)), .int .i64 (cutI (b - T)), .int .i64 (cutI (m + L + R)), .int .i64 (cutI (n + T + B))], .bool (farI (a - L) || farI (b - T) || farI (m + L + R) || farI (n + T + B))]) (by simp [results, Try.results15, go_sem, q0, q1, q2, q3]) rfl ⟨rfl, hq6⟩

theorem grow_any (a b m n T R B L : Int) (w : World) (h : RectOk a b m n) (h' : RectOk T R B L) :
    Calls Try.prog 15 #[.agg #[.int .i64 a, .int .i64 b, .int .i64 m, .int .i64 n], .agg #[.int .i64 T, .int .i64 R, .int .i64 B, .int .i64 L]] w fun e w' => e = .returned (.tuple #[.agg #[.int .i64 (cutI (a - L)), .int .i64 (cutI (b - T)), .int .i64 (cutI (m + L + R)), .int .i64 (cutI (n + T + B))], .bool (growFar a b m n T R B L)]) ∧ Qt w.heap.size w w' :=
  grow_h a b m n T R B L w (Lib.hid h) (Lib.hid h')
end Go.Proofs.Ytflehhepnmcdeaa
