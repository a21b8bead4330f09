/-
  Contracts of the document's answer for edges: minus, add, less of numbers of any size.
-/
import Derived.Test.YtflehhepnmcdeaaMul
import Derived.Test.YtflehhepnmcdeaaLater
namespace Go.Proofs.Ytflehhepnmcdeaa
open Go.RowKit

/-- A big that is stored into a result's own block. -/
theorem big_put {w V : World} {g L k c : Nat} {m : Bool} {E : Option Addr} {l : List Bool} {x : Int} {a b : Value} (hB : BCell V g a b) (hw : Below w.heap.size w V) (hg : w.heap.size ≤ g) (hk : k ≤ L) (hv : sgn m l = x) (ht : TopS m l) (hS : SlB V E k c l) (hF : Fresh (g + 1) E) {V' : World}
    (e : (V.setCell ⟨g, 0, none⟩ (.bool m)).setCell ⟨g, 1, none⟩ (.slice E k c) = V') :
    V'.cell? ⟨g, 0, none⟩ = some (.bool m) ∧ V'.cell? ⟨g, 1, none⟩ = some (.slice E k c) ∧ MadeBig w x L (.returned (.agg #[.bool m, .slice E k c])) V' := by
  subst e
  have hB' := (hB.set0 (.bool m)).set1 (.slice E k c)
  have hne : ∀ a, E = some a → a.block ≠ g := fun a ha => by have := hF a ha; omega
  exact ⟨hB'.c0, hB'.c1, m, E, k, c, l, rfl, hk, hv, ht, (hS.setOther _ hne _).setOther _ hne _, (hw.setCell (by simpa using hg) _).setCell (by simpa using hg) _, hF.mono (by omega)⟩

theorem big_box (w : World) (a b : Value) (W : World) (h : w.alloc (.cells #[a, b] 59) = W) : BCell W w.heap.size a b ∧ Below w.heap.size w W ∧ W.heap.size = w.heap.size + 1 := by
  subst h
  exact ⟨BCell.new w a b _, (Below.refl _ _).alloc (Nat.le_refl _) _, by simp⟩

set_option maxRecDepth 100000 in
set_option maxHeartbeats 800000 in
theorem rminus_h (x : Int) (w : World) (hx : Hid (I64 x)) :
    Calls Try.prog 34 #[.int .i64 x] w fun e w' => MadeBig w (-x) 128 e w' := by
  go_enter Try.func34, Try.ntmps34
  go_wp2_with fail
  generalize hW : World.alloc w _ = W
  obtain ⟨b0, hb0, hs0⟩ := big_box _ _ _ W hW
  clear hW
  have hs0 := Lib.hid hs0
  refine (of_any (-1) W (by constructor <;> decide)).mono ?_; rintro e w1 ⟨m1, E1, k1, c1, l1, rfl, hk1, hv1, ht1, hS1, hb1, hf1⟩
  have b1 := b0.below hb1 b0.lt
  have hv1 := Lib.hid hv1
  clear ht1
  go_wp2_with fail
  refine (of_any x w1 hx.out).mono ?_; rintro e w2 ⟨m2, E2, k2, c2, l2, rfl, hk2, hv2, ht2, hS2, hb2, hf2⟩
  have b2 := b1.below hb2 b1.lt
  have hv2 := Lib.hid hv2
  have hS1 := hS1.keep hb2
  clear ht2
  go_wp2_with fail
  refine (mul_any m1 m2 E1 E2 k1 k2 c1 c2 l1 l2 w2 hS1 hS2 (by omega) (by omega)).mono ?_; rintro e w3 ⟨m3, E3, k3, c3, l3, rfl, hk3, hv3, ht3, hS3, hb3, hf3⟩
  have b3 := b2.below hb3 b2.lt
  have hv3 := Lib.hid hv3
  have hw3 := Lib.hid (hb0.trans ((hb1.trans (hb2.mono hb1.size)).trans (hb3.mono (Nat.le_trans hb1.size hb2.size)) |>.mono (by rw [hs0.out]; omega)))
  have hF := hf3.mono (C := w.heap.size + 1) (by have := hb1.size; have := hb2.size; have := hs0.out; omega)
  have q0 := b3.c0
  have q1 := b3.c1
  have f0 := b3.f0
  have f1 := b3.f1
  clear b0 b1 b2 hb0 hb1 hb2 hb3 hS1 hS2 hf1 hf2
  go_wp2_with fail
  generalize hV : World.setCell (World.setCell w3 _ _) _ _ = V'
  obtain ⟨p0, p1, hM⟩ := big_put (L := 128) b3 hw3.out (Nat.le_refl _) (by omega) (show sgn m3 l3 = -x by rw [hv3.out, hv1.out, hv2.out]; omega) ht3 hS3 hF hV
  clear hV q0 q1 f0 f1
  exact bodyPost_ret (v := .agg #[.bool m3, .slice E3 k3 c3]) (by simp [results, Try.results34, go_sem, p0, p1]) rfl hM
theorem rminus_any (x : Int) (w : World) (hx : I64 x) : Calls Try.prog 34 #[.int .i64 x] w fun e w' => MadeBig w (-x) 128 e w' := rminus_h x w (Lib.hid hx)

set_option maxRecDepth 100000 in
set_option maxHeartbeats 800000 in
theorem radd_h (x y : Int) (w : World) (hx : Hid (I64 x)) (hy : Hid (I64 y)) :
    Calls Try.prog 35 #[.int .i64 x, .int .i64 y] w fun e w' => MadeBig w (x + y) 65 e w' := by
  go_enter Try.func35, Try.ntmps35
  go_wp2_with fail
  generalize hW : World.alloc w _ = W
  obtain ⟨b0, hb0, hs0⟩ := big_box _ _ _ W hW
  clear hW
  have hs0 := Lib.hid hs0
  refine (of_any x W hx.out).mono ?_; rintro e w1 ⟨m1, E1, k1, c1, l1, rfl, hk1, hv1, ht1, hS1, hb1, hf1⟩
  have b1 := b0.below hb1 b0.lt
  have hv1 := Lib.hid hv1
  clear ht1
  go_wp2_with fail
  refine (of_any y w1 hy.out).mono ?_; rintro e w2 ⟨m2, E2, k2, c2, l2, rfl, hk2, hv2, ht2, hS2, hb2, hf2⟩
  have b2 := b1.below hb2 b1.lt
  have hv2 := Lib.hid hv2
  have hS1 := hS1.keep hb2
  clear ht2
  go_wp2_with fail
  refine (add_any m1 m2 E1 E2 k1 k2 c1 c2 l1 l2 w2 hS1 hS2 (by omega) (by omega)).mono ?_; rintro e w3 ⟨m3, E3, k3, c3, l3, rfl, hk3, hv3, ht3, hS3, hb3, hf3⟩
  have b3 := b2.below hb3 b2.lt
  have hv3 := Lib.hid hv3
  have hw3 := Lib.hid (hb0.trans ((hb1.trans (hb2.mono hb1.size)).trans (hb3.mono (Nat.le_trans hb1.size hb2.size)) |>.mono (by rw [hs0.out]; omega)))
  have hF := hf3.mono (C := w.heap.size + 1) (by have := hb1.size; have := hb2.size; have := hs0.out; omega)
  have q0 := b3.c0
  have q1 := b3.c1
  have f0 := b3.f0
  have f1 := b3.f1
  clear b0 b1 b2 hb0 hb1 hb2 hb3 hS1 hS2 hf1 hf2
  go_wp2_with fail
  generalize hV : World.setCell (World.setCell w3 _ _) _ _ = V'
  obtain ⟨p0, p1, hM⟩ := big_put (L := 65) b3 hw3.out (Nat.le_refl _) (by omega) (show sgn m3 l3 = x + y by rw [hv3.out, hv1.out, hv2.out]) ht3 hS3 hF hV
  clear hV q0 q1 f0 f1
  exact bodyPost_ret (v := .agg #[.bool m3, .slice E3 k3 c3]) (by simp [results, Try.results35, go_sem, p0, p1]) rfl hM
theorem radd_any (x y : Int) (w : World) (hx : I64 x) (hy : I64 y) : Calls Try.prog 35 #[.int .i64 x, .int .i64 y] w fun e w' => MadeBig w (x + y) 65 e w' := radd_h x y w (Lib.hid hx) (Lib.hid hy)
end Go.Proofs.Ytflehhepnmcdeaa
