/-
  The contract of the statements' anchor of stage 2: it answers true; of what was in memory nothing changes.
-/
import Derived.Test.YtflehhepnmcdeaaSides
namespace Go.Proofs.Ytflehhepnmcdeaa
open Go.RowKit

def wSides : List Four := [⟨1, 2, 3, 4⟩, ⟨10, 20, 30, 40⟩]
def wRects : List Four := [⟨0, 0, 1, 1⟩, ⟨5, 5, 1, 1⟩, ⟨99, 99, 0, 9⟩]
theorem wsides_ok : ∀ r ∈ wSides, FourOk r := by
  intro r hr; simp [wSides] at hr; rcases hr with rfl | rfl <;> (refine ⟨?_, ?_, ?_, ?_⟩ <;> (constructor <;> decide))
theorem wrects_ok : ∀ r ∈ wRects, FourOk r := by
  intro r hr; simp [wRects] at hr; rcases hr with rfl | rfl | rfl <;> (refine ⟨?_, ?_, ?_, ?_⟩ <;> (constructor <;> decide))
theorem w1 : (cutI (sideI wSides 0) = 11 ∧ cutI (sideI wSides 1) = 22 ∧ cutI (sideI wSides 2) = 33 ∧ cutI (sideI wSides 3) = 44) ∧ farI (sideI wSides 0) = false ∧ farI (sideI wSides 1) = false ∧ farI (sideI wSides 2) = false ∧ farI (sideI wSides 3) = false := by decide
theorem w2 : cutI (acrossI wSides) = 66 ∧ cutI (downI wSides) = 44 ∧ farI (acrossI wSides) = false ∧ farI (downI wSides) = false := by decide
theorem w3 : cutI (5 - 4) = 1 ∧ cutI (5 - 1) = 4 ∧ cutI (10 + 4 + 2) = 16 ∧ cutI (10 + 1 + 3) = 14 ∧ growFar 5 5 10 10 1 2 3 4 = false := by decide
theorem w4 : cutI (coverX (wRects.filter somePts)) = 0 ∧ cutI (coverY (wRects.filter somePts)) = 0 ∧ cutI (coverW (wRects.filter somePts)) = 6 ∧ cutI (coverH (wRects.filter somePts)) = 6 ∧ coverFar (wRects.filter somePts) = false := by decide
theorem w5 : meetB 0 0 2 2 1 1 2 2 = true ∧ insideB 1 1 2 2 0 0 2 2 = false := by decide
theorem small64 (x : Int) (h : 0 ≤ x ∧ x ≤ 100) : I64 x := by unfold I64; omega

set_option maxRecDepth 100000 in
set_option maxHeartbeats 1600000 in
theorem works2_any (w : World) : Calls Try.prog 10 #[] w fun e w' => e = .returned (.bool true) ∧ Below w.heap.size w w' := by
  have s1 := sides_of
  have r1 := rect_all
  have r2 := rect_wh
  have r3 := rect_xyh
  go_enter Try.func10, Try.ntmps10
  go_wp2_with fail
  generalize hW : World.alloc w _ = W1
  obtain ⟨hL, hb1⟩ : Sl fourE W1 (some ⟨w.heap.size, 0, none⟩) 2 2 wSides ∧ Below w.heap.size w W1 := by
    subst hW
    exact ⟨Sl.lit w wSides _, (Below.refl _ _).alloc (Nat.le_refl _) _⟩
  clear hW
  refine (sides_any _ 2 2 wSides W1 hL wsides_ok (by omega)).mono ?_; rintro e v1 ⟨rfl, hb2⟩
  rw [w1.1.1, w1.1.2.1, w1.1.2.2.1, w1.1.2.2.2, w1.2.1, w1.2.2.1, w1.2.2.2.1, w1.2.2.2.2]
  have hb3 := Lib.hid (hb1.trans (hb2.mono hb1.size))
  clear hL hb1 hb2
  go_wp2_with fail
  generalize hW : World.alloc (World.alloc v1 _) _ = W2
  obtain ⟨hL, hb1, bs⟩ : Sl fourE W2 (some ⟨v1.heap.size + 1, 0, none⟩) 2 2 wSides ∧ Below w.heap.size w W2 ∧ Box W2 v1.heap.size [.int .i64 11, .int .i64 22, .int .i64 33, .int .i64 44] := by
    subst hW
    refine ⟨?_, (hb3.out.alloc hb3.out.size _).alloc (by have := hb3.out.size; simp; omega) _, (Box.new v1 [_, _, _, _] _).alloc _⟩
    simpa [wSides, fourE] using Sl.lit (f := fourE) (v1.alloc (.cells #[.int .i64 11, .int .i64 22, .int .i64 33, .int .i64 44] 24)) wSides 24
  clear hW hb3
  refine (across_any _ 2 2 wSides W2 hL wsides_ok (by omega)).mono ?_; rintro e v2 ⟨rfl, hb2⟩
  rw [w2.1, w2.2.1, w2.2.2.1, w2.2.2.2]
  have bs := bs.below hb2
  have hb3 := Lib.hid (hb1.trans (hb2.mono hb1.size))
  generalize v1.heap.size = g1 at *
  clear hL hb1 hb2
  go_wp2_with fail
  refine (grow_any 5 5 10 10 1 2 3 4 _ ⟨small64 _ (by omega), small64 _ (by omega), small64 _ (by omega), small64 _ (by omega)⟩ ⟨small64 _ (by omega), small64 _ (by omega), small64 _ (by omega), small64 _ (by omega)⟩).mono ?_; rintro e v3 ⟨rfl, hq2⟩
  rw [w3.1, w3.2.1, w3.2.2.1, w3.2.2.2.1, w3.2.2.2.2]
  have bs := bs.below hq2.1
  have hb4 := Lib.hid (hb3.out.trans (hq2.1.mono hb3.out.size))
  clear hq2 hb3
  go_wp2_with fail
  generalize hW : World.alloc (World.alloc v3 _) _ = W4
  obtain ⟨hL, hb1, bs, br⟩ : Sl fourE W4 (some ⟨v3.heap.size + 1, 0, none⟩) 3 3 wRects ∧ Below w.heap.size w W4 ∧ Box W4 g1 [.int .i64 11, .int .i64 22, .int .i64 33, .int .i64 44] ∧ Box W4 v3.heap.size [.int .i64 1, .int .i64 4, .int .i64 16, .int .i64 14] := by
    subst hW
    refine ⟨?_, (hb4.out.alloc hb4.out.size _).alloc (by have := hb4.out.size; simp; omega) _, (bs.alloc _).alloc _, (Box.new v3 [_, _, _, _] _).alloc _⟩
    simpa [wRects, fourE] using Sl.lit (f := fourE) (v3.alloc (.cells #[.int .i64 1, .int .i64 4, .int .i64 16, .int .i64 14] 33)) wRects 33
  clear hW hb4
  refine (cover_any _ 3 3 wRects W4 hL wrects_ok (by omega)).mono ?_; rintro e v5 ⟨rfl, hb2⟩
  rw [w4.1, w4.2.1, w4.2.2.1, w4.2.2.2.1, w4.2.2.2.2]
  have bs := bs.below hb2
  have br := br.below hb2
  have hb3 := Lib.hid (hb1.trans (hb2.mono hb1.size))
  generalize v3.heap.size = g3 at *
  clear hL hb1 hb2
  have q1 := bs.four
  have q2 := br.four
  have h1 := rect_eq
  have h2 := sides_eq
  have lt1 := bs.lt
  have lt2 := br.lt
  go_wp2_with fail
  refine (meet_any 0 0 2 2 1 1 2 2 _ ⟨small64 _ (by omega), small64 _ (by omega), small64 _ (by omega), small64 _ (by omega)⟩ ⟨small64 _ (by omega), small64 _ (by omega), small64 _ (by omega), small64 _ (by omega)⟩).mono ?_; rintro e v6 ⟨rfl, hq6⟩
  rw [w5.1]
  have hb5 := Lib.hid ((hb3.out.alloc hb3.out.size (.cells #[.int .i64 0, .int .i64 0, .int .i64 6, .int .i64 6] 33)).trans (hq6.1.mono (by have := hb3.out.size; simp; omega)))
  clear hq6 hb3 q1 q2
  go_wp2_with fail
  refine (inside_any 1 1 2 2 0 0 2 2 _ ⟨small64 _ (by omega), small64 _ (by omega), small64 _ (by omega), small64 _ (by omega)⟩ ⟨small64 _ (by omega), small64 _ (by omega), small64 _ (by omega), small64 _ (by omega)⟩).mono ?_; rintro e v7 ⟨rfl, hq7⟩
  rw [w5.2]
  have hb6 := Lib.hid (hb5.out.trans (hq7.1.mono hb5.out.size))
  clear hq7 hb5
  go_wp2_with fail
  go_ret
  exact ⟨rfl, hb6.out⟩
end Go.Proofs.Ytflehhepnmcdeaa
