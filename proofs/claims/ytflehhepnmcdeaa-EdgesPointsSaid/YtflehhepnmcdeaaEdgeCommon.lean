/-
  Contracts of package edges: rest, hasPoints, common, Meet, Inside: what each answers for every input; nothing below changes.
-/
import Derived.Test.YtflehhepnmcdeaaRect
import Derived.Test.YtflehhepnmcdeaaSum
import Derived.Test.YtflehhepnmcdeaaBox
import Derived.Deep.RegionHeld3
import Derived.StillTailTactics
import Derived.BigGuard
namespace Go.Proofs.Ytflehhepnmcdeaa
open Go.RowKit

/-- How much of a stretch there is from a number on that is not ahead of it. -/
def restI (f l t : Int) : Int := if l ≤ t - f then 0 else f + l - t
/-- Of two stretches, what they share. -/
def sharedI (a m b n : Int) : Int := min (restI a m (max a b)) (restI b n (max a b))
def pointsB (m n : Int) : Bool := decide (0 < m) && decide (0 < n)
def meetB (a b m n a' b' m' n' : Int) : Bool := pointsB (sharedI a m a' m') (sharedI b n b' n')
def insideB (a b m n a' b' m' n' : Int) : Bool := !pointsB m n || (decide (a' ≤ a) && decide (a + m ≤ a' + m') && decide (b' ≤ b) && decide (b + n ≤ b' + n'))

theorem restI_bd (f l t : Int) (h : f ≤ t) (hl : I64 l) : I64 (restI f l t) := by unfold restI; unfold I64 at *; split <;> omega
theorem sharedI_bd (a m b n : Int) (hm : I64 m) (hn : I64 n) : I64 (sharedI a m b n) := by
  have h1 := restI_bd a m (max a b) (by omega) hm
  have h2 := restI_bd b n (max a b) (by omega) hn
  unfold sharedI; unfold I64 at *; omega

set_option maxRecDepth 100000 in
theorem rest_any (f l t : Int) (w : World) (hf : I64 f) (hl : I64 l) (ht : I64 t) (h : f ≤ t) :
    Calls Try.prog 53 #[.int .i64 f, .int .i64 l, .int .i64 t] w fun e w' => e = .returned (.int .i64 (restI f l t)) ∧ w = w' := by
  obtain ⟨hf, hf'⟩ := hf
  obtain ⟨hl, hl'⟩ := hl
  obtain ⟨ht, ht'⟩ := ht
  have hg : Hid (IntKind.u64.wrap (IntKind.u64.wrap t - IntKind.u64.wrap f) = t - f) := Lib.hid (by simp only [IntKind.wrap_u64]; omega)
  by_cases h0 : l ≤ 0
  · have hr : restI f l t = 0 := if_pos (by omega)
    rw [hr]; clear hr
    go_enter Try.func53, Try.ntmps53
    go_wp2_with fail
    go_ret
    exact ⟨rfl, rfl⟩
  · have hl0 : IntKind.u64.wrap l = l := by simp only [IntKind.wrap_u64]; omega

    by_cases h1 : l ≤ t - f
    · have hr : restI f l t = 0 := if_pos h1
      rw [hr]; clear hr
      have hd : decide (l ≤ IntKind.u64.wrap (IntKind.u64.wrap t - IntKind.u64.wrap f)) = true := by rw [hg.out]; simpa using h1
      go_enter Try.func53, Try.ntmps53
      go_wp2_with fail
      go_ret
      exact ⟨rfl, rfl⟩
    · have hr : restI f l t = f + l - t := if_neg h1
      rw [hr]; clear hr
      have hd : decide (l ≤ IntKind.u64.wrap (IntKind.u64.wrap t - IntKind.u64.wrap f)) = false := by rw [hg.out]; simpa using h1
      go_enter Try.func53, Try.ntmps53
      go_wp2_with fail
      go_ret
      refine ⟨ret_int ?_, rfl⟩

      rw [hg.out]
      simp only [wrap64]
      omega

set_option maxRecDepth 100000 in
theorem points_any (a b m n : Int) (w : World) :
    Calls Try.prog 54 #[.agg #[.int .i64 a, .int .i64 b, .int .i64 m, .int .i64 n]] w fun e w' => e = .returned (.bool (pointsB m n)) ∧ Qt w.heap.size w w' := by
  unfold pointsB
  rcases hm : decide (0 < m) with _ | _ <;> rcases hn : decide (0 < n) with _ | _
  all_goals
    go_enter Try.func54, Try.ntmps54
    go_wp2_with fail
    go_ret
    exact ⟨rfl, (Qt.refl _ _).alloc (Nat.le_refl _) _ _⟩

theorem common_boxes (w : World) (x1 x2 x3 x4 : List Value) (W : World)
    (h : (((w.alloc (.cells x1.toArray 33)).alloc (.cells x2.toArray 33)).alloc (.cells x3.toArray 33)).alloc (.cells x4.toArray 33) = W) :
    Box W w.heap.size x1 ∧ Box W (w.heap.size + 1) x2 ∧ Box W (w.heap.size + 1 + 1) x3 ∧ Box W (w.heap.size + 1 + 1 + 1) x4 ∧ Qt w.heap.size w W ∧ W.heap.size = w.heap.size + 4 := by
  subst h
  refine ⟨(((Box.new w x1 _).alloc _).alloc _).alloc _, ?_, ?_, ?_, ((((Qt.refl _ _).alloc (Nat.le_refl _) _ _).alloc (by simp) _ _).alloc (by simp; omega) _ _).alloc (by simp; omega) _ _, by simp⟩
  · simpa using ((Box.new (w.alloc (.cells x1.toArray 33)) x2 33).alloc _).alloc _
  · simpa using (Box.new ((w.alloc (.cells x1.toArray 33)).alloc (.cells x2.toArray 33)) x3 33).alloc _
  · simpa using Box.new (((w.alloc (.cells x1.toArray 33)).alloc (.cells x2.toArray 33)).alloc (.cells x3.toArray 33)) x4 33

theorem six {W : World} {g h k : Nat} {a b c d a' b' c' d' x y z u : Value} (b1 : Box W g [a, b, c, d]) (b2 : Box W h [a', b', c', d']) (b4 : Box W k [x, y, z, u]) :
    W.cell? ⟨g, 0, none⟩ = some a ∧ W.cell? ⟨g, 2, none⟩ = some c ∧ W.cell? ⟨h, 0, none⟩ = some a' ∧ W.cell? ⟨h, 2, none⟩ = some c' ∧ W.cell? ⟨k, 0, none⟩ = some x := ⟨b1.cell 0 _ rfl, b1.cell 2 _ rfl, b2.cell 0 _ rfl, b2.cell 2 _ rfl, b4.cell 0 _ rfl⟩
theorem six' {W : World} {g h k : Nat} {a b c d a' b' c' d' x y z u : Value} (b1 : Box W g [a, b, c, d]) (b2 : Box W h [a', b', c', d']) (b4 : Box W k [x, y, z, u]) :
    W.cell? ⟨g, 1, none⟩ = some b ∧ W.cell? ⟨g, 3, none⟩ = some d ∧ W.cell? ⟨h, 1, none⟩ = some b' ∧ W.cell? ⟨h, 3, none⟩ = some d' ∧ W.cell? ⟨k, 1, none⟩ = some y := ⟨b1.cell 1 _ rfl, b1.cell 3 _ rfl, b2.cell 1 _ rfl, b2.cell 3 _ rfl, b4.cell 1 _ rfl⟩

/-- What two rectangles share. -/
def commonV (a b m n a' b' m' n' : Int) : Value :=
  if meetB a b m n a' b' m' n' then .agg #[.int .i64 (max a a'), .int .i64 (max b b'), .int .i64 (sharedI a m a' m'), .int .i64 (sharedI b n b' n')] else .agg #[.int .i64 0, .int .i64 0, .int .i64 0, .int .i64 0]

set_option maxRecDepth 100000 in
theorem common_h (a b m n a' b' m' n' : Int) (w : World) (hm : Hid (I64 m)) (hn : Hid (I64 n)) (hm' : Hid (I64 m')) (hn' : Hid (I64 n')) (ha : Hid (I64 a)) (hb : Hid (I64 b)) (ha' : Hid (I64 a')) (hb' : Hid (I64 b')) :
    Calls Try.prog 36 #[.agg #[.int .i64 a, .int .i64 b, .int .i64 m, .int .i64 n], .agg #[.int .i64 a', .int .i64 b', .int .i64 m', .int .i64 n']] w fun e w' => e = .returned (commonV a b m n a' b' m' n') ∧ Qt w.heap.size w w' := by
  have hxy := rect_xy
  have hX : Hid (I64 (max a a')) := Lib.hid (by have := ha.out; have := ha'.out; unfold I64 at *; omega)
  have hY : Hid (I64 (max b b')) := Lib.hid (by have := hb.out; have := hb'.out; unfold I64 at *; omega)
  have l1 : Hid (a ≤ max a a') := Lib.hid (by omega)
  have l2 : Hid (a' ≤ max a a') := Lib.hid (by omega)
  have l3 : Hid (b ≤ max b b') := Lib.hid (by omega)
  have l4 : Hid (b' ≤ max b b') := Lib.hid (by omega)
  go_enter Try.func36, Try.ntmps36
  go_wp2_with fail
  generalize hW : World.alloc (World.alloc (World.alloc (World.alloc w _) _) _) _ = W
  obtain ⟨b1, b2, b3, b4, hq, hs0⟩ := common_boxes w [_, _, _, _] [_, _, _, _] [_, _, _, _] [_, _, _, _] W hW
  clear hW
  have hs := Lib.hid hs0
  clear hs0
  have f1 := b4.four_free.2.2.1
  have c1 := b4.four.2.2.1
  go_region_held3 (fun w' => w'.cell? ⟨w.heap.size, 0, none⟩ = some (.int .i64 a) ∧ w'.cell? ⟨w.heap.size, 2, none⟩ = some (.int .i64 m) ∧ w'.cell? ⟨w.heap.size + 1, 0, none⟩ = some (.int .i64 a') ∧ w'.cell? ⟨w.heap.size + 1, 2, none⟩ = some (.int .i64 m') ∧ w'.cell? ⟨w.heap.size + 1 + 1 + 1, 0, none⟩ = some (.int .i64 (max a a')))
    (first | exact six b1.drew b2.drew b4.drew | exact six (b1.drew.off (by omega) _ _) (b2.drew.off (by omega) _ _) (b4.drew.set 2 _ (by simp)) | (go_keep; done))
    (first | (go_at_call 53; with_reducible refine (rest_any a m _ _ ha.out hm.out hX.out l1.out).mono ?_; rintro e w1 ⟨rfl, rfl⟩)
           | (go_at_call 53; with_reducible refine (rest_any a' m' _ _ ha'.out hm'.out hX.out l2.out).mono ?_; rintro e w1 ⟨rfl, rfl⟩))
  have hS1 : Hid (sharedI a m a' m' = min (restI a m (max a a')) (restI a' m' (max a a'))) := Lib.hid rfl
  have hS2 : Hid (sharedI b n b' n' = min (restI b n (max b b')) (restI b' n' (max b b'))) := Lib.hid rfl
  generalize min (restI a m (max a a')) (restI a' m' (max a a')) = S1 at *
  go_wp2_with fail
  generalize hW2 : World.drew (World.setCell W _ _) = W2
  obtain ⟨d1, d2, d3, d4, hq2⟩ : Box W2 w.heap.size [.int .i64 a, .int .i64 b, .int .i64 m, .int .i64 n] ∧ Box W2 (w.heap.size + 1) [.int .i64 a', .int .i64 b', .int .i64 m', .int .i64 n'] ∧
      Box W2 (w.heap.size + 1 + 1) [.int .i64 0, .int .i64 0, .int .i64 0, .int .i64 0] ∧ Box W2 (w.heap.size + 1 + 1 + 1) [.int .i64 (max a a'), .int .i64 (max b b'), .int .i64 S1, .int .i64 0] ∧ Qt w.heap.size w W2 := by
    subst hW2
    exact ⟨(b1.off (by omega) _ _).drew, (b2.off (by omega) _ _).drew, (b3.off (by omega) _ _).drew, (b4.set 2 _ (by simp)).drew, (hq.setCell (by simp; omega) _).drew⟩
  clear hW2 b1 b2 b3 b4 hq f1 c1
  have f1 := d4.four_free.2.2.2
  have c1 := d4.four.2.2.2
  go_region_held3 (fun w' => w'.cell? ⟨w.heap.size, 1, none⟩ = some (.int .i64 b) ∧ w'.cell? ⟨w.heap.size, 3, none⟩ = some (.int .i64 n) ∧ w'.cell? ⟨w.heap.size + 1, 1, none⟩ = some (.int .i64 b') ∧ w'.cell? ⟨w.heap.size + 1, 3, none⟩ = some (.int .i64 n') ∧ w'.cell? ⟨w.heap.size + 1 + 1 + 1, 1, none⟩ = some (.int .i64 (max b b')))
    (first | exact six' d1.drew d2.drew d4.drew | exact six' (d1.drew.off (by omega) _ _) (d2.drew.off (by omega) _ _) (d4.drew.set 3 _ (by simp)) | (go_keep; done))
    (first | (go_at_call 53; with_reducible refine (rest_any b n _ _ hb.out hn.out hY.out l3.out).mono ?_; rintro e w1 ⟨rfl, rfl⟩)
           | (go_at_call 53; with_reducible refine (rest_any b' n' _ _ hb'.out hn'.out hY.out l4.out).mono ?_; rintro e w1 ⟨rfl, rfl⟩))
  generalize min (restI b n (max b b')) (restI b' n' (max b b')) = S2 at *
  generalize hW3 : World.drew (World.setCell W2 _ _) = W3
  obtain ⟨e3, e4, hq3⟩ : Box W3 (w.heap.size + 1 + 1) [.int .i64 0, .int .i64 0, .int .i64 0, .int .i64 0] ∧ Box W3 (w.heap.size + 1 + 1 + 1) [.int .i64 (max a a'), .int .i64 (max b b'), .int .i64 S1, .int .i64 S2] ∧ Qt w.heap.size w W3 := by
    subst hW3
    exact ⟨(d3.off (by omega) _ _).drew, (d4.set 3 _ (by simp)).drew, (hq2.setCell (by simp; omega) _).drew⟩
  clear hW3 d1 d2 d3 d4 hq2 f1 c1
  obtain ⟨q0, q1, q2, q3⟩ := e4.four
  go_wp2_with fail
  refine (points_any _ _ _ _ _).mono ?_; rintro e w4 ⟨rfl, hq4⟩
  have g3 := e3.below hq4.1
  have g4 := e4.below hq4.1
  have hq5 := Lib.hid (hq3.trans (hq4.mono hq3.1.size))
  have hlt := e3.lt
  clear e3 e4 hq3 hq4 q0 q1 q2 q3
  have q0 := g4.four
  have q1 := g3.four
  have q2 := g3.four_free
  have hz := rect_zero
  rcases hp : pointsB S1 S2 with _ | _
  · go_wp2_with fail
    generalize hW5 : World.setCell (World.setCell (World.setCell (World.setCell w4 _ _) _ _) _ _) _ _ = W5
    obtain ⟨k3, hq6⟩ : Box W5 (w.heap.size + 1 + 1) [.int .i64 0, .int .i64 0, .int .i64 0, .int .i64 0] ∧ Qt w.heap.size w W5 := by
      subst hW5
      exact ⟨(((g3.set 0 _ (by simp)).set 1 _ (by simp)).set 2 _ (by simp)).set 3 _ (by simp), (((hq5.out.setCell (by simp; omega) _).setCell (by simp; omega) _).setCell (by simp; omega) _).setCell (by simp; omega) _⟩
    obtain ⟨q0, q1, q2, q3⟩ := k3.four
    clear hW5
    refine bodyPost_ret (v := .agg #[.int .i64 0, .int .i64 0, .int .i64 0, .int .i64 0]) (by simp [results, Try.results36, go_sem, q0, q1, q2, q3]) rfl ⟨?_, hq6⟩
    unfold commonV meetB; rw [hS1.out, hS2.out, hp]; rfl
  · go_wp2_with fail
    generalize hW5 : World.setCell (World.setCell (World.setCell (World.setCell w4 _ _) _ _) _ _) _ _ = W5
    obtain ⟨k3, hq6⟩ : Box W5 (w.heap.size + 1 + 1) [.int .i64 (max a a'), .int .i64 (max b b'), .int .i64 S1, .int .i64 S2] ∧ Qt w.heap.size w W5 := by
      subst hW5
      exact ⟨(((g3.set 0 _ (by simp)).set 1 _ (by simp)).set 2 _ (by simp)).set 3 _ (by simp), (((hq5.out.setCell (by simp; omega) _).setCell (by simp; omega) _).setCell (by simp; omega) _).setCell (by simp; omega) _⟩
    obtain ⟨q0, q1, q2, q3⟩ := k3.four
    clear hW5
    refine bodyPost_ret (v := .agg #[.int .i64 (max a a'), .int .i64 (max b b'), .int .i64 S1, .int .i64 S2]) (by simp [results, Try.results36, go_sem, q0, q1, q2, q3]) rfl ⟨?_, hq6⟩
    unfold commonV meetB; rw [hS1.out, hS2.out, hp]; rfl
end Go.Proofs.Ytflehhepnmcdeaa
