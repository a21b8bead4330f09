/-
  To meet, to be inside and to cover, told point by point of small rectangles: for every input, no conditions.
-/
import Derived.Test.YtflehhepnmcdeaaWorks2
import Derived.Test.YtflehhepnmcdeaaView4
import Derived.Test.YtflehhepnmcdeaaLaw
import Derived.Test.YtflehhepnmcdeaaPoints
import Derived.Test.YtflehhepnmcdeaaLater
import Derived.Test.YtflehhepnmcdeaaHolds
import Derived.Deep.DeepCutAuto
import Derived.Deep.RegionHeld3
import Derived.ProofKit
import Derived.OpenShut
import Derived.BigGuard
namespace Go.Proofs.Ytflehhepnmcdeaa.lawEdgesPoints
open Go.ChangeShapes Go.WideShapes Go.ChangeAt Go.RowKit Go.Proofs.Ytflehhepnmcdeaa
set_option linter.unusedVariables false

theorem own : ownKnob Try.prog.godebug = none := by kernel_rfl

theorem two_boxes (w : World) (x1 x2 : List Value) (t1 t2 : TypeId) (W : World) (h : (w.alloc (.cells x1.toArray t1)).alloc (.cells x2.toArray t2) = W) : Box W w.heap.size x1 ∧ Box W (w.heap.size + 1) x2 ∧ Below w.heap.size w W := by
  subst h
  refine ⟨(Box.new w x1 _).alloc _, ?_, ((Below.refl _ _).alloc (Nat.le_refl _) _).alloc (by simp) _⟩
  simpa using Box.new (w.alloc (.cells x1.toArray t1)) x2 t2

/-- The two arguments lie in boxes of their own. -/
structure Two (W : World) (a b : Four) (w : World) : Prop where
  b1 : Box w W.heap.size (fourE a)
  b2 : Box w (W.heap.size + 1) (fourE b)
  hb : Below W.heap.size W w
theorem Two.below {W : World} {a b : Four} {w w' : World} (h : Two W a b w) (hb : Below w.heap.size w w') : Two W a b w' := ⟨h.b1.below hb, h.b2.below hb, h.hb.trans (hb.mono h.hb.size)⟩
theorem Two.cells {W : World} {a b : Four} {w : World} (h : Two W a b w) :
    ((w.cell? ⟨W.heap.size, 0, none⟩ = some (.int .i64 a.a) ∧ w.cell? ⟨W.heap.size, 1, none⟩ = some (.int .i64 a.b) ∧ w.cell? ⟨W.heap.size, 2, none⟩ = some (.int .i64 a.c) ∧ w.cell? ⟨W.heap.size, 3, none⟩ = some (.int .i64 a.d)) ∧
    (w.cell? ⟨W.heap.size + 1, 0, none⟩ = some (.int .i64 b.a) ∧ w.cell? ⟨W.heap.size + 1, 1, none⟩ = some (.int .i64 b.b) ∧ w.cell? ⟨W.heap.size + 1, 2, none⟩ = some (.int .i64 b.c) ∧ w.cell? ⟨W.heap.size + 1, 3, none⟩ = some (.int .i64 b.d))) ∧
    W.heap.size + 1 < w.heap.size ∧ W.heap.size < w.heap.size := ⟨⟨h.b1.four, h.b2.four⟩, h.b2.lt, h.b1.lt⟩
theorem Two.free {W : World} {a b : Four} {w : World} (h : Two W a b w) :
    (w.frozen? ⟨W.heap.size, 0, none⟩ = false ∧ w.frozen? ⟨W.heap.size, 1, none⟩ = false ∧ w.frozen? ⟨W.heap.size, 2, none⟩ = false ∧ w.frozen? ⟨W.heap.size, 3, none⟩ = false) ∧
    w.frozen? ⟨W.heap.size + 1, 0, none⟩ = false ∧ w.frozen? ⟨W.heap.size + 1, 1, none⟩ = false ∧ w.frozen? ⟨W.heap.size + 1, 2, none⟩ = false ∧ w.frozen? ⟨W.heap.size + 1, 3, none⟩ = false := ⟨h.b1.four_free, h.b2.four_free⟩
theorem Two.put1 {W : World} {a b : Four} {w V : World} (h : Two W a b w) (x : Four)
    (e : (((w.setCell ⟨W.heap.size, 0, none⟩ (.int .i64 x.a)).setCell ⟨W.heap.size, 1, none⟩ (.int .i64 x.b)).setCell ⟨W.heap.size, 2, none⟩ (.int .i64 x.c)).setCell ⟨W.heap.size, 3, none⟩ (.int .i64 x.d) = V) : Two W x b V := by
  subst e
  exact ⟨(((h.b1.set 0 _ (by simp [fourE])).set 1 _ (by simp [fourE])).set 2 _ (by simp [fourE])).set 3 _ (by simp [fourE]), (((h.b2.off (by omega) _ _).off (by omega) _ _).off (by omega) _ _).off (by omega) _ _,
    (((h.hb.setCell (by simp) _).setCell (by simp) _).setCell (by simp) _).setCell (by simp) _⟩
theorem Two.put2 {W : World} {a b : Four} {w V : World} (h : Two W a b w) (x : Four)
    (e : (((w.setCell ⟨W.heap.size + 1, 0, none⟩ (.int .i64 x.a)).setCell ⟨W.heap.size + 1, 1, none⟩ (.int .i64 x.b)).setCell ⟨W.heap.size + 1, 2, none⟩ (.int .i64 x.c)).setCell ⟨W.heap.size + 1, 3, none⟩ (.int .i64 x.d) = V) : Two W a x V := by
  subst e
  exact ⟨(((h.b1.off (by omega) _ _).off (by omega) _ _).off (by omega) _ _).off (by omega) _ _, (((h.b2.set 0 _ (by simp [fourE])).set 1 _ (by simp [fourE])).set 2 _ (by simp [fourE])).set 3 _ (by simp [fourE]),
    (((h.hb.setCell (by simp) _).setCell (by simp) _).setCell (by simp) _).setCell (by simp) _⟩

/-- What stays through the loops. -/
structure PW (W : World) (a b c : Four) (g r : Nat) (R K : List Bool) (w : World) : Prop where
  two : Two W a b w
  b3 : Box w g (fourE c)
  b4 : Box w r (R.map .bool)
  b5 : Box w (r + 1) (K.map .bool)
  hg : W.heap.size + 1 < g
  hr : g < r
theorem PW.below {W : World} {a b c : Four} {g r : Nat} {R K : List Bool} {w w' : World} (h : PW W a b c g r R K w) (hb : Below w.heap.size w w') : PW W a b c g r R K w' := ⟨h.two.below hb, h.b3.below hb, h.b4.below hb, h.b5.below hb, h.hg, h.hr⟩
theorem Two.start_ {W : World} {a b c : Four} {w V : World} (h : Two W a b w) (e : ((w.alloc (.cells (fourE c).toArray 33)).alloc (madeObj (.bool false) (40 * 1) 4)).alloc (madeObj (.bool false) (40 * 1) 4) = V) :
    PW W a b c w.heap.size (w.heap.size + 1) (List.replicate 40 false) (List.replicate 40 false) V := by
  subst e
  have e : madeObj (.bool false) (40 * 1) 4 = .cells ((List.replicate 40 false).map Value.bool).toArray 4 := by
    have h : madeCells #[Value.bool false] 40 = ((List.replicate 40 false).map Value.bool).toArray := by
      rw [List.map_replicate, ← toList_madeCells_one, Array.toArray_toList]
    rw [← h]; rfl
  rw [e]
  have hb : Below w.heap.size w (((w.alloc (.cells (fourE c).toArray 33)).alloc (.cells ((List.replicate 40 false).map Value.bool).toArray 4)).alloc (.cells ((List.replicate 40 false).map Value.bool).toArray 4)) :=
    (((Below.refl _ _).alloc (Nat.le_refl _) _).alloc (by rw [World.size_alloc]; omega) _).alloc (by rw [World.size_alloc, World.size_alloc]; omega) _
  refine ⟨h.below hb, ((Box.new w (fourE c) _).alloc _).alloc _, ?_, ?_, h.b2.lt, by omega⟩
  · have := (Box.new (w.alloc (.cells (fourE c).toArray 33)) ((List.replicate 40 false).map Value.bool) 4).alloc (.cells ((List.replicate 40 false).map Value.bool).toArray 4)
    rw [World.size_alloc] at this; exact this
  · have := Box.new ((w.alloc (.cells (fourE c).toArray 33)).alloc (.cells ((List.replicate 40 false).map Value.bool).toArray 4)) ((List.replicate 40 false).map Value.bool) 4
    rw [World.size_alloc, World.size_alloc] at this; exact this
theorem PW.mark {W : World} {a b c : Four} {g r : Nat} {R K : List Bool} {w V : World} (h : PW W a b c g r R K w) {i j : Nat} (hi : i < R.length) (hj : j < K.length)
    (e : (w.setCell ⟨r, i, none⟩ (.bool true)).setCell ⟨r + 1, j, none⟩ (.bool true) = V) : PW W a b c g r (R.set i true) (K.set j true) V := by
  subst e
  have hg := h.hg
  have hr := h.hr
  refine ⟨⟨(h.two.b1.off (by omega) _ _).off (by omega) _ _, (h.two.b2.off (by omega) _ _).off (by omega) _ _, (h.two.hb.setCell (by simp; omega) _).setCell (by simp; omega) _⟩, (h.b3.off (by omega) _ _).off (by omega) _ _, ?_, ?_, hg, hr⟩
  · rw [List.map_set]; exact (h.b4.set i (.bool true) (by rw [List.length_map]; exact hi)).off (by omega) _ _
  · rw [List.map_set]; exact (h.b5.off (by omega) _ _).set j (.bool true) (by rw [List.length_map]; exact hj)
theorem infoBool2 : (Try.prog.info? 4).map (fun i => (i.zero, i.size, i.bytes)) = some (some (.bool false), 1, 1) := by kernel_rfl

set_option maxRecDepth 200000 in
set_option maxHeartbeats 6400000 in
theorem walk_ (W : World) (a0 b0 : Four) :
    Calls Try.prog 6 #[.agg #[.int .i64 a0.a, .int .i64 a0.b, .int .i64 a0.c, .int .i64 a0.d], .agg #[.int .i64 b0.a, .int .i64 b0.b, .int .i64 b0.c, .int .i64 b0.d]] W fun e w' => e = .returned (.bool true) ∧ Below W.heap.size W w' := by
  have n1 := fun w => Lib.hid (small_any a0 w)
  have n2 := fun w => Lib.hid (small_any b0 w)
  have s1 := Lib.hid (small_sm a0)
  have s2 := Lib.hid (small_sm b0)
  generalize smallR a0 = a at *
  generalize smallR b0 = b at *
  have g1 := fun (A : Option Addr) (w : World) (h : Sl fourE w A 2 2 [a, b]) => Lib.hid (cover_mid A 2 2 [a, b] w h (by intro r hr; simp at hr; rcases hr with rfl | rfl; exact sm_mid s1.out; exact sm_mid s2.out) (by omega))
  have m1 := fun w => Lib.hid (meet_any a.a a.b a.c a.d b.a b.b b.c b.d w (mid_ok (sm_mid s1.out)) (mid_ok (sm_mid s2.out)))
  have i1 := fun w => Lib.hid (inside_any a.a a.b a.c a.d b.a b.b b.c b.d w (mid_ok (sm_mid s1.out)) (mid_ok (sm_mid s2.out)))
  have jb := Lib.hid (join_bd s1.out s2.out)
  have hin : Hid (∀ x y, (hasB a x y || hasB b x y) = true → hasB (join a b) x y = true) := Lib.hid (fun x y h => hasB_join h)
  have hfin : Hid (∀ C L R K, PI a b 30 (-9) C L R K → PFin (join a b) R K) := Lib.hid (fun C L R K h => pi_fin h s1.out s2.out)
  rw [cov_two] at g1
  generalize join a b = c at *
  have hA := fun x y w (hx : -9 ≤ x ∧ x < 30) (hy : -9 ≤ y ∧ y < 30) => Lib.hid (has_any a x y w (by have := s1.out.a; omega) (by have := s1.out.b; omega) (by omega) (by omega))
  have hB := fun x y w (hx : -9 ≤ x ∧ x < 30) (hy : -9 ≤ y ∧ y < 30) => Lib.hid (has_any b x y w (by have := s2.out.a; omega) (by have := s2.out.b; omega) (by omega) (by omega))
  have hC := fun x y w (hx : -9 ≤ x ∧ x < 30) (hy : -9 ≤ y ∧ y < 30) => Lib.hid (has_any c x y w jb.out.1 jb.out.2 (by omega) (by omega))
  have hmk := fun w => make_row (P := Try.prog) 43 4 (.bool false) 1 1 Try.underlying43 infoBool2 (by decide) 40 40 40 40 rfl rfl (Nat.le_refl _) (by decide) w
  go_enter Try.func6, Try.ntmps6
  go_wp2_with fail
  generalize hW : World.alloc (World.alloc W _) _ = V
  obtain ⟨b1, b2, hbV⟩ := two_boxes W [_, _, _, _] [_, _, _, _] _ _ V hW
  clear hW
  have bx : Two W a0 b0 V := ⟨b1, b2, hbV⟩
  clear b1 b2 hbV
  refine (n1 _).out.mono ?_; rintro e w1 ⟨rfl, hq⟩
  have bx := bx.below hq
  clear hq
  have p := bx.cells
  have pf := bx.free
  go_upto_region 2 with fail
  generalize hW : World.setCell (World.setCell (World.setCell (World.setCell w1 _ _) _ _) _ _) _ _ = V1
  have bx := bx.put1 a hW
  clear hW p pf
  have p := bx.cells
  have pf := bx.free
  go_wp2_with fail
  refine (n2 _).out.mono ?_; rintro e w2 ⟨rfl, hq⟩
  have bx := bx.below hq
  clear hq p pf
  have p := bx.cells
  have pf := bx.free
  go_upto_region 3 with fail
  generalize hW : World.setCell (World.setCell (World.setCell (World.setCell w2 _ _) _ _) _ _) _ _ = V2
  have bx := bx.put2 b hW
  clear hW p pf n1 n2
  have p := bx.cells
  go_wp2_with fail
  generalize hW : World.alloc V2 _ = V3
  obtain ⟨hL, hb1⟩ : Sl fourE V3 (some ⟨V2.heap.size, 0, none⟩) 2 2 [a, b] ∧ Below V2.heap.size V2 V3 := by
    subst hW
    exact ⟨Sl.lit V2 [a, b] _, (Below.refl _ _).alloc (Nat.le_refl _) _⟩
  clear hW p
  have bx := bx.below hb1
  refine (g1 _ _ hL).out.mono ?_; rintro e w3 ⟨rfl, hq⟩
  have bx := bx.below hq
  clear hq hL hb1 g1
  go_wp2_with fail
  generalize hW : World.alloc (World.alloc (World.alloc w3 _) _) _ = V4
  have hP := bx.start_ hW
  clear hW bx hmk
  generalize w3.heap.size = g at *
  have hst : Hid (∃ R K, PI a b (-9) (-9) false true R K ∧ PW W a b c g (g + 1) R K V4) := Lib.hid ⟨_, _, pi_start a b, hP⟩
  clear hP
  go_loopw [7, 8, 11] (fun vC vL vX wr => ∃ (x : Int) (C L : Bool), -9 ≤ x ∧ x ≤ 30 ∧ vX = .int .i64 x ∧ vC = .bool C ∧ vL = .bool L ∧ Hid (∃ R K, PI a b x (-9) C L R K ∧ PW W a b c g (g + 1) R K wr)) (fun _ _ vX _ => (30 - intOf vX).toNat)
  case atStart => exact ⟨-9, false, true, by omega, by omega, rfl, rfl, rfl, hst⟩
  case round =>
    obtain ⟨x, C, L, hx1, hx2, rfl, rfl, rfl, hinv⟩ := hrel
    clear hst
    by_cases hlt : x < 30
    · have hst := hinv
      clear hinv
      go_wp2_with fail
      go_loopw [7, 8, 12] (fun vC vL vY wr => ∃ (y : Int) (C L : Bool), -9 ≤ y ∧ y ≤ 30 ∧ vY = .int .i64 y ∧ vC = .bool C ∧ vL = .bool L ∧ Hid (∃ R K, PI a b x y C L R K ∧ PW W a b c g (g + 1) R K wr)) (fun _ _ vY _ => (30 - intOf vY).toNat)
      case atStart => exact ⟨-9, C, L, by omega, by omega, rfl, rfl, rfl, hst⟩
      case round =>
        obtain ⟨y, C', L', hy1, hy2, rfl, rfl, rfl, hinv⟩ := hrel
        clear hst
        obtain ⟨R, K, hI, hP⟩ := hinv.out
        clear hinv
        by_cases hlt2 : y < 30
        · have cA := fun w => hA x y w ⟨hx1, hlt⟩ ⟨hy1, hlt2⟩
          have cB := fun w => hB x y w ⟨hx1, hlt⟩ ⟨hy1, hlt2⟩
          have cC := fun w => hC x y w ⟨hx1, hlt⟩ ⟨hy1, hlt2⟩
          have hin1 := hin.out x y
          have hnx := fun R' K' => Lib.hid (fun h1 h2 => pi_step (R' := R') (K' := K') hI ⟨hx1, hlt⟩ ⟨hy1, hlt2⟩ h1 h2)
          have lR := Lib.hid hI.lR
          have lK := Lib.hid hI.lK
          clear hA hB hC hin hI
          generalize hasB a x y = one at *
          generalize hasB b x y = two at *
          have p := hP.two.cells
          go_wp2_with fail
          refine (cA _).out.mono ?_; rintro e w5 ⟨rfl, hq⟩
          have hP := hP.below hq
          clear p hq cA
          have p := hP.two.cells
          go_wp2_with fail
          refine (cB _).out.mono ?_; rintro e w6 ⟨rfl, hq⟩
          have hP := hP.below hq
          clear p hq cB
          cases one <;> cases two
          · have hnx := Lib.hid (hnx R K).out
            have hfin2 : Hid (∃ R K, PI a b x (y + 1) C' L' R K ∧ PW W a b c g (g + 1) R K w6) := Lib.hid ⟨R, K, by simpa using hnx.out rfl rfl, hP⟩
            clear hnx hP
            cases C' <;> cases L'
            all_goals
              go_wp2_with fail
              go_roundw
              case rel => exact ⟨y + 1, _, _, by omega, by omega, by go_num, rfl, rfl, hfin2⟩
              case measure => simp [intOf]; omega
          all_goals
            have hc : hasB c x y = true := hin1 rfl
            rw [hc] at cC
            have hnx := Lib.hid (hnx (R.set (y + 9).toNat true) (K.set (x + 9).toNat true)).out
            have k1 : (y + 9).toNat < 40 := by omega
            have k2 : (x + 9).toNat < 40 := by omega
            obtain ⟨p4, f4, p5, f5⟩ : (∃ o, w6.cell? ⟨g + 1, (y + 9).toNat, none⟩ = some o) ∧ w6.frozen? ⟨g + 1, (y + 9).toNat, none⟩ = false ∧ (∃ o, w6.cell? ⟨g + 1 + 1, (x + 9).toNat, none⟩ = some o) ∧ w6.frozen? ⟨g + 1 + 1, (x + 9).toNat, none⟩ = false :=
              ⟨⟨_, hP.b4.cell _ _ (List.getElem?_eq_getElem (by rw [List.length_map, lR.out]; exact k1))⟩, hP.b4.free _ (by rw [List.length_map, lR.out]; exact k1), ⟨_, hP.b5.cell _ _ (List.getElem?_eq_getElem (by rw [List.length_map, lK.out]; exact k2))⟩, hP.b5.free _ (by rw [List.length_map, lK.out]; exact k2)⟩
            obtain ⟨o4, p4⟩ := p4
            obtain ⟨o5, p5⟩ := p5
            cases C' <;> cases L'
            all_goals
              go_upto_region 23 with fail
              generalize hW : World.setCell (World.setCell w6 _ _) _ _ = V6
              have hP := hP.mark (by rw [lR.out]; exact k1) (by rw [lK.out]; exact k2) hW
              clear hW p4 p5 f4 f5
              have p := hP.b3.four
              go_wp2_with fail
              refine (cC _).out.mono ?_; rintro e w7 ⟨rfl, hq⟩
              have hP := hP.below hq
              have hfin2 : Hid (∃ R K, PI a b x (y + 1) _ _ R K ∧ PW W a b c g (g + 1) R K w7) := Lib.hid ⟨_, _, hnx.out rfl rfl, hP⟩
              clear p hq hnx hP
              go_wp2_with fail
              go_roundw
              case rel => exact ⟨y + 1, _, _, by omega, by omega, by go_num, rfl, rfl, hfin2⟩
              case measure => simp [intOf]; omega
        · have hy30 : y = 30 := by omega
          subst hy30
          have hfin2 : Hid (∃ R K, PI a b (x + 1) (-9) C' L' R K ∧ PW W a b c g (g + 1) R K wr) := Lib.hid ⟨R, K, pi_end hI, hP⟩
          clear hI hP
          go_wp2_with fail
          go_roundw
          case rel => exact ⟨x + 1, _, _, by omega, by omega, by go_num, rfl, rfl, hfin2⟩
          case measure => simp [intOf]; omega
    · have hx30 : x = 30 := by omega
      subst hx30
      obtain ⟨R, K, hI, hP⟩ := hinv.out
      have F := hfin.out _ _ _ _ hI
      rw [pi_meet hI s1.out s2.out] at m1
      rw [pi_inside hI s1.out s2.out] at i1
      clear hinv hI hfin hA hB hC hin jb
      have p := hP.b3.four
      have f0 := F.fa
      have f1 := F.fb
      have f2 := F.fc
      have f3 := F.fd
      have f4 := F.fx
      have f5 := F.fy
      have f6 : decide (0 < c.c) = decide (0 < c.d) := by rw [decide_eq_decide]; exact F.fe
      by_cases hc : 0 < c.c
      · have hd := F.fe.1 hc
        obtain ⟨h1, h2, h3, h4⟩ := F.fm hc
        have q1 : wr.cell? ⟨g + 1 + 1, (c.a + 9).toNat, none⟩ = some (.bool true) := hP.b5.cell _ _ (by rw [List.getElem?_map, h1]; rfl)
        have q2 : wr.cell? ⟨g + 1 + 1, (c.a + c.c - 1 + 9).toNat, none⟩ = some (.bool true) := hP.b5.cell _ _ (by rw [List.getElem?_map, h2]; rfl)
        have q3 : wr.cell? ⟨g + 1, (c.b + 9).toNat, none⟩ = some (.bool true) := hP.b4.cell _ _ (by rw [List.getElem?_map, h3]; rfl)
        have q4 : wr.cell? ⟨g + 1, (c.b + c.d - 1 + 9).toNat, none⟩ = some (.bool true) := hP.b4.cell _ _ (by rw [List.getElem?_map, h4]; rfl)
        clear h1 h2 h3 h4 F
        go_upto_region 29 with fail
        have bx := hP.two
        clear hP p f0 f1 f2 f3 f4 f5 f6
        (try clear q1 q2 q3 q4)
        have p := bx.cells
        have hCC : (C == C) = true := by simp
        have hLL : (L == L) = true := by simp
        go_wp2_with (first | (go_at_call 17; (with_reducible refine (m1 _).out.mono ?_); rintro e w5 ⟨rfl, hq⟩; have bx := bx.below hq.1; clear p hq; have p := bx.cells) | (go_at_call 19; (with_reducible refine (i1 _).out.mono ?_); rintro e w6 ⟨rfl, hq⟩; have bx := bx.below hq.1; clear p hq; have p := bx.cells) | (go_at_call 10; (with_reducible refine (works2_any _).mono ?_); rintro e w7 ⟨rfl, hq⟩; have bx := bx.below hq; clear p hq))
        go_ret
        exact ⟨rfl, bx.hb⟩
      · have hd : ¬ 0 < c.d := fun h => hc (F.fe.2 h)
        clear F
        go_upto_region 29 with fail
        have bx := hP.two
        clear hP p f0 f1 f2 f3 f4 f5 f6
        (try clear q1 q2 q3 q4)
        have p := bx.cells
        have hCC : (C == C) = true := by simp
        have hLL : (L == L) = true := by simp
        go_wp2_with (first | (go_at_call 17; (with_reducible refine (m1 _).out.mono ?_); rintro e w5 ⟨rfl, hq⟩; have bx := bx.below hq.1; clear p hq; have p := bx.cells) | (go_at_call 19; (with_reducible refine (i1 _).out.mono ?_); rintro e w6 ⟨rfl, hq⟩; have bx := bx.below hq.1; clear p hq; have p := bx.cells) | (go_at_call 10; (with_reducible refine (works2_any _).mono ?_); rintro e w7 ⟨rfl, hq⟩; have bx := bx.below hq; clear p hq))
        go_ret
        exact ⟨rfl, bx.hb⟩

theorem walk (W : World) (r0 : Four) (_ : FourOk r0) (r1 : Four) (_ : FourOk r1) :
    Calls Try.prog 6 #[.agg #[.int .i64 r0.a, .int .i64 r0.b, .int .i64 r0.c, .int .i64 r0.d], .agg #[.int .i64 r1.a, .int .i64 r1.b, .int .i64 r1.c, .int .i64 r1.d]] W fun e w' => e = .returned (.bool true) ∧ Below W.heap.size W w' := walk_ W r0 r1

set_option maxRecDepth 100000 in
theorem lifted (os : Os) (started : os.Started) (H : Type) (enc : TypeId × Value → H) :
    ReturnsInHanded {} Try.checked os 6 .any (Rows.edgesPointsSpec.pre6 enc Try.prog Try.f6 Rows.edgesPointsRow.domain false) (Rows.edgesPointsSpec.post enc Try.prog Try.f6 false true false false) := by
  refine returnsInHanded_of_change (C := Try.checked) own started (by kernel_rfl) Try.func6
    (ChangeSpec.witness6 (enc := enc) (C := Try.checked) false ⟨#[], #[.agg #[.int .i64 0, .int .i64 0, .int .i64 0, .int .i64 0], .agg #[.int .i64 0, .int .i64 0, .int .i64 0, .int .i64 0]], []⟩ 6 (by kernel_rfl) (by kernel_rfl) (by kernel_rfl) (by kernel_rfl)) ?_
  intro W base args ds gs before hval0 hW hcnd _
  have hval : ∀ (j : Nat) t v, Try.f6.params[j]? = some t → args[j]? = some v → Value.okWide Try.prog W .any base t v := hval0
  have hW' := hW
  obtain ⟨p, q, hA0, hV, rfl, hfz, hnd⟩ := hW
  have hA : DataW.TrodAll enc Try.prog W 0 (fun _ => true) true Try.f6.params.toList args.toList ds p := hA0
  rw [Try.params6] at hA hval
  obtain ⟨v0, vs0, d0, ds0, p0, q0, hargs, rfl, rfl, h0, r0⟩ := trodAll_cons hA
  obtain ⟨v1, vs1, d1, ds1, p1, q1, rfl, rfl, rfl, h1, r1⟩ := trodAll_cons r0
  obtain ⟨rfl, rfl, rfl⟩ := trodAll_nil r1
  obtain rfl : args = #[v0, v1] := by cases args; simp_all
  obtain ⟨rfl, rfl⟩ := trodVars_none hV
  obtain ⟨x0, rfl, o0⟩ := view_rect (hval 0 33 v0 rfl rfl) h0
  obtain ⟨x1, rfl, o1⟩ := view_rect (hval 1 33 v1 rfl rfl) h1
  refine (walk W x0 o0 x1 o1).mono fun e W' ⟨he, hg⟩ => ?_
  subst he
  exact ⟨_, rfl, law_post laidOut (by kernel_rfl) rfl Try.underlying4 rfl hW' rfl rfl rfl hg⟩

theorem over : Rows.edgesPointsRow.holds Try.pinned (OpenSpec.ofChange Rows.edgesPointsSpec) :=
  OpenClaim.holds_of_wide 6 Try.f6 rfl rfl rfl rfl rfl rfl rfl ⟨rfl, rfl, rfl, rfl, rfl⟩ rfl rfl rfl rfl rfl (by kernel_rfl) Try.func6 (by kernel_rfl)
    (of_decide_eq_true (by kernel_rfl)) (by unfold Func.isWrapper; first | (rw [if_pos (by decide +kernel)]; kernel_rfl) | (rw [if_neg (by decide +kernel)]; exact ⟨rfl, rfl⟩))
    (fun os started H enc _ => lifted os started H enc)

/-- The statement. -/
theorem proved : Rows.EdgesPointsSaid := over
#print axioms proved
end Go.Proofs.Ytflehhepnmcdeaa.lawEdgesPoints
