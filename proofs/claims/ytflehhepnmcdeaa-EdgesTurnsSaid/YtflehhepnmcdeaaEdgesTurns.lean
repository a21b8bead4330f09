/-
  To meet goes both ways; what has points meets itself and is inside itself; what is inside another one, and has points, meets it; to grow and to grow by the same sides turned is to stay: for every input, no conditions.
-/
import Derived.Test.YtflehhepnmcdeaaWorks2
import Derived.Test.YtflehhepnmcdeaaView4
import Derived.Test.YtflehhepnmcdeaaLaw
import Derived.Test.YtflehhepnmcdeaaLater
import Derived.Deep.DeepCutAuto
import Derived.Deep.RegionHeld3
import Derived.ProofKit
import Derived.OpenShut
import Derived.BigGuard
namespace Go.Proofs.Ytflehhepnmcdeaa.lawEdgesTurns
open Go.ChangeShapes Go.WideShapes Go.ChangeAt Go.RowKit Go.Proofs.Ytflehhepnmcdeaa
set_option linter.unusedVariables false

theorem own : ownKnob Try.prog.godebug = none := by kernel_rfl

theorem meet_symm (a b : Four) : meetB b.a b.b b.c b.d a.a a.b a.c a.d = meetB a.a a.b a.c a.d b.a b.b b.c b.d := by
  rw [Bool.eq_iff_iff, meetB_iff, meetB_iff]; omega
theorem meet_self (a : Four) : meetB a.a a.b a.c a.d a.a a.b a.c a.d = pointsB a.c a.d := by
  rw [Bool.eq_iff_iff, meetB_iff]; unfold pointsB; simp only [Bool.and_eq_true, decide_eq_true_eq]; omega
theorem inside_self (a : Four) : insideB a.a a.b a.c a.d a.a a.b a.c a.d = true := by
  rw [insideB_iff]; omega
theorem inside_meets {a b : Four} (h : insideB a.a a.b a.c a.d b.a b.b b.c b.d = true) (h2 : pointsB a.c a.d = true) : meetB a.a a.b a.c a.d b.a b.b b.c b.d = true := by
  rw [meetB_iff]; rw [insideB_iff] at h; unfold pointsB at h2; simp only [Bool.and_eq_true, decide_eq_true_eq] at h2; omega

theorem three_boxes (w : World) (x1 x2 x3 : List Value) (t1 t2 t3 : TypeId) (W : World)
    (h : ((w.alloc (.cells x1.toArray t1)).alloc (.cells x2.toArray t2)).alloc (.cells x3.toArray t3) = W) :
    Box W w.heap.size x1 ∧ Box W (w.heap.size + 1) x2 ∧ Box W (w.heap.size + 1 + 1) x3 ∧ Below w.heap.size w W := by
  subst h
  refine ⟨((Box.new w x1 _).alloc _).alloc _, ?_, ?_, (((Below.refl _ _).alloc (Nat.le_refl _) _).alloc (by simp) _).alloc (by simp; omega) _⟩
  · simpa using (Box.new (w.alloc (.cells x1.toArray t1)) x2 t2).alloc _
  · simpa using Box.new ((w.alloc (.cells x1.toArray t1)).alloc (.cells x2.toArray t2)) x3 t3

/-- The three arguments lie in boxes of their own. -/
structure Boxes (W : World) (a b t : Four) (w : World) : Prop where
  b1 : Box w W.heap.size (fourE a)
  b2 : Box w (W.heap.size + 1) (fourE b)
  b3 : Box w (W.heap.size + 1 + 1) (fourE t)
  hb : Below W.heap.size W w

/-- What the loop keeps: the turned sides so far. -/
def negV (t : Four) (k i : Nat) : Value := .int .i64 (if i < k then -(pick t i) else 0)
structure TInv (W : World) (a t : Four) (g k : Nat) (w : World) : Prop where
  b1 : Box w W.heap.size (fourE a)
  b3 : Box w (W.heap.size + 1 + 1) (fourE t)
  b8 : Box w g [.int .i64 (cutI (a.a - t.d)), .int .i64 (cutI (a.b - t.a)), .int .i64 (cutI (a.c + t.d + t.b)), .int .i64 (cutI (a.d + t.a + t.c))]
  b10 : Box w (g + 1) [negV t k 0, negV t k 1, negV t k 2, negV t k 3]
  hb : Below W.heap.size W w
  far : ∀ i, i < k → -9223372036854775807 ≤ pick t (i : Nat)

theorem fourE_at (t : Four) {k : Nat} (hk : k < 4) : (fourE t)[k]? = some (.int .i64 (pick t k)) := by
  rcases (by omega : k = 0 ∨ k = 1 ∨ k = 2 ∨ k = 3) with rfl | rfl | rfl | rfl <;> simp [fourE, pick]
theorem pick_ok {t : Four} (h : FourOk t) (k : Int) : I64 (pick t k) := by
  unfold pick; split
  · exact h.x
  · split
    · exact h.y
    · split
      · exact h.w
      · exact h.h
theorem tinv_step {W : World} {a t : Four} {g k : Nat} {wr : World} (h : TInv W a t g k wr) (hk : k < 4) (hy : -9223372036854775807 ≤ pick t k) (hg : W.heap.size + 1 + 1 < g) :
    TInv W a t g (k + 1) (wr.setCell ⟨g + 1, k, none⟩ (.int .i64 (-(pick t k)))) := by
  have e : [negV t (k + 1) 0, negV t (k + 1) 1, negV t (k + 1) 2, negV t (k + 1) 3] = [negV t k 0, negV t k 1, negV t k 2, negV t k 3].set k (.int .i64 (-(pick t k))) := by
    rcases (by omega : k = 0 ∨ k = 1 ∨ k = 2 ∨ k = 3) with rfl | rfl | rfl | rfl <;> simp [negV]
  refine ⟨h.b1.off (by omega) _ _, h.b3.off (by omega) _ _, h.b8.off (by omega) _ _, ?_, h.hb.setCell (by simp; omega) _, fun i hi => ?_⟩
  · rw [e]; exact h.b10.set k _ (by simpa using hk)
  · by_cases hik : i = k
    · subst hik; exact hy
    · exact h.far i (by omega)

theorem exact_of {x : Int} (h : farI x = false) : cutI x = x ∧ I64 x := by
  unfold farI at h
  simp only [decide_eq_false_iff_not] at h
  refine ⟨?_, ?_⟩
  · unfold cutI; rw [if_neg (by omega), if_neg (by omega)]
  · unfold I64; omega
theorem cut_ok (x : Int) : I64 (cutI x) := by unfold cutI I64; split <;> (try split) <;> omega

theorem neg_ok {t : Four} (h : FourOk t) (hf : ∀ i, i < 4 → -9223372036854775807 ≤ pick t (i : Nat)) : RectOk (-t.a) (-t.b) (-t.c) (-t.d) := by
  have f0 : -9223372036854775807 ≤ t.a := by simpa [pick] using hf 0 (by omega)
  have f1 : -9223372036854775807 ≤ t.b := by simpa [pick] using hf 1 (by omega)
  have f2 : -9223372036854775807 ≤ t.c := by simpa [pick] using hf 2 (by omega)
  have f3 : -9223372036854775807 ≤ t.d := by simpa [pick] using hf 3 (by omega)
  obtain ⟨⟨_, h0⟩, ⟨_, h1⟩, ⟨_, h2⟩, ⟨_, h3⟩⟩ := h
  exact ⟨⟨by omega, by omega⟩, ⟨by omega, by omega⟩, ⟨by omega, by omega⟩, ⟨by omega, by omega⟩⟩
theorem sides_zero (w : World) : (Instr.build 24 #[]).run Try.prog w = .ok (.agg #[.int .i64 0, .int .i64 0, .int .i64 0, .int .i64 0]) w := by kernel_rfl
theorem back_same {a t : Four} (h : growFar a.a a.b a.c a.d t.a t.b t.c t.d = false) :
    cutI (cutI (a.a - t.d) - -t.d) = cutI a.a ∧ cutI (cutI (a.b - t.a) - -t.a) = cutI a.b ∧ cutI (cutI (a.c + t.d + t.b) + -t.d + -t.b) = cutI a.c ∧ cutI (cutI (a.d + t.a + t.c) + -t.a + -t.c) = cutI a.d ∧
      growFar (cutI (a.a - t.d)) (cutI (a.b - t.a)) (cutI (a.c + t.d + t.b)) (cutI (a.d + t.a + t.c)) (-t.a) (-t.b) (-t.c) (-t.d) = (farI a.a || farI a.b || farI a.c || farI a.d) := by
  unfold growFar at h
  simp only [Bool.or_eq_false_iff] at h
  obtain ⟨⟨⟨h1, h2⟩, h3⟩, h4⟩ := h
  rw [(exact_of h1).1, (exact_of h2).1, (exact_of h3).1, (exact_of h4).1]
  unfold growFar
  rw [show a.a - t.d - -t.d = a.a by omega, show a.b - t.a - -t.a = a.b by omega, show a.c + t.d + t.b + -t.d + -t.b = a.c by omega, show a.d + t.a + t.c + -t.a + -t.c = a.d by omega]
  exact ⟨rfl, rfl, rfl, rfl, rfl⟩
theorem stay_same (a : Four) : cutI (a.a - 0) = cutI a.a ∧ cutI (a.b - 0) = cutI a.b ∧ cutI (a.c + 0 + 0) = cutI a.c ∧ cutI (a.d + 0 + 0) = cutI a.d ∧ growFar a.a a.b a.c a.d 0 0 0 0 = (farI a.a || farI a.b || farI a.c || farI a.d) := by
  unfold growFar; simp

set_option maxRecDepth 200000 in
set_option maxHeartbeats 3200000 in
theorem walk_h (W : World) (a b t : Four) (M J P : Bool) (ha : Hid (FourOk a)) (hb : Hid (FourOk b)) (ht : Hid (FourOk t))
    (hM : Hid (meetB a.a a.b a.c a.d b.a b.b b.c b.d = M)) (hJ : Hid (insideB a.a a.b a.c a.d b.a b.b b.c b.d = J)) (hP : Hid (pointsB a.c a.d = P)) (hJP : J = true → P = true → M = true) :
    Calls Try.prog 7 #[.agg #[.int .i64 a.a, .int .i64 a.b, .int .i64 a.c, .int .i64 a.d], .agg #[.int .i64 b.a, .int .i64 b.b, .int .i64 b.c, .int .i64 b.d], .agg #[.int .i64 t.a, .int .i64 t.b, .int .i64 t.c, .int .i64 t.d]] W fun e w' => e = .returned (.bool true) ∧ Below W.heap.size W w' := by
  have m1 := fun w => Lib.hid (meet_any a.a a.b a.c a.d b.a b.b b.c b.d w ha.out hb.out)
  have m2 := fun w => Lib.hid (meet_any b.a b.b b.c b.d a.a a.b a.c a.d w hb.out ha.out)
  have m3 := fun w => Lib.hid (meet_any a.a a.b a.c a.d a.a a.b a.c a.d w ha.out ha.out)
  have i1 := fun w => Lib.hid (inside_any a.a a.b a.c a.d a.a a.b a.c a.d w ha.out ha.out)
  have i2 := fun w => Lib.hid (inside_any a.a a.b a.c a.d b.a b.b b.c b.d w ha.out hb.out)
  rw [hM.out] at m1
  rw [meet_symm, hM.out] at m2
  rw [meet_self, hP.out] at m3
  rw [inside_self] at i1
  rw [hJ.out] at i2
  have hPP : (decide (0 < a.c) && decide (0 < a.d)) = P := hP.out
  have hP1 : (P = true → decide (0 < a.c) = true ∧ decide (0 < a.d) = true) ∧ (P = false → (decide (0 < a.c) = true ∧ decide (0 < a.d) = false) ∨ decide (0 < a.c) = false) := by
    rw [← hPP]; cases decide (0 < a.c) <;> cases decide (0 < a.d) <;> simp
  clear hPP
  have q0 := rect_eq
  go_enter Try.func7, Try.ntmps7
  go_upto_region 1 with fail
  generalize hW : World.alloc (World.alloc (World.alloc W _) _) _ = V
  obtain ⟨b1, b2, b3, hbV⟩ := three_boxes W [_, _, _, _] [_, _, _, _] [_, _, _, _] _ _ _ V hW
  clear hW
  obtain ⟨k0, k1, k2, k3⟩ := b1.four
  go_cut [7] (fun s wx => s = .bool P ∧ V = wx)
  case first =>
    cases P
    · rcases hP1.2 rfl with ⟨p1, p2⟩ | p1
      all_goals
        clear hP1
        go_wp2_with fail
        go_meet
        exact ⟨rfl, rfl⟩
    · obtain ⟨p1, p2⟩ := hP1.1 rfl
      clear hP1
      go_wp2_with fail
      go_meet
      exact ⟨rfl, rfl⟩
  case rest =>
    obtain ⟨rfl, rfl⟩ := hcut
    clear hP1
    obtain ⟨x0, x1, x2, x3⟩ := Later.four b1
    obtain ⟨y0, y1, y2, y3⟩ := Later.four b2
    go_upto_region 2 with fail
    go_cut [57] (fun s wx => s = .bool false ∧ Hid (Boxes W a b t wx))
    case first =>
      cases P <;> cases M <;> cases J
      all_goals first | (exact Bool.noConfusion (hJP rfl rfl)) | skip
      all_goals
        clear hJP
        refine wp_region_later V (by kernel_rfl) (by kernel_rfl) (Below.refl _ _) ?_
        repeat (quiet_step ((first | (go_at_call 17; (with_reducible exact Later.callQt _ (m1 _).out)) | (go_at_call 17; (with_reducible exact Later.callQt _ (m2 _).out)) | (go_at_call 17; (with_reducible exact Later.callQt _ (m3 _).out)) | (go_at_call 19; (with_reducible exact Later.callQt _ (i1 _).out)) | (go_at_call 19; (with_reducible exact Later.callQt _ (i2 _).out)))))
        refine wpQuiet_nil ?_
        rintro _ ⟨⟨wq, hbq⟩, rfl⟩
        have b1 := b1.below hbq
        have b2 := b2.below hbq
        have b3 := b3.below hbq
        have hbV := hbV.trans (hbq.mono hbV.size)
        go_wp2_with fail
        go_meet
        exact ⟨rfl, Lib.hid ⟨b1, b2, b3, hbV⟩⟩
    case rest =>
      obtain ⟨rfl, hB⟩ := hcut
      clear m1 m2 m3 i1 i2 x0 x1 x2 x3 y0 y1 y2 y3 k0 k1 k2 k3 hJP hM hJ hP b1 b2 b3 hbV
      obtain ⟨b1, b2, b3, hbW⟩ := hB.out
      have p1 := b1.four
      have p3 := b3.four
      have lt0 : W.heap.size + 1 + 1 < wc.heap.size := b3.lt
      go_wp2_with fail
      refine (grow_any a.a a.b a.c a.d t.a t.b t.c t.d wc ha.out ht.out).mono ?_; rintro e w1 ⟨rfl, hq1⟩
      have b1 := b1.below hq1.1
      have b3 := b3.below hq1.1
      have hbW := Lib.hid (hbW.trans (hq1.1.mono hbW.size))
      have lt1 : W.heap.size + 1 + 1 < w1.heap.size := b3.lt
      clear p1 p3 hq1 hB b2
      go_wp2_with fail
      generalize hW : World.alloc (World.alloc w1 _) _ = V1
      have hst : Hid (TInv W a t w1.heap.size 0 V1) := by
        subst hW
        refine Lib.hid ⟨(b1.alloc _).alloc _, (b3.alloc _).alloc _, (Box.new w1 [_, _, _, _] _).alloc _, ?_, (hbW.out.alloc hbW.out.size _).alloc (by have := hbW.out.size; simp; omega) _, fun i hi => absurd hi (by omega)⟩
        simpa [negV] using Box.new (w1.alloc (.cells #[.int .i64 (cutI (a.a - t.d)), .int .i64 (cutI (a.b - t.a)), .int .i64 (cutI (a.c + t.d + t.b)), .int .i64 (cutI (a.d + t.a + t.c))] 33)) [.int .i64 0, .int .i64 0, .int .i64 0, .int .i64 0] 24
      clear hW b1 b3 hbW lt0
      generalize w1.heap.size = g at *
      go_loopw [11] (fun i wr => ∃ k : Nat, k ≤ 4 ∧ i = .int .i64 k ∧ Hid (TInv W a t g k wr)) (fun i _ => 4 - (intOf i).toNat)
      case atStart => exact ⟨0, Nat.zero_le _, rfl, hst⟩
      case round =>
        obtain ⟨k, hk, rfl, hinv⟩ := hrel
        by_cases hlt : k < 4
        · have hi1 : (0 : Int) ≤ (k : Int) := by omega
          have hi2 : (k : Int) < 4 := by omega
          have ct := hinv.out.b3.cell k _ (fourE_at t hlt)
          obtain ⟨o1, c1⟩ : ∃ u, wr.cell? ⟨g + 1, k, none⟩ = some u := ⟨_, hinv.out.b10.cell k _ (List.getElem?_eq_getElem (by simpa using hlt))⟩
          have f1 := hinv.out.b10.free k (by simpa using hlt)
          have hI := pick_ok (ht.out) (k : Int)
          have hsz := hinv.out.b10.lt
          by_cases heq : pick t k = -9223372036854775808
          · have hd : (pick t k == -9223372036854775808) = true := by simpa using heq
            have hb := Lib.hid hinv.out.hb
            clear hinv heq hst
            generalize pick t k = y at *
            go_wp2_with fail
            refine (works2_any _).mono ?_; rintro e w9 ⟨rfl, hq9⟩
            have hb2 := Lib.hid (hb.out.trans (hq9.mono hb.out.size))
            clear hq9
            go_wp2_with fail
            go_ret
            exact ⟨rfl, hb2.out⟩
          · have hd : (pick t k == -9223372036854775808) = false := by simpa using heq
            have hnx := Lib.hid (tinv_step hinv.out hlt (by unfold I64 at hI; omega) lt1)
            have hlo : -9223372036854775807 ≤ pick t k := by unfold I64 at hI; omega
            have hhi : pick t k ≤ 9223372036854775807 := hI.2
            clear hinv heq hst hI
            generalize pick t k = y at *
            go_wp2_with fail
            go_roundw
            case rel => exact ⟨k + 1, by omega, by go_num, hnx⟩
            case measure => simp [intOf]; omega
        · have hk4 : k = 4 := by omega
          subst hk4
          have b1 := hinv.out.b1
          have b8 := hinv.out.b8
          have b10 : Box wr (g + 1) [.int .i64 (-t.a), .int .i64 (-t.b), .int .i64 (-t.c), .int .i64 (-t.d)] := by simpa [negV, pick] using hinv.out.b10
          have hb := Lib.hid hinv.out.hb
          have hneg := neg_ok ht.out hinv.out.far
          have cg2 := fun w => Lib.hid (grow_any (cutI (a.a - t.d)) (cutI (a.b - t.a)) (cutI (a.c + t.d + t.b)) (cutI (a.d + t.a + t.c)) (-t.a) (-t.b) (-t.c) (-t.d) w ⟨cut_ok _, cut_ok _, cut_ok _, cut_ok _⟩ hneg)
          have cg3 := fun w => Lib.hid (grow_any a.a a.b a.c a.d 0 0 0 0 w ha.out ⟨small64 _ (by omega), small64 _ (by omega), small64 _ (by omega), small64 _ (by omega)⟩)
          have p1 := b1.four
          have p8 := b8.four
          have p10 := b10.four
          have hzs := sides_zero
          clear hinv hneg hst
          rcases hE : growFar a.a a.b a.c a.d t.a t.b t.c t.d with _ | _
          · obtain ⟨e1, e2, e3, e4, e5⟩ := back_same hE
            obtain ⟨d1, d2, d3, d4, d5⟩ := stay_same a
            simp only [e1, e2, e3, e4, e5] at cg2
            simp only [d1, d2, d3, d4, d5] at cg3
            clear e1 e2 e3 e4 e5 d1 d2 d3 d4 d5
            generalize (farI a.a || farI a.b || farI a.c || farI a.d) = G at *
            generalize cutI a.a = X at *
            generalize cutI a.b = Y at *
            generalize cutI a.c = Z at *
            generalize cutI a.d = U at *
            have hGG : (G == G) = true := by simp
            go_wp2_with fail
            refine (cg2 _).out.mono ?_; rintro e w2 ⟨rfl, hq2⟩
            have b1 := b1.below hq2.1
            have hb2 := Lib.hid (hb.out.trans (hq2.1.mono hb.out.size))
            have p1 := b1.four
            clear cg2 hq2 b8 b10 p8 p10 hb
            have lt2 := b1.lt
            go_wp2_with fail
            generalize hW : World.alloc w2 _ = V2
            obtain ⟨b12, hb3⟩ : Box V2 w2.heap.size [.int .i64 X, .int .i64 Y, .int .i64 Z, .int .i64 U] ∧ Below W.heap.size W V2 := by
              subst hW
              exact ⟨Box.new w2 [_, _, _, _] _, hb2.out.alloc hb2.out.size _⟩
            clear hW b1 p1 hb2
            refine (cg3 _).out.mono ?_; rintro e w3 ⟨rfl, hq3⟩
            have b12 := b12.below hq3.1
            have hb4 := Lib.hid (hb3.trans (hq3.1.mono hb3.size))
            have p12 := b12.four
            have lt3 := b12.lt
            clear cg3 hq3
            go_wp2_with fail
            refine (works2_any _).mono ?_; rintro e w9 ⟨rfl, hq9⟩
            have hb5 := Lib.hid ((hb4.out.alloc hb4.out.size (.cells #[.int .i64 X, .int .i64 Y, .int .i64 Z, .int .i64 U] 33)).trans (hq9.mono (by have := hb4.out.size; simp; omega)))
            clear hq9
            go_wp2_with fail
            go_ret
            exact ⟨rfl, hb5.out⟩
          · clear cg3
            go_wp2_with fail
            refine (cg2 _).out.mono ?_; rintro e w2 ⟨rfl, hq2⟩
            have hb2 := Lib.hid (hb.out.trans (hq2.1.mono hb.out.size))
            clear cg2 hq2 b8 b10 p8 p10 hb b1 p1
            go_wp2_with fail
            refine (works2_any _).mono ?_; rintro e w9 ⟨rfl, hq9⟩
            have hb5 := Lib.hid ((hb2.out.alloc hb2.out.size _).trans (hq9.mono (by have := hb2.out.size; simp; omega)))
            clear hq9
            go_wp2_with fail
            go_ret
            exact ⟨rfl, hb5.out⟩

theorem walk (W : World) (x0 : Four) (o0 : FourOk x0) (x1 : Four) (o1 : FourOk x1) (x2 : Four) (o2 : FourOk x2) :
    Calls Try.prog 7 #[.agg #[.int .i64 x0.a, .int .i64 x0.b, .int .i64 x0.c, .int .i64 x0.d], .agg #[.int .i64 x1.a, .int .i64 x1.b, .int .i64 x1.c, .int .i64 x1.d], .agg #[.int .i64 x2.a, .int .i64 x2.b, .int .i64 x2.c, .int .i64 x2.d]] W fun e w' => e = .returned (.bool true) ∧ Below W.heap.size W w' :=
  walk_h W x0 x1 x2 _ _ _ (Lib.hid o0) (Lib.hid o1) (Lib.hid o2) (Lib.hid rfl) (Lib.hid rfl) (Lib.hid rfl) (fun h1 h2 => inside_meets h1 h2)

set_option maxRecDepth 100000 in
theorem lifted (os : Os) (started : os.Started) (H : Type) (enc : TypeId × Value → H) :
    ReturnsInHanded {} Try.checked os 7 .any (Rows.edgesTurnsSpec.pre6 enc Try.prog Try.f7 Rows.edgesTurnsRow.domain false) (Rows.edgesTurnsSpec.post enc Try.prog Try.f7 false true false false) := by
  refine returnsInHanded_of_change (C := Try.checked) own started (by kernel_rfl) Try.func7
    (ChangeSpec.witness6 (enc := enc) (C := Try.checked) false ⟨#[], #[.agg #[.int .i64 0, .int .i64 0, .int .i64 0, .int .i64 0], .agg #[.int .i64 0, .int .i64 0, .int .i64 0, .int .i64 0], .agg #[.int .i64 0, .int .i64 0, .int .i64 0, .int .i64 0]], []⟩ 7 (by kernel_rfl) (by kernel_rfl) (by kernel_rfl) (by kernel_rfl)) ?_
  intro W base args ds gs before hval0 hW hcnd _
  have hval : ∀ (j : Nat) t v, Try.f7.params[j]? = some t → args[j]? = some v → Value.okWide Try.prog W .any base t v := hval0
  have hW' := hW
  obtain ⟨p, q, hA0, hV, rfl, hfz, hnd⟩ := hW
  have hA : DataW.TrodAll enc Try.prog W 0 (fun _ => true) true Try.f7.params.toList args.toList ds p := hA0
  rw [Try.params7] at hA hval
  obtain ⟨v0, vs0, d0, ds0, p0, q0, hargs, rfl, rfl, h0, r0⟩ := trodAll_cons hA
  obtain ⟨v1, vs1, d1, ds1, p1, q1, rfl, rfl, rfl, h1, r1⟩ := trodAll_cons r0
  obtain ⟨v2, vs2, d2, ds2, p2, q2, rfl, rfl, rfl, h2, r2⟩ := trodAll_cons r1
  obtain ⟨rfl, rfl, rfl⟩ := trodAll_nil r2
  obtain rfl : args = #[v0, v1, v2] := by cases args; simp_all
  obtain ⟨rfl, rfl⟩ := trodVars_none hV
  obtain ⟨x0, rfl, o0⟩ := view_rect (hval 0 33 v0 rfl rfl) h0
  obtain ⟨x1, rfl, o1⟩ := view_rect (hval 1 33 v1 rfl rfl) h1
  obtain ⟨x2, rfl, o2⟩ := view_sides (hval 2 24 v2 rfl rfl) h2
  refine (walk W x0 o0 x1 o1 x2 o2).mono fun e W' ⟨he, hg⟩ => ?_
  subst he
  exact ⟨_, rfl, law_post laidOut (by kernel_rfl) rfl Try.underlying4 rfl hW' rfl rfl rfl hg⟩

theorem over : Rows.edgesTurnsRow.holds Try.pinned (OpenSpec.ofChange Rows.edgesTurnsSpec) :=
  OpenClaim.holds_of_wide 7 Try.f7 rfl rfl rfl rfl rfl rfl rfl ⟨rfl, rfl, rfl, rfl, rfl⟩ rfl rfl rfl rfl rfl (by kernel_rfl) Try.func7 (by kernel_rfl)
    (of_decide_eq_true (by kernel_rfl)) (by unfold Func.isWrapper; first | (rw [if_pos (by decide +kernel)]; kernel_rfl) | (rw [if_neg (by decide +kernel)]; exact ⟨rfl, rfl⟩))
    (fun os started H enc _ => lifted os started H enc)

/-- The statement. -/
theorem proved : Rows.EdgesTurnsSaid := over
#print axioms proved
end Go.Proofs.Ytflehhepnmcdeaa.lawEdgesTurns
