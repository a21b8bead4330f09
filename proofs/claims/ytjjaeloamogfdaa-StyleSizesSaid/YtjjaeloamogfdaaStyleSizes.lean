/-
  A size is a length, never less than its least one, nor more than its most one unless that is less than the least one, and grows with the number: for every input, no conditions.
-/
import Derived.Test.YtjjaeloamogfdaaWorks4
import Derived.Test.YtjjaeloamogfdaaView5
import Derived.Test.YtjjaeloamogfdaaLaw
import Derived.ProofKit
import Derived.OpenShut
import Derived.BigGuard
namespace Go.Proofs.Ytjjaeloamogfdaa.lawStyleSizes
open Go.ChangeShapes Go.WideShapes Go.ChangeAt Go.RowKit Go.Proofs.Ytjjaeloamogfdaa
set_option linter.unusedVariables false

theorem own : ownKnob Try.prog.godebug = none := by kernel_rfl

theorem cut_len (x : Int) : -1099511627776 ≤ cutI x ∧ cutI x ≤ 1099511627776 := by unfold cutI; split <;> (try split) <;> omega
theorem cut_mono {x y : Int} (h : x ≤ y) : cutI x ≤ cutI y := by unfold cutI; split <;> split <;> (try split) <;> (try split) <;> omega
theorem ofN_len (l : LenV) (x : Int) : -1099511627776 ≤ ofN l x ∧ ofN l x ≤ 1099511627776 := by
  unfold ofN
  split
  · exact cut_len _
  · split
    · exact cut_len _
    · omega
theorem ofN_mono (k n : Int) (m x : Int) (hx : 0 ≤ x) (hm : 0 ≤ m) : ofN ⟨k, n⟩ x ≤ ofN ⟨k, n + m⟩ x := by
  unfold ofN
  simp only
  split
  · exact cut_mono (by omega)
  · split
    · refine cut_mono ?_
      unfold qI
      rw [if_pos (by decide), if_pos (by decide)]
      refine Int.ediv_le_ediv (by decide) ?_
      exact Int.mul_le_mul_of_nonneg_left (by omega) hx
    · omega
/-- What follows, of a length that is no auto. -/
theorem size_facts (l a b : LenV) (x : Int) (h : ofAuto l = false) :
    sizeN l a b x ≤ 1099511627776 ∧ -1099511627776 ≤ sizeN l a b x ∧ ofN a x ≤ sizeN l a b x ∧ (ofN a x < sizeN l a b x → ofAuto b = false → sizeN l a b x ≤ ofN b x) := by
  have h1 := ofN_len l x
  have h2 := ofN_len a x
  have h3 := ofN_len b x
  unfold sizeN topI withinI
  rw [h]
  simp only [Bool.false_eq_true, if_false]
  cases ofAuto b
  · simp only [Bool.false_eq_true, if_false]
    omega
  · simp only [if_true]
    exact ⟨by omega, by omega, by omega, fun _ h => by cases h⟩
theorem lb_put {W : World} {l a b : LenV} {w : World} (h : LBoxes W l a b w) (z : Int) : LBoxes W ⟨l.k, z⟩ a b (w.setCell ⟨W.heap.size, 1, none⟩ (.int .i64 z)) :=
  ⟨h.b1.set 1 (.int .i64 z) (by simp [lenE]), h.b2.off (by omega) 1 _, h.b3.off (by omega) 1 _, h.hb.setCell (by simp) _⟩
theorem size_grows (k n : Int) (a b : LenV) (m x : Int) (hx : 0 ≤ x) (hm : 0 ≤ m) (h : ofAuto ⟨k, n⟩ = false) : sizeN ⟨k, n⟩ a b x ≤ sizeN ⟨k, n + m⟩ a b x := by
  have h1 := ofN_mono k n m x hx hm
  have h2 : ofAuto ⟨k, n + m⟩ = false := h
  unfold sizeN withinI
  rw [h, h2]
  simp only [Bool.false_eq_true, if_false]
  omega

set_option maxRecDepth 100000 in
set_option maxHeartbeats 3200000 in
theorem walk (W : World) (l : LenV) (ol : LenOk l) (a : LenV) (oa : LenOk a) (b : LenV) (ob : LenOk b) (x : Int) (wx0 : (Lit.int .i64 x).wf = true) (more : Int) (wm0 : (Lit.int .u16 more).wf = true) :
    Calls Try.prog 5 #[.agg #[.int .u8 l.k, .int .i64 l.n], .agg #[.int .u8 a.k, .int .i64 a.n], .agg #[.int .u8 b.k, .int .i64 b.n], .int .i64 x, .int .u16 more] W fun e w' => e = .returned (.bool true) ∧ Below W.heap.size W w' := by
  have wx : I64 x := bounds_i64 wx0
  have wm : 0 ≤ more ∧ more ≤ 65535 := by
    simp [Lit.wf, IntKind.min, IntKind.max, IntKind.signed, IntKind.bits] at wm0
    omega
  clear wx0 wm0
  obtain ⟨lk, ln⟩ := l
  have oN := ol.2
  have o2 := of4_any a x oa.2 wx
  have o3 := of4_any b x ob.2 wx
  have s1 := size_of ⟨lk, ln⟩ a b x (of4_any ⟨lk, ln⟩ x ol.2 wx) o2 o3
  have s2 : ln ≤ 4611686018427387904 → SizeSays 15 ⟨lk, ln + more⟩ a b x := fun h => size_of _ a b x (of4_any ⟨lk, ln + more⟩ x (by unfold I64 at oN ⊢; simp only at oN ⊢; omega) wx) o2 o3
  have z2 : ofAuto ⟨lk, ln + more⟩ = ofAuto ⟨lk, ln⟩ := rfl
  have hn := size_facts ⟨lk, ln⟩ a b x
  have hm : 0 ≤ x → ofAuto ⟨lk, ln⟩ = false → sizeN ⟨lk, ln⟩ a b x ≤ sizeN ⟨lk, ln + more⟩ a b x := fun h1 h2 => size_grows lk ln a b more x h1 wm.1 h2
  have h0 : ofAuto ⟨lk, ln⟩ = true → sizeN ⟨lk, ln⟩ a b x = 0 := fun h => by unfold sizeN; rw [h]; rfl
  unfold OfSays at o2 o3
  unfold SizeSays at s1 s2
  rw [z2] at s2
  clear z2 ol oa ob
  have oN1 := oN.1
  have oN2 := oN.2
  simp only at oN1 oN2
  have wx1 := wx.1
  have wx2 := wx.2
  clear oN wx
  obtain ⟨wm1, wm2⟩ := wm
  generalize ofN a x = an at *
  generalize ofAuto a = az at *
  generalize ofFar a x = af at *
  generalize ofN b x = bn at *
  generalize ofAuto b = bz at *
  generalize ofFar b x = bf at *
  generalize ofAuto ⟨lk, ln⟩ = lz at *
  generalize sizeFar ⟨lk, ln⟩ a b x = sf at *
  generalize sizeFar ⟨lk, ln + more⟩ a b x = tf at *
  generalize sizeN ⟨lk, ln⟩ a b x = sn at *
  generalize sizeN ⟨lk, ln + more⟩ a b x = tn at *
  replace s2 := Lib.hid s2
  replace hn := Lib.hid hn
  replace hm := Lib.hid hm
  replace h0 := Lib.hid h0
  go_enter Try.func5, Try.ntmps5
  go_wp2_with fail
  generalize hW : World.alloc (World.alloc (World.alloc W _) _) _ = V
  obtain ⟨b1, b2, b3, hbV⟩ := boxes3 W (lenE ⟨lk, ln⟩) (lenE a) (lenE b) _ _ _ V hW
  clear hW
  have bx : LBoxes W ⟨lk, ln⟩ a b V := ⟨b1, b2, b3, hbV⟩
  clear b1 b2 b3 hbV
  refine (s1 _).mono ?_; rintro e w1 ⟨rfl, hb1⟩
  have bx := bx.below hb1
  have p := bx.cells
  clear hb1 s1
  go_wp2_with fail
  refine (o2 _).mono ?_; rintro e w2 ⟨rfl, hb1⟩
  have bx := bx.below hb1
  clear p hb1 o2
  have p := bx.cells
  go_wp2_with fail
  refine (o3 _).mono ?_; rintro e w3 ⟨rfl, hb1⟩
  replace bx := bx.below hb1
  clear p hb1 o3
  have p := bx.cells
  have p0 := bx.b1.free 1 (by simp [lenE])
  replace bx := Lib.hid bx
  cases lz
  case true =>
    have e0 := h0.out rfl
    subst e0
    clear hn hm h0 s2 p p0
    go_wp2_with (go_at_call 9; refine (works4_any _).mono ?_; rintro e w5 ⟨rfl, hb1⟩)
    go_ret
    exact ⟨rfl, bx.out.hb.trans (hb1.mono bx.out.hb.size)⟩
  case false =>
    obtain ⟨n1, n2, n3, n4⟩ := hn.out rfl
    replace n4 := Lib.hid n4
    by_cases hbig : 4611686018427387904 < ln ∨ x < 0
    · have q1 : 4611686018427387904 < ln ∨ ¬ 4611686018427387904 < ln ∧ x < 0 := by omega
      clear s2 hm h0 hn hbig
      by_cases k1 : an < sn
      · cases bz
        · have n5 := n4.out k1 rfl
          rcases q1 with q1 | ⟨q1, q2⟩ <;>
          · go_wp2_with (go_at_call 9; refine (works4_any _).mono ?_; rintro e w5 ⟨rfl, hb1⟩)
            go_ret
            exact ⟨rfl, bx.out.hb.trans (hb1.mono bx.out.hb.size)⟩
        · rcases q1 with q1 | ⟨q1, q2⟩ <;>
          · go_wp2_with (go_at_call 9; refine (works4_any _).mono ?_; rintro e w5 ⟨rfl, hb1⟩)
            go_ret
            exact ⟨rfl, bx.out.hb.trans (hb1.mono bx.out.hb.size)⟩
      · rcases q1 with q1 | ⟨q1, q2⟩ <;>
        · go_wp2_with (go_at_call 9; refine (works4_any _).mono ?_; rintro e w5 ⟨rfl, hb1⟩)
          go_ret
          exact ⟨rfl, bx.out.hb.trans (hb1.mono bx.out.hb.size)⟩
    · have q1 : ¬ 4611686018427387904 < ln := by omega
      have q2 : ¬ x < 0 := by omega
      have q3 := hm.out (by omega) rfl
      have hs := s2.out (by omega)
      replace hs := Lib.hid hs
      clear s2 hm h0 hn hbig
      have bp := Lib.hid (lb_put bx.out (ln + more))
      by_cases k1 : an < sn
      · cases bz
        · have n5 := n4.out k1 rfl
          go_wp2_with fail
          generalize hW : World.setCell _ _ _ = V1 at *
          refine (hs.out _).mono ?_; rintro e w5 ⟨rfl, hb1⟩
          have hf := Lib.hid (bp.out.hb.trans (hb1.mono bp.out.hb.size))
          clear hb1 p p0 hW
          go_wp2_with (go_at_call 9; refine (works4_any _).mono ?_; rintro e w6 ⟨rfl, hb1⟩)
          go_ret
          exact ⟨rfl, hf.out.trans (hb1.mono hf.out.size)⟩
        · go_wp2_with fail
          generalize hW : World.setCell _ _ _ = V1 at *
          refine (hs.out _).mono ?_; rintro e w5 ⟨rfl, hb1⟩
          have hf := Lib.hid (bp.out.hb.trans (hb1.mono bp.out.hb.size))
          clear hb1 p p0 hW
          go_wp2_with (go_at_call 9; refine (works4_any _).mono ?_; rintro e w6 ⟨rfl, hb1⟩)
          go_ret
          exact ⟨rfl, hf.out.trans (hb1.mono hf.out.size)⟩
      · go_wp2_with fail
        generalize hW : World.setCell _ _ _ = V1 at *
        refine (hs.out _).mono ?_; rintro e w5 ⟨rfl, hb1⟩
        have hf := Lib.hid (bp.out.hb.trans (hb1.mono bp.out.hb.size))
        clear hb1 p p0 hW
        go_wp2_with (go_at_call 9; refine (works4_any _).mono ?_; rintro e w6 ⟨rfl, hb1⟩)
        go_ret
        exact ⟨rfl, hf.out.trans (hb1.mono hf.out.size)⟩

set_option maxRecDepth 100000 in
theorem lifted (os : Os) (started : os.Started) (H : Type) (enc : TypeId × Value → H) :
    ReturnsInHanded {} Try.checked os 5 .any (Rows.styleSizesSpec.pre6 enc Try.prog Try.f5 Rows.styleSizesRow.domain false) (Rows.styleSizesSpec.post enc Try.prog Try.f5 false true false false) := by
  refine returnsInHanded_of_change (C := Try.checked) own started (by kernel_rfl) Try.func5
    (ChangeSpec.witness6 (enc := enc) (C := Try.checked) false ⟨#[], #[.agg #[.int .u8 0, .int .i64 0], .agg #[.int .u8 0, .int .i64 0], .agg #[.int .u8 0, .int .i64 0], .int .i64 0, .int .u16 0], []⟩ 5 (by kernel_rfl) (by kernel_rfl) (by kernel_rfl) (by kernel_rfl)) ?_
  intro W base args ds gs before hval0 hW hcnd _
  have hval : ∀ (j : Nat) t v, Try.f5.params[j]? = some t → args[j]? = some v → Value.okWide Try.prog W .any base t v := hval0
  have hW' := hW
  obtain ⟨p, q, hA0, hV, rfl, hfz, hnd⟩ := hW
  have hA : DataW.TrodAll enc Try.prog W 0 (fun _ => true) true Try.f5.params.toList args.toList ds p := hA0
  rw [Try.params5] at hA hval
  obtain ⟨v0, vs0, d0, ds0, p0, q0, hargs, rfl, rfl, h0, r0⟩ := trodAll_cons hA
  obtain ⟨v1, vs1, d1, ds1, p1, q1, rfl, rfl, rfl, h1, r1⟩ := trodAll_cons r0
  obtain ⟨v2, vs2, d2, ds2, p2, q2, rfl, rfl, rfl, h2, r2⟩ := trodAll_cons r1
  obtain ⟨v3, vs3, d3, ds3, p3, q3, rfl, rfl, rfl, h3, r3⟩ := trodAll_cons r2
  obtain ⟨v4, vs4, d4, ds4, p4, q4, rfl, rfl, rfl, h4, r4⟩ := trodAll_cons r3
  obtain ⟨rfl, rfl, rfl⟩ := trodAll_nil r4
  obtain rfl : args = #[v0, v1, v2, v3, v4] := by cases args; simp_all
  obtain ⟨rfl, rfl⟩ := trodVars_none hV
  obtain ⟨x0, rfl, o0⟩ := view_len (hval 0 23 v0 rfl rfl) h0
  obtain ⟨x1, rfl, o1⟩ := view_len (hval 1 23 v1 rfl rfl) h1
  obtain ⟨x2, rfl, o2⟩ := view_len (hval 2 23 v2 rfl rfl) h2
  obtain ⟨a3, rfl, -, -, w3⟩ := open_int Try.underlying2 (hval 3 2 v3 rfl rfl) h3
  obtain ⟨a4, rfl, -, -, w4⟩ := open_int Try.underlying36 (hval 4 36 v4 rfl rfl) h4
  refine (walk W x0 o0 x1 o1 x2 o2 a3 w3 a4 w4).mono fun e W' ⟨he, hg⟩ => ?_
  subst he
  exact ⟨_, rfl, law_post laidOut (by kernel_rfl) rfl Try.underlying4 rfl hW' rfl rfl rfl hg⟩

theorem over : Rows.styleSizesRow.holds Try.pinned (OpenSpec.ofChange Rows.styleSizesSpec) :=
  OpenClaim.holds_of_wide 5 Try.f5 rfl rfl rfl rfl rfl rfl rfl ⟨rfl, rfl, rfl, rfl, rfl⟩ rfl rfl rfl rfl rfl (by kernel_rfl) Try.func5 (by kernel_rfl)
    (of_decide_eq_true (by kernel_rfl)) (by unfold Func.isWrapper; first | (rw [if_pos (by decide +kernel)]; kernel_rfl) | (rw [if_neg (by decide +kernel)]; exact ⟨rfl, rfl⟩))
    (fun os started H enc _ => lifted os started H enc)

/-- The statement. -/
theorem proved : Rows.StyleSizesSaid := over
#print axioms proved
end Go.Proofs.Ytjjaeloamogfdaa.lawStyleSizes
