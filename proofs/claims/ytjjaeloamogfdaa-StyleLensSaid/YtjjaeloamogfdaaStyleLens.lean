/-
  What style.Of and Size answer of any lengths is the document's: for every input, no conditions.
-/
import Derived.Test.YtjjaeloamogfdaaWorks4
import Derived.Test.YtjjaeloamogfdaaView5
import Derived.Test.YtjjaeloamogfdaaLaw
import Derived.Test.YtjjaeloamogfdaaRof4
import Derived.ProofKit
import Derived.OpenShut
import Derived.BigGuard
namespace Go.Proofs.Ytjjaeloamogfdaa.lawStyleLens
open Go.ChangeShapes Go.WideShapes Go.ChangeAt Go.RowKit Go.Proofs.Ytjjaeloamogfdaa
set_option linter.unusedVariables false

theorem own : ownKnob Try.prog.godebug = none := by kernel_rfl

set_option maxRecDepth 100000 in
set_option maxHeartbeats 1600000 in
theorem walk (W : World) (l : LenV) (ol : LenOk l) (a : LenV) (oa : LenOk a) (b : LenV) (ob : LenOk b) (x : Int) (wx0 : (Lit.int .i64 x).wf = true) :
    Calls Try.prog 4 #[.agg #[.int .u8 l.k, .int .i64 l.n], .agg #[.int .u8 a.k, .int .i64 a.n], .agg #[.int .u8 b.k, .int .i64 b.n], .int .i64 x] W fun e w' => e = .returned (.bool true) ∧ Below W.heap.size W w' := by
  have wx : I64 x := bounds_i64 wx0
  have o1 := of4_any l x ol.2 wx
  have o2 := rof4_any l x ol.2 wx
  have s1 := size_of l a b x o1 (of4_any a x oa.2 wx) (of4_any b x ob.2 wx)
  have s2 := rsize_of l a b x o2 (rof4_any a x oa.2 wx) (rof4_any b x ob.2 wx)
  clear ol oa ob wx wx0
  unfold OfSays at o1 o2
  unfold SizeSays at s1 s2
  generalize ofN l x = n1 at *
  generalize ofAuto l = n2 at *
  generalize ofFar l x = n3 at *
  generalize sizeN l a b x = m1 at *
  generalize sizeFar l a b x = m3 at *
  go_enter Try.func4, Try.ntmps4
  go_wp2_with fail
  generalize hW : World.alloc (World.alloc (World.alloc W _) _) _ = V
  obtain ⟨b1, b2, b3, hbV⟩ := boxes3 W (lenE l) (lenE a) (lenE b) _ _ _ V hW
  clear hW
  have bx : LBoxes W l a b V := ⟨b1, b2, b3, hbV⟩
  clear b1 b2 b3 hbV
  refine (o1 _).mono ?_; rintro e w1 ⟨rfl, hb1⟩
  have bx := bx.below hb1
  have p := bx.cells
  clear hb1
  go_wp2_with fail
  refine (o2 _).mono ?_; rintro e w2 ⟨rfl, hb1⟩
  have bx := bx.below hb1
  clear p hb1
  have p := bx.cells
  go_wp2_with fail
  refine (s1 _).mono ?_; rintro e w3 ⟨rfl, hb1⟩
  have bx := bx.below hb1
  clear p hb1
  have p := bx.cells
  go_wp2_with fail
  refine (s2 _).mono ?_; rintro e w4 ⟨rfl, hb1⟩
  replace bx := Lib.hid (bx.below hb1)
  clear p hb1
  go_wp2_with (go_at_call 9; refine (works4_any _).mono ?_; rintro e w5 ⟨rfl, hb1⟩)
  go_ret
  exact ⟨rfl, bx.out.hb.trans (hb1.mono bx.out.hb.size)⟩

set_option maxRecDepth 100000 in
theorem lifted (os : Os) (started : os.Started) (H : Type) (enc : TypeId × Value → H) :
    ReturnsInHanded {} Try.checked os 4 .any (Rows.styleLensSpec.pre6 enc Try.prog Try.f4 Rows.styleLensRow.domain false) (Rows.styleLensSpec.post enc Try.prog Try.f4 false true false false) := by
  refine returnsInHanded_of_change (C := Try.checked) own started (by kernel_rfl) Try.func4
    (ChangeSpec.witness6 (enc := enc) (C := Try.checked) false ⟨#[], #[.agg #[.int .u8 0, .int .i64 0], .agg #[.int .u8 0, .int .i64 0], .agg #[.int .u8 0, .int .i64 0], .int .i64 0], []⟩ 4 (by kernel_rfl) (by kernel_rfl) (by kernel_rfl) (by kernel_rfl)) ?_
  intro W base args ds gs before hval0 hW hcnd _
  have hval : ∀ (j : Nat) t v, Try.f4.params[j]? = some t → args[j]? = some v → Value.okWide Try.prog W .any base t v := hval0
  have hW' := hW
  obtain ⟨p, q, hA0, hV, rfl, hfz, hnd⟩ := hW
  have hA : DataW.TrodAll enc Try.prog W 0 (fun _ => true) true Try.f4.params.toList args.toList ds p := hA0
  rw [Try.params4] at hA hval
  obtain ⟨v0, vs0, d0, ds0, p0, q0, hargs, rfl, rfl, h0, r0⟩ := trodAll_cons hA
  obtain ⟨v1, vs1, d1, ds1, p1, q1, rfl, rfl, rfl, h1, r1⟩ := trodAll_cons r0
  obtain ⟨v2, vs2, d2, ds2, p2, q2, rfl, rfl, rfl, h2, r2⟩ := trodAll_cons r1
  obtain ⟨v3, vs3, d3, ds3, p3, q3, rfl, rfl, rfl, h3, r3⟩ := trodAll_cons r2
  obtain ⟨rfl, rfl, rfl⟩ := trodAll_nil r3
  obtain rfl : args = #[v0, v1, v2, v3] := by cases args; simp_all
  obtain ⟨rfl, rfl⟩ := trodVars_none hV
  obtain ⟨x0, rfl, o0⟩ := view_len (hval 0 23 v0 rfl rfl) h0
  obtain ⟨x1, rfl, o1⟩ := view_len (hval 1 23 v1 rfl rfl) h1
  obtain ⟨x2, rfl, o2⟩ := view_len (hval 2 23 v2 rfl rfl) h2
  obtain ⟨a3, rfl, -, -, w3⟩ := open_int Try.underlying2 (hval 3 2 v3 rfl rfl) h3
  refine (walk W x0 o0 x1 o1 x2 o2 a3 w3).mono fun e W' ⟨he, hg⟩ => ?_
  subst he
  exact ⟨_, rfl, law_post laidOut (by kernel_rfl) rfl Try.underlying4 rfl hW' rfl rfl rfl hg⟩

theorem over : Rows.styleLensRow.holds Try.pinned (OpenSpec.ofChange Rows.styleLensSpec) :=
  OpenClaim.holds_of_wide 4 Try.f4 rfl rfl rfl rfl rfl rfl rfl ⟨rfl, rfl, rfl, rfl, rfl⟩ rfl rfl rfl rfl rfl (by kernel_rfl) Try.func4 (by kernel_rfl)
    (of_decide_eq_true (by kernel_rfl)) (by unfold Func.isWrapper; first | (rw [if_pos (by decide +kernel)]; kernel_rfl) | (rw [if_neg (by decide +kernel)]; exact ⟨rfl, rfl⟩))
    (fun os started H enc _ => lifted os started H enc)

/-- The statement. -/
theorem proved : Rows.StyleLensSaid := over
#print axioms proved
end Go.Proofs.Ytjjaeloamogfdaa.lawStyleLens
