/-
  What au.MulDiv answers is the document's floor of a product's quotient, and au.Part's so: for every input, no conditions.
-/
import Derived.Test.YteiohfgogpcmhaaWorks
import Derived.Test.YteiohfgogpcmhaaLaw
import Derived.Test.YteiohfgogpcmhaaDivRef
import Derived.ProofKit
import Derived.OpenShut
import Derived.BigGuard
namespace Go.Proofs.Yteiohfgogpcmhaa.lawAuParts
open Go.ChangeShapes Go.WideShapes Go.ChangeAt Go.RowKit Go.Proofs.Yteiohfgogpcmhaa
set_option linter.unusedVariables false

theorem own : ownKnob Try.prog.godebug = none := by kernel_rfl

set_option maxRecDepth 100000 in
set_option maxHeartbeats 1600000 in
theorem rest_ (a b c : Int) (X : Int) (G : Bool) (hG : (G == G) = true) (hX : (X == X) = true) (ha : I64 a) (hb : I64 b) (w : World)
    (h1 : Hid (∀ w, Calls Try.prog 18 #[.int .i64 a, .int .i64 b, .int .i64 c] w fun e w' => e = .returned (.tuple #[.int .i64 X, .bool G]) ∧ ∃ n, w.drewN n = w'))
    (h2 : Hid (∀ w, Calls Try.prog 19 #[.int .i64 a, .int .i64 b, .int .i64 c] w fun e w' => e = .returned (.tuple #[.int .i64 X, .bool G]) ∧ Below w.heap.size w w')) :
    Calls Try.prog 5 #[.int .i64 a, .int .i64 b, .int .i64 c] w fun e w' => e = .returned (.bool true) ∧ Below w.heap.size w w' := by
  obtain ⟨Y, hY⟩ : ∃ Y, Hid (cutI (qI a b 10000) = Y) := ⟨_, Lib.hid rfl⟩
  obtain ⟨F, hF⟩ : ∃ F, Hid (farI (qI a b 10000) = F) := ⟨_, Lib.hid rfl⟩
  have hYY : (Y == Y) = true := by simp
  have hFF : (F == F) = true := by simp
  have ha' := Lib.hid ha
  have hb' := Lib.hid hb
  clear ha hb
  go_enter Try.func5, Try.ntmps5
  go_wp2_with fail
  refine (h1.out _).mono ?_; rintro e w1 ⟨rfl, n1, rfl⟩
  go_wp2_with fail
  refine (h2.out _).mono ?_; rintro e w2 ⟨rfl, hb2⟩
  have hbw := Lib.hid (((Qt.refl w.heap.size w).drewN n1).1.trans hb2)
  clear hb2
  go_wp2_with fail
  refine (part_any a b ha'.out.1 ha'.out.2 hb'.out.1 hb'.out.2 _).mono ?_; rintro e w3 ⟨rfl, n2, rfl⟩
  rw [hY.out, hF.out]
  go_wp2_with fail
  refine (refmuldiv_any a b 10000 ha'.out hb'.out (by constructor <;> decide) (by decide) _).mono ?_; rintro e w4 ⟨rfl, hb4⟩
  rw [hY.out, hF.out]
  have hbw := Lib.hid ((((Qt.refl w2.heap.size w2).drewN n2).1.trans hb4))
  have hbw2 := Lib.hid (‹Hid (Below w.heap.size w w2)›.out.trans (hbw.out.mono ‹Hid (Below w.heap.size w w2)›.out.size))
  clear hb4
  go_wp2_with fail
  refine (works_any _).mono ?_; rintro e w5 ⟨rfl, hq⟩
  have hbw3 := Lib.hid (hbw2.out.trans (hq.1.mono hbw2.out.size))
  clear hq
  go_wp2_with fail
  go_ret
  exact ⟨rfl, hbw3.out⟩

theorem walk (a : Int) (w0 : (Lit.int .i64 a).wf = true) (b : Int) (w1 : (Lit.int .i64 b).wf = true) (c : Int) (w2 : (Lit.int .i64 c).wf = true) (w : World) :
    Calls Try.prog 5 #[.int .i64 a, .int .i64 b, .int .i64 c] w fun e w' => e = .returned (.bool true) ∧ Below w.heap.size w w' := by
  have ha : I64 a := bounds_i64 w0
  have hb : I64 b := bounds_i64 w1
  have hc : I64 c := bounds_i64 w2
  by_cases h : c = 0
  · subst h
    exact rest_ a b 0 0 true rfl rfl ha hb w (Lib.hid fun w => md_zero a b w) (Lib.hid fun w => (refmuldiv_zero a b w).mono fun e w' ⟨he, hw⟩ => ⟨he, by rw [← hw]; exact Below.refl _ _⟩)
  · exact rest_ a b c (cutI (qI a b c)) (farI (qI a b c)) (by simp) (by simp) ha hb w (Lib.hid fun w => muldiv_any a b c ha.1 ha.2 hb.1 hb.2 hc.1 hc.2 h w) (Lib.hid fun w => refmuldiv_any a b c ha hb hc h w)

set_option maxRecDepth 100000 in
theorem lifted (os : Os) (started : os.Started) (H : Type) (enc : TypeId × Value → H) :
    ReturnsInHanded {} Try.checked os 5 .any (Rows.auPartsSpec.pre6 enc Try.prog Try.f5 Rows.auPartsRow.domain false) (Rows.auPartsSpec.post enc Try.prog Try.f5 false true false false) := by
  refine returnsInHanded_of_change (C := Try.checked) own started (by kernel_rfl) Try.func5
    (ChangeSpec.witness6 (enc := enc) (C := Try.checked) false ⟨#[], #[.int .i64 0, .int .i64 0, .int .i64 0], []⟩ 5 (by kernel_rfl) (by kernel_rfl) (by kernel_rfl) (by kernel_rfl)) ?_
  intro W base args ds gs before hval0 hW hcnd _
  have hval : ∀ (j : Nat) t v, Try.f5.params[j]? = some t → args[j]? = some v → Value.okWide Try.prog W .any base t v := hval0
  have hW' := hW
  obtain ⟨p, q, hA0, hV, rfl, hfz, hnd⟩ := hW
  have hA : DataW.TrodAll enc Try.prog W 0 (fun _ => true) true Try.f5.params.toList args.toList ds p := hA0
  rw [Try.params5] at hA hval
  obtain ⟨v0, vs0, d0, ds0, p0, q0, hargs, rfl, rfl, h0, r0⟩ := trodAll_cons hA
  obtain ⟨v1, vs1, d1, ds1, p1, q1, rfl, rfl, rfl, h1, r1⟩ := trodAll_cons r0
  obtain ⟨v2, vs2, d2, ds2, p2, q2, rfl, rfl, rfl, h2, r2⟩ := trodAll_cons r1
  obtain ⟨rfl, rfl, rfl⟩ := trodAll_nil r2
  obtain rfl : args = #[v0, v1, v2] := by cases args; simp_all
  obtain ⟨rfl, rfl⟩ := trodVars_none hV
  obtain ⟨a0, rfl, -, -, w0⟩ := open_int Try.underlying2 (hval 0 2 v0 rfl rfl) h0
  obtain ⟨a1, rfl, -, -, w1⟩ := open_int Try.underlying2 (hval 1 2 v1 rfl rfl) h1
  obtain ⟨a2, rfl, -, -, w2⟩ := open_int Try.underlying2 (hval 2 2 v2 rfl rfl) h2
  refine (walk a0 w0 a1 w1 a2 w2 W).mono fun e W' ⟨he, hg⟩ => ?_
  subst he
  exact ⟨_, rfl, law_post laidOut (by kernel_rfl) rfl Try.underlying4 rfl hW' rfl rfl rfl hg⟩

theorem over : Rows.auPartsRow.holds Try.pinned (OpenSpec.ofChange Rows.auPartsSpec) :=
  OpenClaim.holds_of_wide 5 Try.f5 rfl rfl rfl rfl rfl rfl rfl ⟨rfl, rfl, rfl, rfl, rfl⟩ rfl rfl rfl rfl rfl (by kernel_rfl) Try.func5 (by kernel_rfl)
    (of_decide_eq_true (by kernel_rfl)) (by unfold Func.isWrapper; first | (rw [if_pos (by decide +kernel)]; kernel_rfl) | (rw [if_neg (by decide +kernel)]; exact ⟨rfl, rfl⟩))
    (fun os started H enc _ => lifted os started H enc)

/-- The statement. -/
theorem proved : Rows.AuPartsSaid := over
#print axioms proved
end Go.Proofs.Yteiohfgogpcmhaa.lawAuParts
