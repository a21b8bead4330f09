/-
  What au.Cut answers is the document's, and cut again it stays; so is what au.Within answers: for every input, no conditions.
-/
import Derived.Test.YteiohfgogpcmhaaWorks
import Derived.Test.YteiohfgogpcmhaaLaw
import Derived.Test.YteiohfgogpcmhaaCutRef
import Derived.ProofKit
import Derived.OpenShut
import Derived.BigGuard
namespace Go.Proofs.Yteiohfgogpcmhaa.lawAuCuts
open Go.ChangeShapes Go.WideShapes Go.ChangeAt Go.RowKit Go.Proofs.Yteiohfgogpcmhaa
set_option linter.unusedVariables false

theorem own : ownKnob Try.prog.godebug = none := by kernel_rfl

theorem cut_again (x : Int) : cutI (cutI x) = cutI x ∧ farI (cutI x) = false := by
  unfold cutI farI
  by_cases h : 1099511627776 < x
  · simp [h]
  · by_cases h2 : x < -1099511627776
    · simp [h, h2]
    · simp [h, h2]

set_option maxRecDepth 100000 in
set_option maxHeartbeats 1600000 in
theorem walk (x : Int) (w0 : (Lit.int .i64 x).wf = true) (l : Int) (w1 : (Lit.int .i64 l).wf = true) (m : Int) (w2 : (Lit.int .i64 m).wf = true) (w : World) :
    Calls Try.prog 3 #[.int .i64 x, .int .i64 l, .int .i64 m] w fun e w' => e = .returned (.bool true) ∧ Below w.heap.size w w' := by
  have hx : I64 x := bounds_i64 w0
  obtain ⟨y, hy⟩ : ∃ y, Hid (cutI x = y) := ⟨_, Lib.hid rfl⟩
  obtain ⟨g, hg⟩ : ∃ g, Hid (farI x = g) := ⟨_, Lib.hid rfl⟩
  obtain ⟨z, hz⟩ : ∃ z, Hid (withinI x l m = z) := ⟨_, Lib.hid rfl⟩
  have h2 : Hid (cutI y = y ∧ farI y = false) := Lib.hid (by rw [← hy.out]; exact cut_again x)
  have c1 : (y == y) = true := by simp
  have c2 : (z == z) = true := by simp
  have c3 : (g == g) = true := by simp
  go_enter Try.func3, Try.ntmps3
  go_wp2_with fail
  refine (cut_any x _).mono ?_; rintro e w' ⟨rfl, rfl⟩; rw [hy.out, hg.out]
  go_wp2_with fail
  refine (of_any x _ hx).mono ?_; rintro e u1 ⟨m1, E1, k1, cc1, l1, rfl, hk1, hv1, ht1, hS1, hb1, hfr1⟩
  have hv1 := Lib.hid hv1
  go_wp2_with fail
  refine (refcut_any m1 E1 k1 cc1 l1 _ hS1 (by omega)).mono ?_; rintro e u2 ⟨rfl, hb2⟩
  rw [hv1.out, hy.out, hg.out]
  have hbw := Lib.hid (hb1.trans (hb2.mono hb1.size))
  clear hb1 hb2 hS1 hv1 ht1 hfr1
  go_wp2_with fail
  refine (cut_any y _).mono ?_; rintro e w' ⟨rfl, rfl⟩; rw [h2.out.1, h2.out.2]
  go_wp2_with fail
  refine (within_any x l m _).mono ?_; rintro e w' ⟨rfl, rfl⟩; rw [hz.out]
  go_wp2_with fail
  refine (refwithin_any x l m _).mono ?_; rintro e w' ⟨rfl, rfl⟩; rw [hz.out]
  go_wp2_with fail
  refine (works_any _).mono ?_; rintro e u3 ⟨rfl, hq⟩
  have hbw := Lib.hid (hbw.out.trans (hq.1.mono hbw.out.size))
  clear hq
  go_wp2_with fail
  go_ret
  exact ⟨rfl, hbw.out⟩

set_option maxRecDepth 100000 in
theorem lifted (os : Os) (started : os.Started) (H : Type) (enc : TypeId × Value → H) :
    ReturnsInHanded {} Try.checked os 3 .any (Rows.auCutsSpec.pre6 enc Try.prog Try.f3 Rows.auCutsRow.domain false) (Rows.auCutsSpec.post enc Try.prog Try.f3 false true false false) := by
  refine returnsInHanded_of_change (C := Try.checked) own started (by kernel_rfl) Try.func3
    (ChangeSpec.witness6 (enc := enc) (C := Try.checked) false ⟨#[], #[.int .i64 0, .int .i64 0, .int .i64 0], []⟩ 3 (by kernel_rfl) (by kernel_rfl) (by kernel_rfl) (by kernel_rfl)) ?_
  intro W base args ds gs before hval0 hW hcnd _
  have hval : ∀ (j : Nat) t v, Try.f3.params[j]? = some t → args[j]? = some v → Value.okWide Try.prog W .any base t v := hval0
  have hW' := hW
  obtain ⟨p, q, hA0, hV, rfl, hfz, hnd⟩ := hW
  have hA : DataW.TrodAll enc Try.prog W 0 (fun _ => true) true Try.f3.params.toList args.toList ds p := hA0
  rw [Try.params3] at hA hval
  obtain ⟨v0, vs0, d0, ds0, p0, q0, hargs, rfl, rfl, h0, r0⟩ := trodAll_cons hA
  obtain ⟨v1, vs1, d1, ds1, p1, q1, rfl, rfl, rfl, h1, r1⟩ := trodAll_cons r0
  obtain ⟨v2, vs2, d2, ds2, p2, q2, rfl, rfl, rfl, h2, r2⟩ := trodAll_cons r1
  obtain ⟨rfl, rfl, rfl⟩ := trodAll_nil r2
  obtain rfl : args = #[v0, v1, v2] := by cases args; simp_all
  obtain ⟨rfl, rfl⟩ := trodVars_none hV
  obtain ⟨a0, rfl, -, -, w0⟩ := open_int Try.underlying2 (hval 0 2 v0 rfl rfl) h0
  obtain ⟨a1, rfl, -, -, w1⟩ := open_int Try.underlying2 (hval 1 2 v1 rfl rfl) h1
  obtain ⟨a2, rfl, -, -, w2⟩ := open_int Try.underlying2 (hval 2 2 v2 rfl rfl) h2
  refine (walk a0 w0 a1 w1 a2 w2 W).mono fun e W' ⟨he, hg⟩ => ?_
  subst he
  exact ⟨_, rfl, law_post laidOut (by kernel_rfl) rfl Try.underlying4 rfl hW' rfl rfl rfl hg⟩

theorem over : Rows.auCutsRow.holds Try.pinned (OpenSpec.ofChange Rows.auCutsSpec) :=
  OpenClaim.holds_of_wide 3 Try.f3 rfl rfl rfl rfl rfl rfl rfl ⟨rfl, rfl, rfl, rfl, rfl⟩ rfl rfl rfl rfl rfl (by kernel_rfl) Try.func3 (by kernel_rfl)
    (of_decide_eq_true (by kernel_rfl)) (by unfold Func.isWrapper; first | (rw [if_pos (by decide +kernel)]; kernel_rfl) | (rw [if_neg (by decide +kernel)]; exact ⟨rfl, rfl⟩))
    (fun os started H enc _ => lifted os started H enc)

/-- The statement. -/
theorem proved : Rows.AuCutsSaid := over
#print axioms proved
end Go.Proofs.Yteiohfgogpcmhaa.lawAuCuts
