/-
  No table has cells; none is too small or too great: for every input, no conditions.
-/
import Derived.Test.YthkngenmdogpjaaWorks3
import Derived.Test.YthkngenmdogpjaaLawCore
import Derived.ProofKit
import Derived.OpenShut
import Derived.BigGuard
namespace Go.Proofs.Ythkngenmdogpjaa.lawTableNil
open Go.ChangeShapes Go.WideShapes Go.ChangeAt Go.RowKit Go.Proofs.Ythkngenmdogpjaa
set_option linter.unusedVariables false

theorem own : ownKnob Try.prog.godebug = none := by kernel_rfl

set_option maxRecDepth 200000 in
set_option maxHeartbeats 1600000 in
theorem walk (W : World) (a0 : Int) (_w0 : (Lit.int .i64 a0).wf = true) (a1 : Int) (_w1 : (Lit.int .i64 a1).wf = true) (a2 : Int) (_w2 : (Lit.int .i64 a2).wf = true) :
    Calls Try.prog 6 #[.int .i64 a0, .int .i64 a1, .int .i64 a2] W fun e w' => e = .returned (.bool true) ∧ Below W.heap.size W w' := by
  by_cases hr : 0 ≤ a1 ∧ a1 ≤ 65536
  · obtain ⟨n, rfl⟩ := Int.eq_ofNat_of_zero_le hr.1
    have i1 : (0 : Int) ≤ (n : Int) := by omega
    have i2 : (n : Int) ≤ 65536 := by omega
    go_enter Try.func6, Try.ntmps6
    go_wp2_with fail
    refine (getI_nil a0 W).mono ?_; rintro e w' ⟨rfl, rfl⟩
    go_wp2_with fail
    refine (allI_nil W).mono ?_; rintro e w' ⟨rfl, rfl⟩
    go_wp2_with fail
    refine (newI_h n (by omega) W).mono ?_; rintro e w1 ⟨tb, cb, vb, rfl, hN⟩
    have b1 := Lib.hid hN.bl
    clear hN
    go_wp2_with (first | (go_at_call 24; refine (putI_nil a0 a2 w1).mono ?_; rintro e w2 ⟨rfl, hb⟩; have b2 := Lib.hid (b1.out.trans (hb.mono b1.out.size)); clear hb) | (go_at_call 25; refine (sizeI_nil _).mono ?_; rintro e w' ⟨rfl, rfl⟩) | (go_at_call 26; refine (leftI_nil _).mono ?_; rintro e w' ⟨rfl, rfl⟩) | (go_at_call 8; refine (works3_any _).mono ?_; rintro e w3 ⟨rfl, hb⟩; have b3 := Lib.hid (b2.out.trans (hb.mono b2.out.size)); clear hb))
    go_ret
    exact ⟨rfl, b3.out⟩
  · have hr2 : a1 < 0 ∨ 65536 < a1 := by omega
    have kn := newI_no a1 W hr2
    have hr3 : (a1 < 0 ∧ ¬ 0 ≤ a1) ∨ (0 ≤ a1 ∧ ¬ a1 ≤ 65536) := by omega
    clear hr hr2
    rcases hr3 with ⟨i1, i2⟩ | ⟨i1, i2⟩
    all_goals
      have i3 := decide_eq_false i2
      go_enter Try.func6, Try.ntmps6
      go_wp2_with fail
      refine (getI_nil a0 W).mono ?_; rintro e w' ⟨rfl, rfl⟩
      go_wp2_with fail
      refine (allI_nil W).mono ?_; rintro e w' ⟨rfl, rfl⟩
      go_wp2_with fail
      refine kn.mono ?_; rintro e w' ⟨rfl, rfl⟩
      go_wp2_with (first | (go_at_call 24; refine (putI_nil a0 a2 W).mono ?_; rintro e w2 ⟨rfl, b2⟩) | (go_at_call 25; refine (sizeI_nil _).mono ?_; rintro e w' ⟨rfl, rfl⟩) | (go_at_call 26; refine (leftI_nil _).mono ?_; rintro e w' ⟨rfl, rfl⟩) | (go_at_call 8; refine (works3_any _).mono ?_; rintro e w3 ⟨rfl, hb⟩; have b3 := Lib.hid (b2.trans (hb.mono b2.size)); clear hb))
      go_ret
      exact ⟨rfl, b3.out⟩

set_option maxRecDepth 100000 in
theorem lifted (os : Os) (started : os.Started) (H : Type) (enc : TypeId × Value → H) :
    ReturnsInHanded {} Try.checked os 6 .any (Rows.tableNilSpec.pre6 enc Try.prog Try.f6 Rows.tableNilRow.domain false) (Rows.tableNilSpec.post enc Try.prog Try.f6 false true false false) := by
  refine returnsInHanded_of_change (C := Try.checked) own started (by kernel_rfl) Try.func6
    (ChangeSpec.witness6 (enc := enc) (C := Try.checked) false ⟨#[], #[.int .i64 0, .int .i64 0, .int .i64 0], []⟩ 6 (by kernel_rfl) (by kernel_rfl) (by kernel_rfl) (by kernel_rfl)) ?_
  intro W base args ds gs before hval0 hW hcnd _
  have hval : ∀ (j : Nat) t v, Try.f6.params[j]? = some t → args[j]? = some v → Value.okWide Try.prog W .any base t v := hval0
  have hW' := hW
  obtain ⟨p, q, hA0, hV, rfl, hfz, hnd⟩ := hW
  have hA : DataW.TrodAll enc Try.prog W 0 (fun _ => true) true Try.f6.params.toList args.toList ds p := hA0
  rw [Try.params6] at hA hval
  obtain ⟨v0, vs0, d0, ds0, p0, q0, hargs, rfl, rfl, h0, r0⟩ := trodAll_cons hA
  obtain ⟨v1, vs1, d1, ds1, p1, q1, rfl, rfl, rfl, h1, r1⟩ := trodAll_cons r0
  obtain ⟨v2, vs2, d2, ds2, p2, q2, rfl, rfl, rfl, h2, r2⟩ := trodAll_cons r1
  obtain ⟨rfl, rfl, rfl⟩ := trodAll_nil r2
  obtain rfl : args = #[v0, v1, v2] := by cases args; simp_all
  obtain ⟨rfl, rfl⟩ := trodVars_none hV
  obtain ⟨a0, rfl, -, -, w0⟩ := open_int Try.underlying3 (hval 0 3 v0 rfl rfl) h0
  obtain ⟨a1, rfl, -, -, w1⟩ := open_int Try.underlying3 (hval 1 3 v1 rfl rfl) h1
  obtain ⟨a2, rfl, -, -, w2⟩ := open_int Try.underlying2 (hval 2 2 v2 rfl rfl) h2
  refine (walk W a0 w0 a1 w1 a2 w2).mono fun e W' ⟨he, hg⟩ => ?_
  subst he
  exact ⟨_, rfl, law_post laidOut (by kernel_rfl) rfl Try.underlying4 rfl hW' rfl rfl rfl hg⟩

theorem over : Rows.tableNilRow.holds Try.pinned (OpenSpec.ofChange Rows.tableNilSpec) :=
  OpenClaim.holds_of_wide 6 Try.f6 rfl rfl rfl rfl rfl rfl rfl ⟨rfl, rfl, rfl, rfl, rfl⟩ rfl rfl rfl rfl rfl (by kernel_rfl) Try.func6 (by kernel_rfl)
    (of_decide_eq_true (by kernel_rfl)) (by unfold Func.isWrapper; first | (rw [if_pos (by decide +kernel)]; kernel_rfl) | (rw [if_neg (by decide +kernel)]; exact ⟨rfl, rfl⟩))
    (fun os started H enc _ => lifted os started H enc)

/-- The statement. -/
theorem proved : Rows.TableNilSaid := over
#print axioms proved
end Go.Proofs.Ythkngenmdogpjaa.lawTableNil
