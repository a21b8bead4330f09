/-
  Whether any tree may be, or which node is wrong first, and why, is the document's answer, and the tree stays: for every input, no conditions.
-/
import Derived.Test.YtcgblbbadbkdgaaWorks5
import Derived.Test.YtcgblbbadbkdgaaLawCore
import Derived.Test.YtcgblbbadbkdgaaVast5
import Derived.Test.YtcgblbbadbkdgaaCopy5
import Derived.Test.YtcgblbbadbkdgaaRCheck
import Derived.Test.YtcgblbbadbkdgaaSame5
import Derived.Deep.DeepCutAuto
import Derived.Deep.RegionHeld3
import Derived.SizedLaws
import Derived.ProofKit
import Derived.OpenShut
import Derived.BigGuard
namespace Go.Proofs.Ytcgblbbadbkdgaa.lawTreeChecks
open Go.ChangeShapes Go.WideShapes Go.ChangeAt Go.RowKit Go.Proofs.Ytcgblbbadbkdgaa
set_option linter.unusedVariables false

theorem own : ownKnob Try.prog.godebug = none := by kernel_rfl

set_option maxRecDepth 100000 in
set_option maxHeartbeats 3200000 in
theorem walk (W : World) (t : TreeV) (ot : TreeOk W t) :
    Calls Try.prog 4 #[.agg #[.slice t.na t.nn t.nc, .slice t.aa t.an t.ac, .int .i64 t.view]] W fun e w' => e = .returned (.bool true) ∧ Below W.heap.size W w' := by
  have hw := fun w => works5_any w
  have hln := Lib.hid ot.at_.nodes.len
  go_enter Try.func4, Try.ntmps4
  go_upto_region 1 with fail
  generalize hW : World.alloc W _ = V
  have hT := TBox.start ot.at_ hW
  obtain ⟨g, hg⟩ : ∃ g, g = W.heap.size := ⟨_, rfl⟩
  rw [← hg] at hT ⊢
  clear hW hg
  obtain ⟨k0, k1, k2⟩ := hT.cells
  have ks := small_h t V (Lib.hid (ot.below hT.hb))
  replace hT := Lib.hid hT
  replace ot := Lib.hid ot
  cases hsm : smallB t
  case false =>
    rw [hsm] at ks
    go_wp2_with (first | (go_at_call 15; refine ks.mono ?_; rintro e w1 ⟨rfl, hb1⟩; have hT1 := Lib.hid (hT.out.below hb1)) | (go_at_call 16; refine (hw _).mono ?_; rintro e w2 ⟨rfl, hb2⟩))
    go_ret
    exact ⟨rfl, hT1.out.hb.trans (hb2.mono hT1.out.hb.size)⟩
  rw [hsm] at ks
  have sm := small_of hsm hln.out
  have hnn := sm.nn
  have han := sm.an
  have hun := Lib.hid sm.un
  clear sm hsm
  go_upto_region 3 with (go_at_call 15; refine ks.mono ?_; rintro e w1 ⟨rfl, hb1⟩)
  replace hT := Lib.hid (hT.out.below hb1)
  clear ks hb1 k0 k1 k2
  obtain ⟨k0, k1, k2⟩ := hT.out.cells
  have kc := copy_h t w1 (Lib.hid (ot.out.below hT.out.hb)) (by omega) (by omega) (Lib.hid (fun x hx => by have := hun.out x hx; omega))
  go_upto_region 4 with (go_at_call 17; refine kc.mono ?_; rintro e w2 ⟨A, c, B, b, ms, rfl, hA2, hO2, hb2⟩)
  generalize hW : World.alloc w2 _ = V3
  have hu3 : TBox w2 w2.heap.size ⟨A, t.nn, c, ms, B, t.an, b, t.av, t.view⟩ V3 := TBox.start hA2 hW
  obtain ⟨q, hq⟩ : ∃ q, q = w2.heap.size := ⟨_, rfl⟩
  rw [← hq] at hu3 ⊢
  replace hT := Lib.hid ((hT.out.below hb2).below hu3.hb)
  have hst := Lib.hid (check_alike t.av t.view hO2.strips)
  replace hb2 := Lib.hid hb2
  replace hO2 := Lib.hid hO2
  clear hW hq kc k0 k1 k2 hA2
  obtain ⟨u0, u1, u2⟩ := hu3.cells
  obtain ⟨k0, k1, k2⟩ := hT.out.cells
  have k4 := check_h ⟨A, t.nn, c, ms, B, t.an, b, t.av, t.view⟩ V3 (Lib.hid hu3.at_) (by simp only; omega) (by simp only; omega)
  simp only at k4 u0 u1 u2
  rw [← hst.out] at k4
  replace hu3 := Lib.hid hu3
  obtain ⟨⟨i, e⟩, hie⟩ : ∃ p, checkI t.ns t.av t.view = p := ⟨_, rfl⟩
  have k5 := fun w h => rcheck_h t w h (by omega) (by omega)
  rw [hie] at k4 k5
  go_upto_region 5 with (go_at_call 18; refine k4.mono ?_; rintro e' w4 ⟨rfl, hb4⟩)
  replace hT := Lib.hid (hT.out.below hb4)
  replace hu3 := Lib.hid (hu3.out.below hb4)
  clear k0 k1 k2 u0 u1 u2 k4 hb4
  obtain ⟨k0, k1, k2⟩ := hT.out.cells
  go_upto_region 6 with (go_at_call 19; refine (k5 w4 (Lib.hid hT.out.at_)).mono ?_; rintro e' w5 ⟨rfl, hb5⟩)
  replace hT := Lib.hid (hT.out.below hb5)
  replace hu3 := Lib.hid (hu3.out.below hb5)
  clear k0 k1 k2 hb5
  obtain ⟨k0, k1, k2⟩ := hT.out.cells
  have huc := hu3.out.cells
  simp only at huc
  obtain ⟨u0, u1, u2⟩ := huc
  have hlow := Lib.hid (hO2.out.below hu3.out.hb)
  have kS := fun hb0 => same5_h t ⟨A, t.nn, c, ms, B, t.an, b, t.av, t.view⟩ w1 w5 (Lib.hid hT.out.at_) (Lib.hid hu3.out.at_) (Lib.hid hb0) hlow rfl rfl rfl rfl (by omega) (by omega) (Lib.hid (fun x hx => by have := hun.out x hx; omega))
  have kS := kS (hb2.out.trans (hu3.out.hb.mono hb2.out.size))
  simp only at kS
  clear hlow k5 hie
  go_wp2_with (first | (go_at_call 20; refine kS.mono ?_; rintro e' w6 ⟨rfl, hb6⟩; have hT6 := Lib.hid (hT.out.below hb6)) | (go_at_call 16; refine (hw _).mono ?_; rintro e3 w7 ⟨rfl, hb7⟩))
  go_ret
  exact ⟨rfl, hT6.out.hb.trans (hb7.mono hT6.out.hb.size)⟩

set_option maxRecDepth 100000 in
theorem lifted (os : Os) (started : os.Started) (H : Type) (enc : TypeId × Value → H) :
    ReturnsInHanded {} Try.checked os 4 .any (Rows.treeChecksSpec.pre6 enc Try.prog Try.f4 Rows.treeChecksRow.domain false) (Rows.treeChecksSpec.post enc Try.prog Try.f4 false true false false) := by
  refine returnsInHanded_of_change_sized (C := Try.checked) own started (by kernel_rfl) Try.func4
    (ChangeSpec.witness6 (enc := enc) (C := Try.checked) false ⟨#[], #[.agg #[.slice none 0 0, .slice none 0 0, .int .i64 0]], []⟩ 20 (by kernel_rfl) (by kernel_rfl) (by kernel_rfl) (by kernel_rfl)) ?_
  intro W base args ds gs before hval0 hW hcnd hsz0 _
  have hsz : (DataW.weightsEach Try.prog (Try.f4.params.toList ++ Rows.treeChecksSpec.plain.varTypes Try.prog) (ds ++ gs)).all (· ≤ reachBytes) = true := hsz0
  clear hsz0
  have hval : ∀ (j : Nat) t v, Try.f4.params[j]? = some t → args[j]? = some v → Value.okWide Try.prog W .any base t v := hval0
  have hW' := hW
  obtain ⟨p, q, hA0, hV, rfl, hfz, hnd⟩ := hW
  have hA : DataW.TrodAll enc Try.prog W 0 (fun _ => true) true Try.f4.params.toList args.toList ds p := hA0
  rw [Try.params4] at hA hval hsz
  obtain ⟨v0, vs0, d0, ds0, p0, q0, hargs, rfl, rfl, h0, r0⟩ := trodAll_cons hA
  obtain ⟨rfl, rfl, rfl⟩ := trodAll_nil r0
  obtain rfl : args = #[v0] := by cases args; simp_all
  obtain ⟨rfl, rfl⟩ := trodVars_none hV
  have hw0 : ∀ n ∈ DataW.weights Try.prog 35 d0, n ≤ reachBytes := fun n hn => by simpa using List.all_eq_true.1 hsz n (DataW.weights_mem_each (j := 0) rfl rfl n hn)
  obtain ⟨x0, rfl, o0⟩ := view_tree hw0 (hval 0 35 v0 rfl rfl) h0
  refine (walk W x0 o0).mono fun e W' ⟨he, hg⟩ => ?_
  subst he
  exact ⟨_, rfl, law_post laidOut (by kernel_rfl) rfl Try.underlying4 rfl hW' rfl rfl rfl hg⟩

theorem over : Rows.treeChecksRow.holds Try.pinned (OpenSpec.ofChange Rows.treeChecksSpec) :=
  OpenClaim.holds_of_wide 4 Try.f4 rfl rfl rfl rfl rfl rfl rfl ⟨rfl, rfl, rfl, rfl, rfl⟩ rfl rfl rfl rfl rfl (by kernel_rfl) Try.func4 (by kernel_rfl)
    (of_decide_eq_true (by kernel_rfl)) (by unfold Func.isWrapper; first | (rw [if_pos (by decide +kernel)]; kernel_rfl) | (rw [if_neg (by decide +kernel)]; exact ⟨rfl, rfl⟩))
    (fun os started H enc _ => lifted os started H enc)

/-- The statement. -/
theorem proved : Rows.TreeChecksSaid := over
#print axioms proved
end Go.Proofs.Ytcgblbbadbkdgaa.lawTreeChecks
