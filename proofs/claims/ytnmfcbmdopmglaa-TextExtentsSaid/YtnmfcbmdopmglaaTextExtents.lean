/-
  How wide any words are at least and at most is what the document says: for every input, no conditions.
-/
import Derived.Test.YtnmfcbmdopmglaaWorks6
import Derived.Test.YtnmfcbmdopmglaaView8
import Derived.Test.YtnmfcbmdopmglaaLaw
import Derived.Test.YtnmfcbmdopmglaaExist6
import Derived.Test.YtnmfcbmdopmglaaRExtent
import Derived.Deep.DeepCutAuto
import Derived.Deep.RegionHeld3
import Derived.ProofKit
import Derived.OpenShut
import Derived.BigGuard
namespace Go.Proofs.Ytnmfcbmdopmglaa.lawTextExtents
open Go.ChangeShapes Go.WideShapes Go.ChangeAt Go.RowKit Go.Proofs.Ytnmfcbmdopmglaa
set_option linter.unusedVariables false

theorem own : ownKnob Try.prog.godebug = none := by kernel_rfl

set_option maxRecDepth 100000 in
set_option maxHeartbeats 1600000 in
theorem walk (W : World) (R : Option Addr) (n c : Nat) (l : List Wrd) (hm : c ≤ maxLen) (hS : Sl wrdE W R n c l) (hl : ∀ r ∈ l, WrdOk r) :
    Calls Try.prog 5 #[.slice R n c] W fun e w' => e = .returned (.bool true) ∧ Below W.heap.size W w' := by
  obtain ⟨rs, hrs⟩ := rwhl_exists l
  replace hS := Lib.hid hS
  replace hl := Lib.hid hl
  replace hrs := Lib.hid hrs
  clear hm
  by_cases hbig : 300 < n
  · have hb' : (300 : Int) < (n : Int) := by omega
    go_enter Try.func5, Try.ntmps5
    go_wp2_with fail
    refine (works6_h _).mono ?_; rintro e w1 ⟨rfl, hb1⟩
    replace hb1 := Lib.hid hb1
    go_wp2_with fail
    go_ret
    exact ⟨rfl, hb1.out⟩
  have hb' : ¬ (300 : Int) < (n : Int) := by omega
  have hnil := hS.out.nil
  replace hnil := Lib.hid hnil
  have hn1 : n ≤ 300 := by omega
  have hI := Lib.hid (hS.out.at_.keep ((Below.refl _ W).alloc (Nat.le_refl _) (.cells #[] 58)))
  have hown : Hid ((W.alloc (.cells #[] 58)).ownsRow W.heap.size 58 5 (.slice (some ⟨W.heap.size, 0, none⟩) 0 0) 0 (([] : List Wrd).flatMap wrdE)) := Lib.hid (World.ownsRow_lit (e := 58) (size := 5) W #[] 0 (Nat.le_refl _) (by unfold maxLen; omega) rfl)
  have hbase : Hid (W.heap.size ≤ (W.alloc (.cells #[] 58)).heap.size) := Lib.hid (by simp)
  have hlen := Lib.hid hS.out.len
  go_enter Try.func5, Try.ntmps5
  go_upto_region 3 with fail
  go_wp2_with (at_builtin; refine append_row (l := []) rfl (.tmp 14) (.tmp 15) 48 58 rfl _ 40 Try.underlying48 infoW rfl (by decide) (by decide) wrdE_len wrdE_one W.heap.size _ 0 rfl hown.out _ R n c l rfl hnil.out hlen hI.out (by omega) hbase.out ?_; intro v' w' h3 h4 h5; rw [Nat.zero_add, List.nil_append] at h3; obtain ⟨E, c', rfl, hE, hN⟩ := Sl.own h3 wrdE_len (by omega); replace hE := Lib.hid hE; have hb0 := Lib.hid (((Below.refl W.heap.size W).alloc (Nat.le_refl _) (.cells #[] 58)).grown h4 (by simp) (fun j e => by cases e; exact Nat.le_refl _)); clear h3 h4 h5 hN)
  refine (extent_h E n c' l w' hE hl (by omega) rs hrs).mono ?_; rintro e w1 ⟨rfl, hb1⟩
  have hE1 := Lib.hid (hE.out.below hb1)
  replace hb1 := Lib.hid (hb0.out.trans (hb1.mono hb0.out.size))
  have hS1 := Lib.hid (hS.out.below hb1.out)
  obtain ⟨X, hX⟩ : ∃ X, lst l = X := ⟨_, rfl⟩
  obtain ⟨Y, hY⟩ : ∃ Y, grt l rs = Y := ⟨_, rfl⟩
  obtain ⟨Z, hZ⟩ : ∃ Z, farE l rs = Z := ⟨_, rfl⟩
  have kr := rextent_h R n c l w1 hS1 hl (by omega) rs hrs
  rw [hX, hY, hZ] at kr
  rw [hX, hY, hZ]
  replace kr := Lib.hid kr
  clear hb0 hE hX hY hZ hown hbase hI
  go_wp2_with fail
  refine kr.out.mono ?_; rintro e w2 ⟨rfl, hb2⟩
  have ks := Lib.hid (same6_h E R n c' n c l w2 (Lib.hid (hE1.out.below hb2)) (Lib.hid (hS1.out.below hb2)) (by omega))
  replace hb2 := Lib.hid (hb1.out.trans (hb2.mono hb1.out.size))
  clear kr hb1 hE1 hS1
  go_wp2_with fail
  refine ks.out.mono ?_; rintro e w3 ⟨rfl, hb3⟩
  replace hb3 := Lib.hid (hb2.out.trans (hb3.mono hb2.out.size))
  go_wp2_with fail
  refine (works6_h _).mono ?_; rintro e w4 ⟨rfl, hb4⟩
  replace hb4 := Lib.hid (hb3.out.trans (hb4.mono hb3.out.size))
  go_wp2_with fail
  go_ret
  exact ⟨rfl, hb4.out⟩

set_option maxRecDepth 100000 in
theorem lifted (os : Os) (started : os.Started) (H : Type) (enc : TypeId × Value → H) :
    ReturnsInHanded {} Try.checked os 5 .any (Rows.textExtentsSpec.pre6 enc Try.prog Try.f5 Rows.textExtentsRow.domain false) (Rows.textExtentsSpec.post enc Try.prog Try.f5 false true false false) := by
  refine returnsInHanded_of_change (C := Try.checked) own started (by kernel_rfl) Try.func5
    (ChangeSpec.witness6 (enc := enc) (C := Try.checked) false ⟨#[], #[.slice none 0 0], []⟩ 20 (by kernel_rfl) (by kernel_rfl) (by kernel_rfl) (by kernel_rfl)) ?_
  intro W base args ds gs before hval0 hW hcnd _
  have hval : ∀ (j : Nat) t v, Try.f5.params[j]? = some t → args[j]? = some v → Value.okWide Try.prog W .any base t v := hval0
  have hW' := hW
  obtain ⟨p, q, hA0, hV, rfl, hfz, hnd⟩ := hW
  have hA : DataW.TrodAll enc Try.prog W 0 (fun _ => true) true Try.f5.params.toList args.toList ds p := hA0
  rw [Try.params5] at hA hval
  obtain ⟨v0, vs0, d0, ds0, p0, q0, hargs, rfl, rfl, h0, r0⟩ := trodAll_cons hA
  obtain ⟨rfl, rfl, rfl⟩ := trodAll_nil r0
  obtain rfl : args = #[v0] := by cases args; simp_all
  obtain ⟨rfl, rfl⟩ := trodVars_none hV
  obtain ⟨A0, n0, c0, l0, rfl, m0, s0, o0⟩ := view_wrds (hval 0 48 v0 rfl rfl) h0
  refine (walk W A0 n0 c0 l0 m0 s0 o0).mono fun e W' ⟨he, hg⟩ => ?_
  subst he
  exact ⟨_, rfl, law_post laidOut (by kernel_rfl) rfl Try.underlying4 rfl hW' rfl rfl rfl hg⟩

theorem over : Rows.textExtentsRow.holds Try.pinned (OpenSpec.ofChange Rows.textExtentsSpec) :=
  OpenClaim.holds_of_wide 5 Try.f5 rfl rfl rfl rfl rfl rfl rfl ⟨rfl, rfl, rfl, rfl, rfl⟩ rfl rfl rfl rfl rfl (by kernel_rfl) Try.func5 (by kernel_rfl)
    (of_decide_eq_true (by kernel_rfl)) (by unfold Func.isWrapper; first | (rw [if_pos (by decide +kernel)]; kernel_rfl) | (rw [if_neg (by decide +kernel)]; exact ⟨rfl, rfl⟩))
    (fun os started H enc _ => lifted os started H enc)

/-- The statement. -/
theorem proved : Rows.TextExtentsSaid := over
#print axioms proved
end Go.Proofs.Ytnmfcbmdopmglaa.lawTextExtents
