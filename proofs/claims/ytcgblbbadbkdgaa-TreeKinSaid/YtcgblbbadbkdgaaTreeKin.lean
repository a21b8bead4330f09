/-
  Depths, children and the last ones below of any tree, and which boxes of a right one are roots, are the document's answers: for every input, no conditions.
-/
import Derived.Test.YtcgblbbadbkdgaaWorks5
import Derived.Test.YtcgblbbadbkdgaaLawCore
import Derived.Test.YtcgblbbadbkdgaaVast5
import Derived.Test.YtcgblbbadbkdgaaRKids
import Derived.Test.YtcgblbbadbkdgaaRDepths
import Derived.Test.YtcgblbbadbkdgaaRLast
import Derived.Test.YtcgblbbadbkdgaaRRoot
import Derived.Test.YtcgblbbadbkdgaaRCheck
import Derived.Test.YtcgblbbadbkdgaaLater
import Derived.Deep.DeepCutAuto
import Derived.Deep.RegionHeld3
import Derived.SizedLaws
import Derived.ProofKit
import Derived.OpenShut
import Derived.BigGuard
namespace Go.Proofs.Ytcgblbbadbkdgaa.lawTreeKin
open Go.ChangeShapes Go.WideShapes Go.ChangeAt Go.RowKit Go.Proofs.Ytcgblbbadbkdgaa
set_option linter.unusedVariables false

theorem own : ownKnob Try.prog.godebug = none := by kernel_rfl

theorem IBox.sl {w : World} {q n : Nat} {F : List Int} (h : IBox w q F) (hn : F.length = n) : Sl intE w (some ⟨q, 0, none⟩) n n F :=
  ⟨hn.symm, Nat.le_refl _, (fun e => by cases e), fun _ => ⟨_, rfl, h.lt_, fun j u hu => by
    rw [intE_flat] at hu
    have e : (Addr.add ⟨q, 0, none⟩ j) = ⟨q, j, none⟩ := by unfold Addr.add; by_cases h : j = 0 <;> simp [h]
    rw [e]; exact h.cell j u hu⟩⟩
/-- Both rows of rows lie there. -/
def KK (w : World) (n : Nat) (K : Nat → List Int) (q : Nat) (vs : List Value) : Prop := Box w q vs ∧ vs.length = n ∧ ∀ i, i < n → ∃ A c, vs[i]? = some (.slice A (K i).length c) ∧ Sl intE w A (K i).length c (K i)
theorem KK.below {w w' : World} {n q : Nat} {K : Nat → List Int} {vs : List Value} (h : KK w n K q vs) (hb : Below w.heap.size w w') : KK w' n K q vs :=
  ⟨h.1.below hb, h.2.1, fun i hi => by obtain ⟨A, c, e, hS⟩ := h.2.2 i hi; exact ⟨A, c, e, hS.below hb⟩⟩

set_option maxRecDepth 100000 in
set_option maxHeartbeats 3200000 in
theorem walk (W : World) (t : TreeV) (ot : TreeOk W t) (at_ : Int) (wat : (Lit.int .i64 at_).wf = true) :
    Calls Try.prog 5 #[.agg #[.slice t.na t.nn t.nc, .slice t.aa t.an t.ac, .int .i64 t.view], .int .i64 at_] W fun e w' => e = .returned (.bool true) ∧ Below W.heap.size W w' := by
  have hw := fun w => works5_any w
  have hln := Lib.hid ot.at_.nodes.len
  clear wat
  go_enter Try.func5, Try.ntmps5
  go_upto_region 1 with fail
  generalize hW : World.alloc W _ = V
  have hT := TBox.start ot.at_ hW
  obtain ⟨g, hg⟩ : ∃ g, g = W.heap.size := ⟨_, rfl⟩
  rw [← hg] at hT ⊢
  clear hW hg
  obtain ⟨k0, k1, k2⟩ := hT.cells
  have ks := small_h t V (Lib.hid (ot.below hT.hb))
  replace hT := Lib.hid hT
  cases hsm : smallB t
  case false =>
    rw [hsm] at ks
    go_wp2_with (first | (go_at_call 15; refine ks.mono ?_; rintro e w1 ⟨rfl, hb1⟩; have hT1 := Lib.hid (hT.out.below hb1)) | (go_at_call 16; refine (hw _).mono ?_; rintro e w2 ⟨rfl, hb2⟩))
    go_ret
    exact ⟨rfl, hT1.out.hb.trans (hb2.mono hT1.out.hb.size)⟩
  rw [hsm] at ks
  have sm := small_of hsm hln.out
  have hnn := sm.nn
  have han := sm.an
  clear sm hsm
  by_cases h150 : 150 < t.nn
  · have h150' : (150 : Int) < (t.nn : Int) := by omega
    go_wp2_with (first | (go_at_call 15; refine ks.mono ?_; rintro e w1 ⟨rfl, hb1⟩; have hT1 := Lib.hid (hT.out.below hb1); obtain ⟨m0, m1, m2⟩ := hT1.out.cells) | (go_at_call 16; refine (hw _).mono ?_; rintro e w2 ⟨rfl, hb2⟩))
    go_ret
    exact ⟨rfl, hT1.out.hb.trans (hb2.mono hT1.out.hb.size)⟩
  have h150' : ¬ (150 : Int) < (t.nn : Int) := by omega
  go_upto_region 3 with (go_at_call 15; refine ks.mono ?_; rintro e w1 ⟨rfl, hb1⟩; have hT1 := Lib.hid (hT.out.below hb1); obtain ⟨m0, m1, m2⟩ := hT1.out.cells)
  clear ks hb1 k0 k1 k2 hT
  have kk := kids_h t w1 (Lib.hid hT1.out.at_) (by omega)
  go_upto_region 4 with (go_at_call 21; refine kk.mono ?_; rintro e w2 ⟨q, vs, rfl, hq1, hq2, hq3, -, hb2⟩)
  have hK : KK w2 t.nn (fun i => kidsN t.ns i t.nn) q vs := ⟨hq1, hq2, hq3⟩
  have hT2 := Lib.hid (hT1.out.below hb2)
  clear kk hq1 hq2 hq3 hb2 m0 m1 m2 hT1
  obtain ⟨m0, m1, m2⟩ := hT2.out.cells
  have kk := rkids_h t w2 (Lib.hid hT2.out.at_) (by omega)
  replace hK := Lib.hid hK
  go_upto_region 5 with (go_at_call 22; refine kk.mono ?_; rintro e w3 ⟨q2, us, rfl, hq1, hq2, hq3, -, hb3⟩)
  have hR : KK w3 t.nn (fun i => kidsN t.ns i t.nn) q2 us := ⟨hq1, hq2, hq3⟩
  have hT3 := Lib.hid (hT2.out.below hb3)
  replace hK := Lib.hid (hK.out.below hb3)
  replace hR := Lib.hid hR
  clear kk hq1 hq2 hq3 hb3 m0 m1 m2 hT2
  have hat : ∀ w', Below w3.heap.size w3 w' → TreeAt w' t := fun w' hb => (hT3.out.below hb).at_
  have hcell : ∀ w', Below w3.heap.size w3 w' → w'.cell? ⟨g, 0, none⟩ = some (.slice t.na t.nn t.nc) ∧ w'.cell? ⟨g, 1, none⟩ = some (.slice t.aa t.an t.ac) ∧ w'.cell? ⟨g, 2, none⟩ = some (.int .i64 t.view) := fun w' hb => (hT3.out.below hb).cells
  have hlenD : ∀ f : Nat → Int, ((List.range t.nn).map f).length = t.nn := fun f => by simp
  go_cut [45] (fun b wx => b = .bool false ∧ Hid (Below w3.heap.size w3 wx))
  case first =>
    have hb0 := Lib.hid (Below.refl w3.heap.size w3).drew
    have a0 := hcell w3.drew hb0.out
    go_region_held3 (fun w' => w'.cell? ⟨g, 0, none⟩ = some (.slice t.na t.nn t.nc) ∧ w'.cell? ⟨g, 1, none⟩ = some (.slice t.aa t.an t.ac) ∧ w'.cell? ⟨g, 2, none⟩ = some (.int .i64 t.view))
      (first | exact a0 | (with_reducible exact hcell _ hfin.out) | (with_reducible exact hcell _ hs2.out.2.2) | (with_reducible exact hcell _ hl1.out) | (with_reducible exact hcell _ hm1.out) | (with_reducible exact hcell _ hf1.out) | (with_reducible exact hcell _ hs1.out.2.2) | (with_reducible exact hcell _ hd1.out) | (with_reducible exact hcell _ hr1.out))
      (first
        | (go_at_call 24; refine (depths_h t _ (Lib.hid (hat _ hr1.out)) (by omega)).mono ?_; rintro e w4 ⟨q3, rfl, hq3, -, hb4⟩; have hs1 := Lib.hid (And.intro (IBox.sl hq3 (hlenD _)) (And.intro (hrS.out.below hb4) (hr1.out.trans (hb4.mono hr1.out.size)))); clear hq3 hb4)
        | (go_at_call 24; refine (depths_h t _ (Lib.hid (hat _ hb0.out)) (by omega)).mono ?_; rintro e w4 ⟨q3, rfl, hq3, -, hb4⟩; have hd1 := Lib.hid (hb0.out.trans (hb4.mono hb0.out.size)); have hdS := Lib.hid (IBox.sl hq3 (hlenD _)); clear hq3 hb4)
        | (go_at_call 25; refine (rdepths_h t _ (Lib.hid (hat _ hd1.out)) (by omega)).mono ?_; rintro e w4 ⟨A3, c3, rfl, hA3, hb4⟩; have hs1 := Lib.hid (And.intro (hdS.out.below hb4) (And.intro hA3 (hd1.out.trans (hb4.mono hd1.out.size)))); clear hA3 hb4)
        | (go_at_call 25; refine (rdepths_h t _ (Lib.hid (hat _ hb0.out)) (by omega)).mono ?_; rintro e w4 ⟨A3, c3, rfl, hA3, hb4⟩; have hr1 := Lib.hid (hb0.out.trans (hb4.mono hb0.out.size)); have hrS := Lib.hid hA3; clear hA3 hb4)
        | (go_at_call 23; refine (same_yes _ _ t.nn _ _ _ _ (Lib.hid hs2.out.1) (Lib.hid hs2.out.2.1) (by omega)).mono ?_; rintro e w4 ⟨rfl, hb4⟩; have hfin := Lib.hid (hs2.out.2.2.trans (hb4.mono hs2.out.2.2.size)); clear hb4)
        | (go_at_call 23; refine (same_yes _ _ t.nn _ _ _ _ (Lib.hid hs1.out.1) (Lib.hid hs1.out.2.1) (by omega)).mono ?_; rintro e w4 ⟨rfl, hb4⟩; have hf1 := Lib.hid (hs1.out.2.2.trans (hb4.mono hs1.out.2.2.size)); clear hb4)
        | (go_at_call 26; refine (last_h t _ (Lib.hid (hat _ hm1.out)) (by omega)).mono ?_; rintro e w4 ⟨q4, rfl, hq4, -, hb4⟩; have hs2 := Lib.hid (And.intro (IBox.sl hq4 (hlenD _)) (And.intro (hmS.out.below hb4) (hm1.out.trans (hb4.mono hm1.out.size)))); clear hq4 hb4)
        | (go_at_call 26; refine (last_h t _ (Lib.hid (hat _ hf1.out)) (by omega)).mono ?_; rintro e w4 ⟨q4, rfl, hq4, -, hb4⟩; have hl1 := Lib.hid (hf1.out.trans (hb4.mono hf1.out.size)); have hlS := Lib.hid (IBox.sl hq4 (hlenD _)); clear hq4 hb4)
        | (go_at_call 27; refine (rlast_h t _ (Lib.hid (hat _ hl1.out)) (by omega)).mono ?_; rintro e w4 ⟨q5, rfl, hq5, -, hb4⟩; have hs2 := Lib.hid (And.intro (hlS.out.below hb4) (And.intro (IBox.sl hq5 (hlenD _)) (hl1.out.trans (hb4.mono hl1.out.size)))); clear hq5 hb4)
        | (go_at_call 27; refine (rlast_h t _ (Lib.hid (hat _ hf1.out)) (by omega)).mono ?_; rintro e w4 ⟨q5, rfl, hq5, -, hb4⟩; have hm1 := Lib.hid (hf1.out.trans (hb4.mono hf1.out.size)); have hmS := Lib.hid (IBox.sl hq5 (hlenD _)); clear hq5 hb4))
    all_goals
      go_wp2_with fail
      go_meet
      exact ⟨rfl, hfin⟩
  case rest =>
    obtain ⟨rfl, hbw⟩ := hcut
    have hT := Lib.hid (hT3.out.below hbw.out)
    replace hK := Lib.hid (hK.out.below hbw.out)
    replace hR := Lib.hid (hR.out.below hbw.out)
    clear hat hcell hlenD hT3 hbw
    go_wp2_with fail
    go_loopw [7] (fun i wr => ∃ k : Nat, k ≤ t.nn ∧ i = .int .i64 k ∧ Hid (TBox W g t wr) ∧ Hid (KK wr t.nn (fun i => kidsN t.ns i t.nn) q vs) ∧ Hid (KK wr t.nn (fun i => kidsN t.ns i t.nn) q2 us)) (fun i _ => t.nn - (intOf i).toNat)
    case atStart => exact ⟨0, Nat.zero_le _, rfl, hT, hK, hR⟩
    case round =>
      clear hT hK hR
      obtain ⟨k, hk, rfl, hT, hK, hR⟩ := hrel
      by_cases hlt : k < t.nn
      · have hlt' : (k : Int) < (t.nn : Int) := by omega
        have k1 : (0 : Int) ≤ (k : Int) := by omega
        obtain ⟨A, c, ev, hS⟩ := hK.out.2.2 k hlt
        obtain ⟨B, b, eu, hS2⟩ := hR.out.2.2 k hlt
        have hlk := kids_len t.ns k t.nn
        have q0 : ∀ y : Later wr, y.w.cell? ⟨q, k, none⟩ = some (.slice A (kidsN t.ns k t.nn).length c) := Later.cell hK.out.1.lt (hK.out.1.cell k _ ev)
        have p0 : ∀ y : Later wr, y.w.cell? ⟨q2, k, none⟩ = some (.slice B (kidsN t.ns k t.nn).length b) := Later.cell hR.out.1.lt (hR.out.1.cell k _ eu)
        have m1 : ∀ y : Later wr, Hid (Calls Try.prog 23 #[.slice A (kidsN t.ns k t.nn).length c, .slice B (kidsN t.ns k t.nn).length b] y.w fun e w' => e = .returned (.bool true) ∧ Below y.w.heap.size y.w w') := fun y => Lib.hid (same_yes A B _ c b _ y.w (Lib.hid (hS.below y.h)) (Lib.hid (hS2.below y.h)) (by omega))
        clear ev eu hS hS2 hlk
        generalize (kidsN t.ns k t.nn).length = nk at *
        go_upto_region 10 with fail
        refine wp_region_later wr (by kernel_rfl) (by kernel_rfl) (Below.refl _ _) ?_
        repeat (quiet_step ((go_at_call 23; (with_reducible exact Later.call _ (m1 _).out))))
        refine wpQuiet_nil ?_
        rintro _ ⟨⟨wq, hbq⟩, rfl⟩
        replace hT := Lib.hid (hT.out.below hbq)
        replace hK := Lib.hid (hK.out.below hbq)
        replace hR := Lib.hid (hR.out.below hbq)
        clear m1 q0 p0 hbq
        go_wp2_with fail
        go_roundw
        case rel => exact ⟨k + 1, by omega, by go_num, hT, hK, hR⟩
        case measure => simp [intOf]; omega
      · have hlt' : ¬ (k : Int) < (t.nn : Int) := by omega
        have e : k = t.nn := by omega
        replace e := Lib.hid e
        clear hK hR
        obtain ⟨m0, m1, m2⟩ := hT.out.cells
        have kc := rcheck_h t wr (Lib.hid hT.out.at_) (by omega) (by omega)
        generalize (checkI t.ns t.av t.view).1 = ci at kc
        generalize (checkI t.ns t.av t.view).2 = ce at kc
        by_cases hce : ce = 0
        case neg =>
          have hce' : (ce != 0) = true := by simpa using hce
          go_wp2_with (first | (go_at_call 19; refine kc.mono ?_; rintro e' w5 ⟨rfl, hb5⟩; have hT5 := Lib.hid (hT.out.below hb5)) | (go_at_call 16; refine (hw _).mono ?_; rintro e3 w7 ⟨rfl, hb7⟩))
          go_ret
          exact ⟨rfl, hT5.out.hb.trans (hb7.mono hT5.out.hb.size)⟩
        subst hce
        go_wp2_with (go_at_call 19; refine kc.mono ?_; rintro e' w5 ⟨rfl, hb5⟩; have hT5 := Lib.hid (hT.out.below hb5))
        clear kc hb5 hT m0 m1 m2
        go_loopw [10] (fun i wr => ∃ j : Int, -1 ≤ j ∧ j ≤ (t.nn : Int) + 1 ∧ i = .int .i64 j ∧ Hid (TBox W g t wr)) (fun i _ => ((t.nn : Int) + 1 - intOf i).toNat)
        case atStart => exact ⟨-1, by omega, by omega, rfl, hT5⟩
        case round =>
          clear hT5
          obtain ⟨j, hj1, hj2, rfl, hT⟩ := hrel
          have c0 : ∀ y : Later wr, y.w.cell? ⟨g, 0, none⟩ = some (.slice t.na t.nn t.nc) := fun y => (hT.out.below y.h).cells.1
          have c1 : ∀ y : Later wr, y.w.cell? ⟨g, 1, none⟩ = some (.slice t.aa t.an t.ac) := fun y => (hT.out.below y.h).cells.2.1
          have c2 : ∀ y : Later wr, y.w.cell? ⟨g, 2, none⟩ = some (.int .i64 t.view) := fun y => (hT.out.below y.h).cells.2.2
          by_cases hle : j ≤ (t.nn : Int)
          · have r1 : ∀ y : Later wr, Hid (Calls Try.prog 28 #[.agg #[.slice t.na t.nn t.nc, .slice t.aa t.an t.ac, .int .i64 t.view], .int .i64 j] y.w fun e w' => e = .returned (.bool (rootI t.ns t.nn j)) ∧ Below y.w.heap.size y.w w') := fun y => Lib.hid (root_h t j y.w (Lib.hid (hT.out.below y.h).at_) (by omega))
            have r2 : ∀ y : Later wr, Hid (Calls Try.prog 29 #[.agg #[.slice t.na t.nn t.nc, .slice t.aa t.an t.ac, .int .i64 t.view], .int .i64 j] y.w fun e w' => e = .returned (.bool (rootI t.ns t.nn j)) ∧ Below y.w.heap.size y.w w') := fun y => Lib.hid (rroot_h t j y.w (Lib.hid (hT.out.below y.h).at_) (by omega))
            obtain ⟨m0, m1, m2⟩ := hT.out.cells
            go_upto_region 18 with fail
            clear m0 m1 m2
            generalize rootI t.ns t.nn j = rb at *
            cases rb
            all_goals
              refine wp_region_later wr (by kernel_rfl) (by kernel_rfl) (Below.refl _ _) ?_
              repeat (quiet_step ((first | (go_at_call 28; (with_reducible exact Later.call _ (r1 _).out)) | (go_at_call 29; (with_reducible exact Later.call _ (r2 _).out)))))
              refine wpQuiet_nil ?_
              rintro _ ⟨⟨wq, hbq⟩, rfl⟩
              replace hT := Lib.hid (hT.out.below hbq)
              clear r1 r2 c0 c1 c2 hbq
              go_wp2_with fail
              go_roundw
              case rel => exact ⟨j + 1, by omega, by omega, rfl, hT⟩
              case measure => simp [intOf]; omega
          · have r1 : ∀ y : Later wr, Hid (Calls Try.prog 28 #[.agg #[.slice t.na t.nn t.nc, .slice t.aa t.an t.ac, .int .i64 t.view], .int .i64 at_] y.w fun e w' => e = .returned (.bool (rootI t.ns t.nn at_)) ∧ Below y.w.heap.size y.w w') := fun y => Lib.hid (root_h t at_ y.w (Lib.hid (hT.out.below y.h).at_) (by omega))
            have r2 : ∀ y : Later wr, Hid (Calls Try.prog 29 #[.agg #[.slice t.na t.nn t.nc, .slice t.aa t.an t.ac, .int .i64 t.view], .int .i64 at_] y.w fun e w' => e = .returned (.bool (rootI t.ns t.nn at_)) ∧ Below y.w.heap.size y.w w') := fun y => Lib.hid (rroot_h t at_ y.w (Lib.hid (hT.out.below y.h).at_) (by omega))
            obtain ⟨m0, m1, m2⟩ := hT.out.cells
            go_upto_region 20 with fail
            clear m0 m1 m2
            generalize rootI t.ns t.nn at_ = rb at *
            cases rb
            all_goals
              refine wp_region_later wr (by kernel_rfl) (by kernel_rfl) (Below.refl _ _) ?_
              repeat (quiet_step ((first | (go_at_call 28; (with_reducible exact Later.call _ (r1 _).out)) | (go_at_call 29; (with_reducible exact Later.call _ (r2 _).out)) | (go_at_call 16; (with_reducible exact Later.call _ (works5_any _))))))
              refine wpQuiet_nil ?_
              rintro _ ⟨⟨wq, hbq⟩, rfl⟩
              replace hT := Lib.hid (hT.out.below hbq)
              clear r1 r2 c0 c1 c2 hbq
              go_wp2_with fail
              go_ret
              exact ⟨rfl, hT.out.hb⟩

set_option maxRecDepth 100000 in
theorem lifted (os : Os) (started : os.Started) (H : Type) (enc : TypeId × Value → H) :
    ReturnsInHanded {} Try.checked os 5 .any (Rows.treeKinSpec.pre6 enc Try.prog Try.f5 Rows.treeKinRow.domain false) (Rows.treeKinSpec.post enc Try.prog Try.f5 false true false false) := by
  refine returnsInHanded_of_change_sized (C := Try.checked) own started (by kernel_rfl) Try.func5
    (ChangeSpec.witness6 (enc := enc) (C := Try.checked) false ⟨#[], #[.agg #[.slice none 0 0, .slice none 0 0, .int .i64 0], .int .i64 0], []⟩ 20 (by kernel_rfl) (by kernel_rfl) (by kernel_rfl) (by kernel_rfl)) ?_
  intro W base args ds gs before hval0 hW hcnd hsz0 _
  have hsz : (DataW.weightsEach Try.prog (Try.f5.params.toList ++ Rows.treeKinSpec.plain.varTypes Try.prog) (ds ++ gs)).all (· ≤ reachBytes) = true := hsz0
  clear hsz0
  have hval : ∀ (j : Nat) t v, Try.f5.params[j]? = some t → args[j]? = some v → Value.okWide Try.prog W .any base t v := hval0
  have hW' := hW
  obtain ⟨p, q, hA0, hV, rfl, hfz, hnd⟩ := hW
  have hA : DataW.TrodAll enc Try.prog W 0 (fun _ => true) true Try.f5.params.toList args.toList ds p := hA0
  rw [Try.params5] at hA hval hsz
  obtain ⟨v0, vs0, d0, ds0, p0, q0, hargs, rfl, rfl, h0, r0⟩ := trodAll_cons hA
  obtain ⟨v1, vs1, d1, ds1, p1, q1, rfl, rfl, rfl, h1, r1⟩ := trodAll_cons r0
  obtain ⟨rfl, rfl, rfl⟩ := trodAll_nil r1
  obtain rfl : args = #[v0, v1] := by cases args; simp_all
  obtain ⟨rfl, rfl⟩ := trodVars_none hV
  have hw0 : ∀ n ∈ DataW.weights Try.prog 35 d0, n ≤ reachBytes := fun n hn => by simpa using List.all_eq_true.1 hsz n (DataW.weights_mem_each (j := 0) rfl rfl n hn)
  obtain ⟨x0, rfl, o0⟩ := view_tree hw0 (hval 0 35 v0 rfl rfl) h0
  obtain ⟨a1, rfl, -, -, w1⟩ := open_int Try.underlying3 (hval 1 3 v1 rfl rfl) h1
  refine (walk W x0 o0 a1 w1).mono fun e W' ⟨he, hg⟩ => ?_
  subst he
  exact ⟨_, rfl, law_post laidOut (by kernel_rfl) rfl Try.underlying4 rfl hW' rfl rfl rfl hg⟩

theorem over : Rows.treeKinRow.holds Try.pinned (OpenSpec.ofChange Rows.treeKinSpec) :=
  OpenClaim.holds_of_wide 5 Try.f5 rfl rfl rfl rfl rfl rfl rfl ⟨rfl, rfl, rfl, rfl, rfl⟩ rfl rfl rfl rfl rfl (by kernel_rfl) Try.func5 (by kernel_rfl)
    (of_decide_eq_true (by kernel_rfl)) (by unfold Func.isWrapper; first | (rw [if_pos (by decide +kernel)]; kernel_rfl) | (rw [if_neg (by decide +kernel)]; exact ⟨rfl, rfl⟩))
    (fun os started H enc _ => lifted os started H enc)

/-- The statement. -/
theorem proved : Rows.TreeKinSaid := over
#print axioms proved
end Go.Proofs.Ytcgblbbadbkdgaa.lawTreeKin
