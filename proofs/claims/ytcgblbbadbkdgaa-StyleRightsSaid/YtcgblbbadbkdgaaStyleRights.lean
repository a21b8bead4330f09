/-
  What style.Right answers of any style is the document's: for every input, no conditions.
-/
import Derived.Test.YtcgblbbadbkdgaaWorks4
import Derived.Test.YtcgblbbadbkdgaaView5
import Derived.Test.YtcgblbbadbkdgaaLaw
import Derived.Test.YtcgblbbadbkdgaaVasts4
import Derived.Test.YtcgblbbadbkdgaaSame4
import Derived.Test.YtcgblbbadbkdgaaRefRight
import Derived.Test.YtcgblbbadbkdgaaLater
import Derived.Deep.DeepCutAuto
import Derived.Deep.RegionHeld3
import Derived.ProofKit
import Derived.OpenShut
import Derived.BigGuard
namespace Go.Proofs.Ytcgblbbadbkdgaa.lawStyleRights
open Go.ChangeShapes Go.WideShapes Go.ChangeAt Go.RowKit Go.Proofs.Ytcgblbbadbkdgaa
set_option linter.unusedVariables false

theorem own : ownKnob Try.prog.godebug = none := by kernel_rfl

theorem moved_right (s : Style) (A : Option Addr) (c : Nat) : rightB (s.moved A c) = rightB s := rfl

set_option maxRecDepth 100000 in
set_option maxHeartbeats 3200000 in
theorem walk (W : World) (s : Style) (os : StyOk s ∧ s.uc ≤ maxLen ∧ ∃ l, Sl u16E W s.ua s.un s.uc l ∧ ∀ r ∈ l, U16 r) :
    Calls Try.prog 3 #[styV s] W fun e w' => e = .returned (.bool true) ∧ Below W.heap.size W w' := by
  obtain ⟨-, -, l, hS, -⟩ := os
  have hv := fun w => vast_any s w
  have hB0 := SB.new W s 28
  unfold styV at *
  obtain ⟨L, hL⟩ : ∃ L, (styE s).toArray = L := ⟨_, rfl⟩
  have hL43 : L.size = 43 := by rw [← hL]; rfl
  have hLone : L.all (·.oneCell') = true := by rw [← hL]; exact styE_one s
  rw [hL] at hv hB0 ⊢
  have l0 := hB0.ats
  replace hB0 := Lib.hid hB0
  replace hL := Lib.hid hL
  replace hL43 := Lib.hid hL43
  replace hLone := Lib.hid hLone
  replace hS := Lib.hid hS
  by_cases hun : 131072 < s.un
  · have hd : decide (131072 < s.un) = true := by simpa using hun
    rw [hd] at hv
    go_enter Try.func3, Try.ntmps3
    go_wp2_with (refine wpList_load_sty (by rfl) _ rfl W.heap.size rfl s L hL l0 ?_)
    refine (hv _).mono ?_; rintro e w1 ⟨rfl, hb1⟩
    have hB := Lib.hid (hB0.out.below hb1)
    clear hb1
    go_wp2_with (go_at_call 11; refine (works4_any _).mono ?_; rintro e w2 ⟨rfl, hb2⟩)
    go_ret
    exact ⟨rfl, (hB.out.below hb2).hb⟩
  · have hd : decide (131072 < s.un) = false := by simpa using hun
    rw [hd] at hv
    clear hd
    go_enter Try.func3, Try.ntmps3
    go_wp2_with (refine wpList_load_sty (by rfl) _ rfl W.heap.size rfl s L hL l0 ?_)
    refine (hv _).mono ?_; rintro e w1 ⟨rfl, hb1⟩
    have hB := hB0.out.below hb1
    have l1 := hB.ats
    have hS1 := Lib.hid (hS.out.below (hB.hb))
    clear hb1 hB0 l0 hv
    replace hB := Lib.hid hB
    go_upto_region 4 with (first | (refine wpList_load_sty (by rfl) _ rfl W.heap.size rfl s L hL l1 ?_) | (refine wpList_store_new rfl _ _ rfl _ L rfl rfl rfl hL43.out hLone.out ?_))
    generalize hW : World.alloc w1 _ = V
    obtain ⟨hV1, hV2, hbV⟩ : SB W s V ∧ Box V w1.heap.size (styE s) ∧ Below w1.heap.size w1 V := by
      subst hW
      refine ⟨hB.out.below ((Below.refl _ _).alloc (Nat.le_refl _) _), ?_, (Below.refl _ _).alloc (Nat.le_refl _) _⟩
      have := Box.new w1 (styE s) 28
      rw [hL.out] at this
      exact this
    have hS2 := Lib.hid (hS1.out.below hbV)
    have hne : W.heap.size < w1.heap.size := hB.out.box.lt
    clear hW hbV hS1 l1 hB hL43 hLone hL
    generalize w1.heap.size = g at *
    have hgl := hV2.lt
    replace hne := Lib.hid hne
    have own0 := Lib.hid (World.ownsRow_lit (base := V.heap.size) (e := 50) (size := 1) V #[] 0 (Nat.le_refl _) (Nat.zero_le _) (by rfl))
    have b0 := Lib.hid ((Below.refl V.heap.size V).alloc (Nat.le_refl _) (.cells #[] 50))
    have hbase : Hid (V.heap.size ≤ (V.alloc (.cells #[] 50)).heap.size) := Lib.hid (by simp)
    have p0 : V.cell? ⟨W.heap.size, 42, none⟩ = some (.slice s.ua s.un s.uc) := hV1.box.cell 42 _ rfl
    have hlt0 := hV1.box.lt
    replace hV1 := Lib.hid hV1
    replace hV2 := Lib.hid hV2
    go_upto_region 5 with (at_builtin; refine append_row (f := u16E) (l := []) rfl (.tmp 8) (.tmp 10) 26 50 rfl _ 2 Try.underlying26 infoU16 rfl (by decide) (by decide) u16E_len u16E_one V.heap.size _ 0 rfl own0.out V.heap.size s.ua s.un s.uc l rfl hS2.out.nil (Lib.hid hS2.out.len) (hS2.out.at_.keep b0.out) (by omega) hbase.out ?_; intro v1 w2 h3 h4 h5; have hb2 := Lib.hid (b0.out.grown h4 (by simp) (fun k hk => (own0.out.lt k hk).1)); obtain ⟨A1, c1, rfl, hSl, hNew⟩ := own_open2 h3; replace hSl := Lib.hid hSl; replace hNew := Lib.hid hNew; clear h3 h4 h5; have p42 : w2.cell? ⟨g, 42, none⟩ = some (.slice s.ua s.un s.uc) := (hV2.out.below hb2.out).cell 42 _ rfl; have q42 := (hV2.out.below hb2.out).free 42 (by rw [styE_len]; omega); have hlt := (hV2.out.below hb2.out).lt)
    generalize hW : World.setCell w2 _ _ = V5
    obtain ⟨h1, h2, h3, h4, h5⟩ : SB W s V5 ∧ Box V5 g (styE (s.moved A1 c1)) ∧ Sl u16E V5 A1 s.un c1 l ∧ Sl u16E V5 s.ua s.un s.uc l ∧ Below W.heap.size W V5 := by
      subst hW
      have hb2 := hb2.out
      have e2 := hV2.out.below hb2
      have bu : But [g] w2 (w2.setCell ⟨g, 42, none⟩ (.slice A1 s.un c1)) := (But.refl _ _).set g 42 (.inl (by simp)) _
      have e3 := hV1.out.below hb2
      have e4 : Below W.heap.size W (w2.setCell ⟨g, 42, none⟩ (.slice A1 s.un c1)) := e3.hb.setCell (Nat.le_of_lt hne.out) _
      refine ⟨⟨e3.box.but bu (by have := hne.out; simp; omega), e4⟩, ?_, ?_, hS.out.below e4, e4⟩
      · exact e2.set 42 (.slice A1 s.un c1) (by rw [styE_len]; omega)
      · refine hSl.out.but bu (fun a ha => ?_)
        have := hNew.out a ha
        simp
        omega
    clear hW hb2 hSl hNew p42 q42 hlt hbase b0 own0 p0 hlt0 hS2 hV1 hV2 hgl
    obtain ⟨L1, hL1⟩ : ∃ L, (styE s).toArray = L := ⟨_, rfl⟩
    obtain ⟨L2, hL2⟩ : ∃ L, (styE (s.moved A1 c1)).toArray = L := ⟨_, rfl⟩
    replace hL1 := Lib.hid hL1
    replace hL2 := Lib.hid hL2
    have a1 : Hid (∀ w, (∃ x : Later V5, w = x.w) → AtS w W.heap.size s) := Lib.hid (by rintro w ⟨x, rfl⟩; exact AtS.of (h1.box.below x.h))
    have a2 : Hid (∀ w, (∃ x : Later V5, w = x.w) → AtS w g (s.moved A1 c1)) := Lib.hid (by rintro w ⟨x, rfl⟩; exact AtS.of (h2.below x.h))
    have m1 : ∀ y : Later V5, Hid (Calls Try.prog 12 #[.agg L2] y.w fun e w' => e = .returned (.bool (rightB s)) ∧ Below y.w.heap.size y.w w') := fun y => Lib.hid (right_L (s := s.moved A1 c1) hL2 y.w)
    have m2 : ∀ y : Later V5, Hid (Calls Try.prog 13 #[.agg L1] y.w fun e w' => e = .returned (.bool (rightB s)) ∧ Below y.w.heap.size y.w w') := fun y => Lib.hid (by have h := rright_any s y.w; unfold styV at h; rw [hL1.out] at h; exact h)
    have m3 : ∀ y : Later V5, Hid (Calls Try.prog 14 #[.agg L2, .agg L1] y.w fun e w' => e = .returned (.bool true) ∧ Below y.w.heap.size y.w w') := fun y => Lib.hid (by have h := same_any s A1 c1 l y.w (Lib.hid (h3.below y.h)) (Lib.hid (h4.below y.h)) (by omega); unfold styV at h; rw [hL1.out, hL2.out] at h; exact h)
    clear hun h1 h2 h3 h4 hS hne
    replace h5 := Lib.hid h5
    generalize rightB s = r at *
    cases r
    all_goals
      refine wp_region_later V5 (by kernel_rfl) (by kernel_rfl) (Below.refl _ _) ?_
      repeat (first | (refine wpQuiet_load_sty (by rfl) _ rfl W.heap.size rfl s L1 hL1 a1 ?_) | (refine wpQuiet_load_sty (by rfl) _ rfl g rfl (s.moved A1 c1) L2 hL2 a2 ?_) | (quiet_step ((first | (go_at_call 12; (with_reducible exact Later.call _ (m1 _).out)) | (go_at_call 13; (with_reducible exact Later.call _ (m2 _).out)) | (go_at_call 14; (with_reducible exact Later.call _ (m3 _).out)) | (go_at_call 11; (with_reducible exact Later.call _ (works4_any _)))))))
      refine wpQuiet_nil ?_
      rintro _ ⟨⟨wq, hbq⟩, rfl⟩
      have h6 := Lib.hid (h5.out.trans (hbq.mono h5.out.size))
      clear m1 m2 m3 a1 a2 hbq h5
      go_wp2_with fail
      go_ret
      exact ⟨rfl, h6.out⟩

set_option maxRecDepth 100000 in
theorem lifted (os : Os) (started : os.Started) (H : Type) (enc : TypeId × Value → H) :
    ReturnsInHanded {} Try.checked os 3 .any (Rows.styleRightsSpec.pre6 enc Try.prog Try.f3 Rows.styleRightsRow.domain false) (Rows.styleRightsSpec.post enc Try.prog Try.f3 false true false false) := by
  refine returnsInHanded_of_change (C := Try.checked) own started (by kernel_rfl) Try.func3
    (ChangeSpec.witness6 (enc := enc) (C := Try.checked) false ⟨#[], #[.agg #[.int .u8 0, .bool false, .int .u8 0, .int .u8 0, .int .u8 0, .int .i64 0, .int .u8 0, .int .i64 0, .int .u8 0, .int .i64 0, .int .u8 0, .int .i64 0, .int .u8 0, .int .i64 0, .int .u8 0, .int .i64 0, .int .u8 0, .int .i64 0, .int .u8 0, .int .i64 0, .int .u8 0, .int .i64 0, .int .u8 0, .int .i64 0, .int .i64 0, .int .i64 0, .int .i64 0, .int .i64 0, .int .i64 0, .int .i64 0, .int .i64 0, .int .i64 0, .int .u8 0, .int .i64 0, .bool false, .int .u8 0, .int .u8 0, .int .i64 0, .int .i64 0, .int .i64 0, .int .u8 0, .int .i64 0, .slice none 0 0]], []⟩ 20 (by kernel_rfl) (by kernel_rfl) (by kernel_rfl) (by kernel_rfl)) ?_
  intro W base args ds gs before hval0 hW hcnd _
  have hval : ∀ (j : Nat) t v, Try.f3.params[j]? = some t → args[j]? = some v → Value.okWide Try.prog W .any base t v := hval0
  have hW' := hW
  obtain ⟨p, q, hA0, hV, rfl, hfz, hnd⟩ := hW
  have hA : DataW.TrodAll enc Try.prog W 0 (fun _ => true) true Try.f3.params.toList args.toList ds p := hA0
  rw [Try.params3] at hA hval
  obtain ⟨v0, vs0, d0, ds0, p0, q0, hargs, rfl, rfl, h0, r0⟩ := trodAll_cons hA
  obtain ⟨rfl, rfl, rfl⟩ := trodAll_nil r0
  obtain rfl : args = #[v0] := by cases args; simp_all
  obtain ⟨rfl, rfl⟩ := trodVars_none hV
  obtain ⟨x0, rfl, o0⟩ := view_sty (hval 0 28 v0 rfl rfl) h0
  refine (walk W x0 o0).mono fun e W' ⟨he, hg⟩ => ?_
  subst he
  exact ⟨_, rfl, law_post laidOut (by kernel_rfl) rfl Try.underlying4 rfl hW' rfl rfl rfl hg⟩

theorem over : Rows.styleRightsRow.holds Try.pinned (OpenSpec.ofChange Rows.styleRightsSpec) :=
  OpenClaim.holds_of_wide 3 Try.f3 rfl rfl rfl rfl rfl rfl rfl ⟨rfl, rfl, rfl, rfl, rfl⟩ rfl rfl rfl rfl rfl (by kernel_rfl) Try.func3 (by kernel_rfl)
    (of_decide_eq_true (by kernel_rfl)) (by unfold Func.isWrapper; first | (rw [if_pos (by decide +kernel)]; kernel_rfl) | (rw [if_neg (by decide +kernel)]; exact ⟨rfl, rfl⟩))
    (fun os started H enc _ => lifted os started H enc)

/-- The statement. -/
theorem proved : Rows.StyleRightsSaid := over
#print axioms proved
end Go.Proofs.Ytcgblbbadbkdgaa.lawStyleRights
