/-
  A right style stays so if a length of it becomes auto; with a length of an unknown kind, or a number beyond, none is right: for every input, no conditions.
-/
import Derived.Test.YtjjaeloamogfdaaWorks4
import Derived.Test.YtjjaeloamogfdaaView5
import Derived.Test.YtjjaeloamogfdaaLaw
import Derived.Test.YtjjaeloamogfdaaVast4
import Derived.ProofKit
import Derived.OpenShut
import Derived.BigGuard
namespace Go.Proofs.Ytjjaeloamogfdaa.lawStyleAutos
open Go.ChangeShapes Go.WideShapes Go.ChangeAt Go.RowKit Go.Proofs.Ytjjaeloamogfdaa
set_option linter.unusedVariables false

theorem own : ownKnob Try.prog.godebug = none := by kernel_rfl

set_option maxRecDepth 100000 in
set_option maxHeartbeats 3200000 in
theorem walk (W : World) (s : Style) (os : StyOk s ∧ s.uc ≤ maxLen ∧ ∃ l, Sl u16E W s.ua s.un s.uc l ∧ ∀ r ∈ l, U16 r) (which : Int) (ww : (Lit.int .u8 which).wf = true) (n : Int) (wn : (Lit.int .i64 n).wf = true) :
    Calls Try.prog 6 #[styV s, .int .u8 which, .int .i64 n] W fun e w' => e = .returned (.bool true) ∧ Below W.heap.size W w' := by
  have ww : 0 ≤ which ∧ which ≤ 255 := by
    simp [Lit.wf, IntKind.min, IntKind.max, IntKind.signed, IntKind.bits] at ww
    omega
  obtain ⟨u, rfl⟩ := Int.eq_ofNat_of_zero_le ww.1
  have hu : u ≤ 255 := by omega
  clear ww wn os
  have hk : u % 11 < 11 := Nat.mod_lt _ (by omega)
  have hv := fun w => vast_any s w
  have hR := fun w => right_any s w
  have hB0 := SB.new W s 28
  unfold styV at *
  obtain ⟨L, hL⟩ : ∃ L, (styE s).toArray = L := ⟨_, rfl⟩
  rw [hL] at hv hR hB0 ⊢
  have l0 := hB0.ats
  replace hB0 := Lib.hid hB0
  replace hL := Lib.hid hL
  by_cases hun : 131072 < s.un
  · have hd : decide (131072 < s.un) = true := by simpa using hun
    rw [hd] at hv
    go_enter Try.func6, Try.ntmps6
    go_wp2_with (refine wpList_load_sty (by rfl) _ rfl W.heap.size rfl s L hL l0 ?_)
    refine (hv _).mono ?_; rintro e w1 ⟨rfl, hb1⟩
    have hB := Lib.hid (hB0.out.below hb1)
    clear hb1
    go_wp2_with (go_at_call 9; refine (works4_any _).mono ?_; rintro e w2 ⟨rfl, hb2⟩)
    go_ret
    exact ⟨rfl, (hB.out.below hb2).hb⟩
  · have hd : decide (131072 < s.un) = false := by simpa using hun
    rw [hd] at hv
    clear hd hun
    go_enter Try.func6, Try.ntmps6
    go_wp2_with (refine wpList_load_sty (by rfl) _ rfl W.heap.size rfl s L hL l0 ?_)
    refine (hv _).mono ?_; rintro e w1 ⟨rfl, hb1⟩
    have hB := hB0.out.below hb1
    have l1 := hB.ats
    clear hb1 hB0 l0 hv
    replace hB := Lib.hid hB
    go_wp2_with (refine wpList_load_sty (by rfl) _ rfl W.heap.size rfl s L hL l1 ?_)
    refine (hR _).mono ?_; rintro e w2 ⟨rfl, hb1⟩
    have hB2 := hB.out.below hb1
    clear hb1 l1 hB hR
    replace hB2 := Lib.hid hB2
    go_wp2_with fail
    obtain ⟨k, hk, hkl⟩ : ∃ k : Nat, (u : Int) % 11 = (k : Int) ∧ k < 11 := ⟨u % 11, by omega, by omega⟩
    rw [hk]
    have hi1 : (0 : Int) ≤ (k : Int) := by omega
    have hi2 : (k : Int) < 11 := by omega
    replace hk := Lib.hid hk
    refine (lens_any W.heap.size _).mono ?_; rintro e w3 ⟨b, rfl, hH, hb1⟩
    have hB3 := hB2.out.below hb1
    have c0 := lens_at hH hkl
    obtain ⟨d0, d1, f0, f1⟩ := hB3.at_ hkl
    have hB4 := Lib.hid (hB3.put hkl ⟨0, 0⟩)
    clear hB3 hH hb1 hB2
    have hz := len_zero
    obtain ⟨r0, hr0⟩ : ∃ r0, rightB s = r0 := ⟨_, rfl⟩
    rw [hr0]
    obtain ⟨s1, hs1⟩ : ∃ s1, s.put k ⟨0, 0⟩ = s1 := ⟨_, rfl⟩
    have hq1 : Hid (r0 = true → rightB s1 = true) := Lib.hid (fun h => by rw [← hs1]; exact right_zero s hkl (hr0.trans h))
    obtain ⟨L1, hL1⟩ : ∃ L1, (styE s1).toArray = L1 := ⟨_, rfl⟩
    replace hL1 := Lib.hid hL1
    replace hr0 := Lib.hid hr0
    rw [hs1] at hB4
    replace hs1 := Lib.hid hs1
    have l4 := hB4.out.ats
    cases r0
    case' true =>
      have hR1 := fun w => right_L hL1 w
      rw [hq1.out rfl] at hR1
      go_wp2_with (refine wpList_load_sty (by rfl) _ rfl W.heap.size rfl s1 L1 hL1 l4 ?_)
      generalize hW : World.setCell (World.setCell w3 _ _) _ _ = V4 at *
      clear hW d0 d1 f0 f1 c0 l4
      refine (hR1 _).mono ?_; rintro e w4 ⟨rfl, hb1⟩
      have hB5 := Lib.hid (hB4.out.below hb1)
      clear hb1 hB4 hR1
      go_wp2_with fail
    case' false =>
      go_wp2_with fail
      generalize hW : World.setCell (World.setCell w3 _ _) _ _ = w4 at *
      clear hW d0 d1 f0 f1 c0 l4
      have hB5 := hB4
      clear hB4
    all_goals
      refine (lens_any W.heap.size _).mono ?_; rintro e w5 ⟨b1, rfl, hH, hb1⟩
      have hB6 := hB5.out.below hb1
      have c0 := lens_at hH hkl
      obtain ⟨d0, d1, f0, f1⟩ := hB6.at_ hkl
      clear hH hb1 hB5
      have hu1 : (0 : Int) ≤ (u : Int) := by omega
      have hu2 : (u : Int) ≤ 255 := by omega
      have hB7 := Lib.hid (hB6.put hkl ⟨3 + (u : Int) / 11, 0⟩)
      clear hB6
      obtain ⟨s2, hs2⟩ : ∃ s2, s1.put k ⟨3 + (u : Int) / 11, 0⟩ = s2 := ⟨_, rfl⟩
      have hq2 : rightB s2 = false := by rw [← hs2]; exact right_odd s1 hkl _ (by omega)
      obtain ⟨L2, hL2⟩ : ∃ L2, (styE s2).toArray = L2 := ⟨_, rfl⟩
      replace hL2 := Lib.hid hL2
      rw [hs2] at hB7
      replace hs2 := Lib.hid hs2
      have hR2 := fun w => right_L hL2 w
      rw [hq2] at hR2
      have l7 := hB7.out.ats
      clear hq2
      go_wp2_with (refine wpList_load_sty (by rfl) _ rfl W.heap.size rfl s2 L2 hL2 l7 ?_)
      generalize hW : World.setCell (World.setCell w5 _ _) _ _ = V7 at *
      clear hW d0 d1 f0 f1 c0 l7
      refine (hR2 _).mono ?_; rintro e w7 ⟨rfl, hb1⟩
      have hB8 := Lib.hid (hB7.out.below hb1)
      clear hb1 hB7 hR2
      go_wp2_with fail
      refine (lens_any W.heap.size _).mono ?_; rintro e w8 ⟨b2, rfl, hH, hb1⟩
      have hB9 := hB8.out.below hb1
      have c0 := lens_at hH hkl
      obtain ⟨d0, d1, f0, f1⟩ := hB9.at_ hkl
      clear hH hb1 hB8
      have hB10 := Lib.hid (hB9.put hkl ⟨1, n⟩)
      clear hB9
      obtain ⟨s3, hs3⟩ : ∃ s3, s2.put k ⟨1, n⟩ = s3 := ⟨_, rfl⟩
      have hq3 : rightB s3 = true → -1099511627776 ≤ n ∧ n ≤ 1099511627776 ∧ (0 ≤ n ∨ 6 < k) := by rw [← hs3]; exact right_px s2 hkl n
      obtain ⟨L3, hL3⟩ : ∃ L3, (styE s3).toArray = L3 := ⟨_, rfl⟩
      replace hL3 := Lib.hid hL3
      rw [hs3] at hB10
      replace hs3 := Lib.hid hs3
      have hR3 := fun w => right_L hL3 w
      generalize rightB s3 = r3 at *
      replace hq3 := Lib.hid hq3
      have l10 := hB10.out.ats
      go_wp2_with (refine wpList_load_sty (by rfl) _ rfl W.heap.size rfl s3 L3 hL3 l10 ?_)
      generalize hW : World.setCell (World.setCell w8 _ _) _ _ = V10 at *
      clear hW d0 d1 f0 f1 c0 l10
      refine (hR3 _).mono ?_; rintro e w10 ⟨rfl, hb1⟩
      have hB11 := Lib.hid (hB10.out.below hb1)
      clear hb1 hB10 hR3
      cases r3
      · go_wp2_with (go_at_call 9; refine (works4_any _).mono ?_; rintro e w12 ⟨rfl, hb1⟩)
        go_ret
        exact ⟨rfl, (hB11.out.below hb1).hb⟩
      · obtain ⟨n1, n2, n3⟩ := hq3.out rfl
        by_cases n4 : 0 ≤ n
        · clear n3
          go_wp2_with (go_at_call 9; refine (works4_any _).mono ?_; rintro e w12 ⟨rfl, hb1⟩)
          go_ret
          exact ⟨rfl, (hB11.out.below hb1).hb⟩
        · have n5 : (6 : Int) < (k : Int) := by omega
          clear n3
          go_wp2_with (go_at_call 9; refine (works4_any _).mono ?_; rintro e w12 ⟨rfl, hb1⟩)
          go_ret
          exact ⟨rfl, (hB11.out.below hb1).hb⟩

set_option maxRecDepth 100000 in
theorem lifted (os : Os) (started : os.Started) (H : Type) (enc : TypeId × Value → H) :
    ReturnsInHanded {} Try.checked os 6 .any (Rows.styleAutosSpec.pre6 enc Try.prog Try.f6 Rows.styleAutosRow.domain false) (Rows.styleAutosSpec.post enc Try.prog Try.f6 false true false false) := by
  refine returnsInHanded_of_change (C := Try.checked) own started (by kernel_rfl) Try.func6
    (ChangeSpec.witness6 (enc := enc) (C := Try.checked) false ⟨#[], #[.agg #[.int .u8 0, .bool false, .int .u8 0, .int .u8 0, .int .u8 0, .int .i64 0, .int .u8 0, .int .i64 0, .int .u8 0, .int .i64 0, .int .u8 0, .int .i64 0, .int .u8 0, .int .i64 0, .int .u8 0, .int .i64 0, .int .u8 0, .int .i64 0, .int .u8 0, .int .i64 0, .int .u8 0, .int .i64 0, .int .u8 0, .int .i64 0, .int .i64 0, .int .i64 0, .int .i64 0, .int .i64 0, .int .i64 0, .int .i64 0, .int .i64 0, .int .i64 0, .int .u8 0, .int .i64 0, .bool false, .int .u8 0, .int .u8 0, .int .i64 0, .int .i64 0, .int .i64 0, .int .u8 0, .int .i64 0, .slice none 0 0], .int .u8 0, .int .i64 0], []⟩ 6 (by kernel_rfl) (by kernel_rfl) (by kernel_rfl) (by kernel_rfl)) ?_
  intro W base args ds gs before hval0 hW hcnd _
  have hval : ∀ (j : Nat) t v, Try.f6.params[j]? = some t → args[j]? = some v → Value.okWide Try.prog W .any base t v := hval0
  have hW' := hW
  obtain ⟨p, q, hA0, hV, rfl, hfz, hnd⟩ := hW
  have hA : DataW.TrodAll enc Try.prog W 0 (fun _ => true) true Try.f6.params.toList args.toList ds p := hA0
  rw [Try.params6] at hA hval
  obtain ⟨v0, vs0, d0, ds0, p0, q0, hargs, rfl, rfl, h0, r0⟩ := trodAll_cons hA
  obtain ⟨v1, vs1, d1, ds1, p1, q1, rfl, rfl, rfl, h1, r1⟩ := trodAll_cons r0
  obtain ⟨v2, vs2, d2, ds2, p2, q2, rfl, rfl, rfl, h2, r2⟩ := trodAll_cons r1
  obtain ⟨rfl, rfl, rfl⟩ := trodAll_nil r2
  obtain rfl : args = #[v0, v1, v2] := by cases args; simp_all
  obtain ⟨rfl, rfl⟩ := trodVars_none hV
  obtain ⟨x0, rfl, o0⟩ := view_sty (hval 0 28 v0 rfl rfl) h0
  obtain ⟨a1, rfl, -, -, w1⟩ := open_int Try.underlying5 (hval 1 5 v1 rfl rfl) h1
  obtain ⟨a2, rfl, -, -, w2⟩ := open_int Try.underlying2 (hval 2 2 v2 rfl rfl) h2
  refine (walk W x0 o0 a1 w1 a2 w2).mono fun e W' ⟨he, hg⟩ => ?_
  subst he
  exact ⟨_, rfl, law_post laidOut (by kernel_rfl) rfl Try.underlying4 rfl hW' rfl rfl rfl hg⟩

theorem over : Rows.styleAutosRow.holds Try.pinned (OpenSpec.ofChange Rows.styleAutosSpec) :=
  OpenClaim.holds_of_wide 6 Try.f6 rfl rfl rfl rfl rfl rfl rfl ⟨rfl, rfl, rfl, rfl, rfl⟩ rfl rfl rfl rfl rfl (by kernel_rfl) Try.func6 (by kernel_rfl)
    (of_decide_eq_true (by kernel_rfl)) (by unfold Func.isWrapper; first | (rw [if_pos (by decide +kernel)]; kernel_rfl) | (rw [if_neg (by decide +kernel)]; exact ⟨rfl, rfl⟩))
    (fun os started H enc _ => lifted os started H enc)

/-- The statement. -/
theorem proved : Rows.StyleAutosSaid := over
#print axioms proved
end Go.Proofs.Ytjjaeloamogfdaa.lawStyleAutos
