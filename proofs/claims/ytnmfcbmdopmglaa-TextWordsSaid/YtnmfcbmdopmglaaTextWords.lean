/-
  How wide any units are, and their words, of any advances, is what the document says; they stay: for every input, no conditions.
-/
import Derived.Test.YtnmfcbmdopmglaaWorks6
import Derived.Test.YtnmfcbmdopmglaaView8
import Derived.Test.YtnmfcbmdopmglaaLaw
import Derived.Test.YtnmfcbmdopmglaaExist6
import Derived.Deep.DeepCutAuto
import Derived.Deep.RegionHeld3
import Derived.ProofKit
import Derived.OpenShut
import Derived.BigGuard
import Derived.Deep.QuietTactic
import Derived.BigQuiet
namespace Go.Proofs.Ytnmfcbmdopmglaa.lawTextWords
open Go.ChangeShapes Go.WideShapes Go.ChangeAt Go.RowKit Go.Proofs.Ytnmfcbmdopmglaa
set_option linter.unusedVariables false

theorem own : ownKnob Try.prog.godebug = none := by kernel_rfl

set_option maxRecDepth 100000 in
set_option maxHeartbeats 3200000 in
theorem walk (W : World) (U : Option Addr) (n c : Nat) (u : List Int) (hm : c ≤ maxLen) (hU : Sl u16E W U n c u) (hu : ∀ r ∈ u, U16 r) (B : Option Addr) (m d : Nat) (A : List Int) (hd : d ≤ maxLen) (hA : Sl intE W B m d A) (ha : ∀ r ∈ A, I64 r) :
    Calls Try.prog 4 #[.slice U n c, .slice B m d] W fun e w' => e = .returned (.bool true) ∧ Below W.heap.size W w' := by
  obtain ⟨ps, hps⟩ := whl_exists u
  replace hU := Lib.hid hU
  replace hu := Lib.hid hu
  replace hA := Lib.hid hA
  replace ha := Lib.hid ha
  replace hps := Lib.hid hps
  clear hm hd
  have hv := Lib.hid (vast6_h U n c B m d W)
  by_cases hbig : 3000 < n ∨ 8192 < m
  · rw [decide_eq_true hbig] at hv
    go_enter Try.func4, Try.ntmps4
    go_wp2_with fail
    refine hv.out.mono ?_; rintro e w1 ⟨rfl, rfl⟩
    go_wp2_with fail
    refine (works6_h _).mono ?_; rintro e w1 ⟨rfl, hb1⟩
    replace hb1 := Lib.hid hb1
    go_wp2_with fail
    go_ret
    exact ⟨rfl, hb1.out⟩
  rw [decide_eq_false hbig] at hv
  have hn1 : n ≤ 3000 := by omega
  have hm1 : m ≤ 8192 := by omega
  have hnil := Lib.hid hU.out.nil
  have hnil2 := Lib.hid hA.out.nil
  have hI := Lib.hid (hU.out.at_.keep ((Below.refl _ W).alloc (Nat.le_refl _) (.cells #[] 26)))
  have hown : Hid ((W.alloc (.cells #[] 26)).ownsRow W.heap.size 26 1 (.slice (some ⟨W.heap.size, 0, none⟩) 0 0) 0 (([] : List Int).flatMap u16E)) := Lib.hid (World.ownsRow_lit (e := 26) (size := 1) W #[] 0 (Nat.le_refl _) (by unfold maxLen; omega) rfl)
  have hbase : Hid (W.heap.size ≤ (W.alloc (.cells #[] 26)).heap.size) := Lib.hid (by simp)
  have hlen := Lib.hid hU.out.len
  have hlen2 := Lib.hid hA.out.len
  clear hbig
  go_enter Try.func4, Try.ntmps4
  go_wp2_with fail
  refine hv.out.mono ?_; rintro e w1 ⟨rfl, rfl⟩
  go_upto_region 4 with (at_builtin; refine append_row (l := []) rfl (.tmp 19) (.tmp 20) 36 26 rfl _ 2 Try.underlying36 infoU6 rfl (by decide) (by decide) u16E_len u16E_one6 W.heap.size _ 0 rfl hown.out _ U n c u rfl hnil.out hlen hI.out (by omega) hbase.out ?_; intro v' w' h3 h4 h5; rw [Nat.zero_add, List.nil_append] at h3; obtain ⟨E, c', rfl, hE, hN⟩ := Sl.own h3 u16E_len (by omega); replace hE := Lib.hid hE; have hb0 := Lib.hid (((Below.refl W.heap.size W).alloc (Nat.le_refl _) (.cells #[] 26)).grown h4 (by simp) (fun j e => by cases e; exact Nat.le_refl _)); clear h3 h4 h5 hN)
  clear hown hbase hI hv
  have hI := Lib.hid ((hA.out.below hb0.out).at_.keep ((Below.refl _ w').alloc (Nat.le_refl _) (.cells #[] 2)))
  have hown : Hid ((w'.alloc (.cells #[] 2)).ownsRow w'.heap.size 2 1 (.slice (some ⟨w'.heap.size, 0, none⟩) 0 0) 0 (([] : List Int).flatMap intE)) := Lib.hid (World.ownsRow_lit (e := 2) (size := 1) w' #[] 0 (Nat.le_refl _) (by unfold maxLen; omega) rfl)
  have hbase : Hid (w'.heap.size ≤ (w'.alloc (.cells #[] 2)).heap.size) := Lib.hid (by simp)
  go_wp2_with (at_builtin; refine append_row (l := []) rfl (.tmp 24) (.tmp 25) 23 2 rfl _ 8 Try.underlying23 infoI6 rfl (by decide) (by decide) intE_len intE_one w'.heap.size _ 0 rfl hown.out _ B m d A rfl hnil2.out hlen2 hI.out (by omega) hbase.out ?_; intro v2 w2 h3 h4 h5; rw [Nat.zero_add, List.nil_append] at h3; obtain ⟨F, d', rfl, hF, hN⟩ := Sl.own h3 intE_len (by omega); replace hF := Lib.hid hF; have hb1 := Lib.hid (((Below.refl w'.heap.size w').alloc (Nat.le_refl _) (.cells #[] 2)).grown h4 (by simp) (fun j e => by cases e; exact Nat.le_refl _)); clear h3 h4 h5 hN)
  have hE2 := Lib.hid (hE.out.below hb1.out)
  have hbA := Lib.hid (hb0.out.trans (hb1.out.mono hb0.out.size))
  clear hown hbase hI hE hb0 hb1
  refine (words_h E n c' u F m d' A w2 hE2 hu hF ha (by omega) ps hps).mono ?_; rintro e w3 ⟨L1, k1, rfl, hL1, hb3, -⟩
  have hlw : (wrds A u ps).length ≤ 3000 := by
    obtain ⟨z, _, h1, h2⟩ := hps.out
    have := chn_len ps 0 z h1
    have := h2.1
    rw [wrds_len, ← hlen.out] at *
    omega
  have hE3 := Lib.hid (hE2.out.below hb3)
  replace hL1 := Lib.hid hL1
  replace hb3 := Lib.hid (hbA.out.trans (hb3.mono hbA.out.size))
  have hU3 := Lib.hid (hU.out.below hb3.out)
  have hA3 := Lib.hid (hA.out.below hb3.out)
  have kr := rwords_h U n c u B m d A w3 hU3 hu hA3 ha (by omega) ps hps
  generalize hlst : wrds A u ps = l0 at *
  generalize hfar : fars A u ps = b0 at *
  generalize hlq : l0.length = q at *
  unfold MadeWrds at kr
  rw [hlq] at kr
  replace kr := Lib.hid kr
  replace hlst := Lib.hid hlst
  replace hfar := Lib.hid hfar
  replace hlq := Lib.hid hlq
  clear hE2 hF hbA
  go_wp2_with fail
  refine kr.out.mono ?_; rintro e w4 ⟨L2, k2, rfl, hL2, hb4, -⟩
  have hE4 := Lib.hid (hE3.out.below hb4)
  have hL14 := Lib.hid (hL1.out.below hb4)
  have hU4 := Lib.hid (hU3.out.below hb4)
  have hA4 := Lib.hid (hA3.out.below hb4)
  replace hL2 := Lib.hid hL2
  replace hb4 := Lib.hid (hb3.out.trans (hb4.mono hb3.out.size))
  clear kr hE3 hL1 hU3 hA3 hb3
  generalize hX1 : cutI (wideS A u) = X1 at *
  generalize hX2 : farI (wideS A u) = X2 at *
  have kw := wide_h E n c' u B m d A w4 hE4 hu hA4 ha (by omega)
  have kw2 := fun w5 (hb : Below w4.heap.size w4 w5) => rwide_h U n c u B m d A w5 (Lib.hid (hU4.out.below hb)) hu (Lib.hid (hA4.out.below hb)) ha (by omega)
  rw [hX1, hX2] at kw
  rw [hX1, hX2] at kw2
  replace kw := Lib.hid kw
  replace kw2 := Lib.hid kw2
  replace hX1 := Lib.hid hX1
  replace hX2 := Lib.hid hX2
  go_wp2_with fail
  refine kw.out.mono ?_; rintro e w5 ⟨rfl, hb5⟩
  have kw3 := Lib.hid (kw2.out w5 hb5)
  have hE5 := Lib.hid (hE4.out.below hb5)
  have hL15 := Lib.hid (hL14.out.below hb5)
  have hL25 := Lib.hid (hL2.out.below hb5)
  replace hb5 := Lib.hid (hb4.out.trans (hb5.mono hb4.out.size))
  clear kw kw2 hE4 hL14 hL2 hb4 hU4 hA4
  go_wp2_with fail
  refine kw3.out.mono ?_; rintro e w6 ⟨rfl, hb6⟩
  have hE6 := Lib.hid (hE5.out.below hb6)
  have hL16 := Lib.hid (hL15.out.below hb6)
  have hL26 := Lib.hid (hL25.out.below hb6)
  replace hb6 := Lib.hid (hb5.out.trans (hb6.mono hb5.out.size))
  clear kw3 hE5 hL15 hL25 hb5
  go_wp2_with fail
  go_loopw [14] (fun i wr => ∃ j : Nat, j ≤ n ∧ i = .int .i64 j ∧ Hid (Below w6.heap.size w6 wr)) (fun i _ => n - (intOf i).toNat)
  case atStart => exact ⟨0, Nat.zero_le _, rfl, Lib.hid (Below.refl _ _)⟩
  case round =>
    obtain ⟨j, hj, rfl, hb7⟩ := hrel
    by_cases hlt : j < n
    · obtain ⟨a, rfl, _, a0⟩ := u16_cell (hE6.out.below hb7.out) hlt
      obtain ⟨b, rfl, _, b0⟩ := u16_cell (hU.out.below (hb6.out.trans (hb7.out.mono hb6.out.size))) hlt
      have i1 : (0 : Int) ≤ (j : Int) := by omega
      have i2 : (j : Int) < (n : Int) := by omega
      generalize u.getD j 0 = x at *
      go_wp2_with fail
      go_quiet (fail)
      have hb8 := Lib.hid (bl_drewN hb7.out nq)
      clear a0 b0
      go_wp2_with fail
      go_roundw
      case rel => exact ⟨j + 1, by omega, by go_num, hb8⟩
      case measure => simp [intOf]; omega
    · have hlt' : ¬ (j : Int) < (n : Int) := by omega
      have ks := Lib.hid (same6_h L1 L2 q k1 q k2 l0 wr (Lib.hid (hL16.out.below hb7.out)) (Lib.hid (hL26.out.below hb7.out)) (by omega))
      have hb8 := Lib.hid (hb6.out.trans (hb7.out.mono hb6.out.size))
      clear hE6 hL16 hL26
      go_wp2_with fail
      refine ks.out.mono ?_; rintro e w8 ⟨rfl, hb9⟩
      replace hb9 := Lib.hid (hb8.out.trans (hb9.mono hb8.out.size))
      go_wp2_with fail
      refine (works6_h _).mono ?_; rintro e w9 ⟨rfl, hb10⟩
      replace hb10 := Lib.hid (hb9.out.trans (hb10.mono hb9.out.size))
      go_wp2_with fail
      go_ret
      exact ⟨rfl, hb10.out⟩

set_option maxRecDepth 100000 in
theorem lifted (os : Os) (started : os.Started) (H : Type) (enc : TypeId × Value → H) :
    ReturnsInHanded {} Try.checked os 4 .any (Rows.textWordsSpec.pre6 enc Try.prog Try.f4 Rows.textWordsRow.domain false) (Rows.textWordsSpec.post enc Try.prog Try.f4 false true false false) := by
  refine returnsInHanded_of_change (C := Try.checked) own started (by kernel_rfl) Try.func4
    (ChangeSpec.witness6 (enc := enc) (C := Try.checked) false ⟨#[], #[.slice none 0 0, .slice none 0 0], []⟩ 20 (by kernel_rfl) (by kernel_rfl) (by kernel_rfl) (by kernel_rfl)) ?_
  intro W base args ds gs before hval0 hW hcnd _
  have hval : ∀ (j : Nat) t v, Try.f4.params[j]? = some t → args[j]? = some v → Value.okWide Try.prog W .any base t v := hval0
  have hW' := hW
  obtain ⟨p, q, hA0, hV, rfl, hfz, hnd⟩ := hW
  have hA : DataW.TrodAll enc Try.prog W 0 (fun _ => true) true Try.f4.params.toList args.toList ds p := hA0
  rw [Try.params4] at hA hval
  obtain ⟨v0, vs0, d0, ds0, p0, q0, hargs, rfl, rfl, h0, r0⟩ := trodAll_cons hA
  obtain ⟨v1, vs1, d1, ds1, p1, q1, rfl, rfl, rfl, h1, r1⟩ := trodAll_cons r0
  obtain ⟨rfl, rfl, rfl⟩ := trodAll_nil r1
  obtain rfl : args = #[v0, v1] := by cases args; simp_all
  obtain ⟨rfl, rfl⟩ := trodVars_none hV
  obtain ⟨A0, n0, c0, l0, rfl, m0, s0, o0⟩ := view_u16s (hval 0 36 v0 rfl rfl) h0
  obtain ⟨A1, n1, c1, l1, rfl, m1, s1, o1⟩ := view_i64s (hval 1 23 v1 rfl rfl) h1
  refine (walk W A0 n0 c0 l0 m0 s0 o0 A1 n1 c1 l1 m1 s1 o1).mono fun e W' ⟨he, hg⟩ => ?_
  subst he
  exact ⟨_, rfl, law_post laidOut (by kernel_rfl) rfl Try.underlying4 rfl hW' rfl rfl rfl hg⟩

theorem over : Rows.textWordsRow.holds Try.pinned (OpenSpec.ofChange Rows.textWordsSpec) :=
  OpenClaim.holds_of_wide 4 Try.f4 rfl rfl rfl rfl rfl rfl rfl ⟨rfl, rfl, rfl, rfl, rfl⟩ rfl rfl rfl rfl rfl (by kernel_rfl) Try.func4 (by kernel_rfl)
    (of_decide_eq_true (by kernel_rfl)) (by unfold Func.isWrapper; first | (rw [if_pos (by decide +kernel)]; kernel_rfl) | (rw [if_neg (by decide +kernel)]; exact ⟨rfl, rfl⟩))
    (fun os started H enc _ => lifted os started H enc)

/-- The statement. -/
theorem proved : Rows.TextWordsSaid := over
#print axioms proved
end Go.Proofs.Ytnmfcbmdopmglaa.lawTextWords
