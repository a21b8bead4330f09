/-
  Spaces beside others, and at the ends of rows, say nothing; least is not above greatest, that not above all: for every input, no conditions.
-/
import Derived.Test.YtnmfcbmdopmglaaWorks6
import Derived.Test.YtnmfcbmdopmglaaView8
import Derived.Test.YtnmfcbmdopmglaaLaw
import Derived.Test.YtnmfcbmdopmglaaExist6
import Derived.Test.YtnmfcbmdopmglaaTidy7
import Derived.Test.YtnmfcbmdopmglaaNonneg6
import Derived.Deep.DeepCutAuto
import Derived.Deep.RegionHeld3
import Derived.ProofKit
import Derived.OpenShut
import Derived.BigGuard
import Derived.Deep.QuietTactic
import Derived.BigQuiet
namespace Go.Proofs.Ytnmfcbmdopmglaa.lawTextTidy
open Go.ChangeShapes Go.WideShapes Go.ChangeAt Go.RowKit Go.Proofs.Ytnmfcbmdopmglaa
set_option linter.unusedVariables false

theorem own : ownKnob Try.prog.godebug = none := by kernel_rfl

set_option maxRecDepth 100000 in
set_option maxHeartbeats 6400000 in
theorem walk (W : World) (U : Option Addr) (n c : Nat) (u : List Int) (hm : c ≤ maxLen) (hU : Sl u16E W U n c u) (hu : ∀ r ∈ u, U16 r) (B : Option Addr) (m d : Nat) (A : List Int) (hd : d ≤ maxLen) (hA : Sl intE W B m d A) (ha : ∀ r ∈ A, I64 r) :
    Calls Try.prog 7 #[.slice U n c, .slice B m d] W fun e w' => e = .returned (.bool true) ∧ Below W.heap.size W w' := by
  obtain ⟨ps, hps⟩ := whl_exists u
  replace hU := Lib.hid hU
  replace hu := Lib.hid hu
  replace hA := Lib.hid hA
  replace ha := Lib.hid ha
  replace hps := Lib.hid hps
  clear hm hd
  have hv := Lib.hid (vast6_h U n c B m d W)
  by_cases hbig : 3000 < n ∨ 8192 < m
  · rw [decide_eq_true hbig] at hv
    go_enter Try.func7, Try.ntmps7
    go_wp2_with fail
    refine hv.out.mono ?_; rintro e w1 ⟨rfl, rfl⟩
    go_wp2_with fail
    refine (works6_h _).mono ?_; rintro e w1 ⟨rfl, hb1⟩
    replace hb1 := Lib.hid hb1
    go_wp2_with fail
    go_ret
    exact ⟨rfl, hb1.out⟩
  rw [decide_eq_false hbig] at hv
  have hn1 : n ≤ 3000 := by omega
  have hm1 : m ≤ 8192 := by omega
  have hlen := Lib.hid hU.out.len
  have hlenA := Lib.hid hA.out.len
  clear hbig
  go_enter Try.func7, Try.ntmps7
  go_wp2_with fail
  refine hv.out.mono ?_; rintro e w1 ⟨rfl, rfl⟩
  go_wp2_with fail
  refine (words_h U n c u B m d A W hU hu hA ha (by omega) ps hps).mono ?_; rintro e w1 ⟨E1, k1, rfl, hE1, hb1, -⟩
  have hqn : (wrds A u ps).length ≤ 3000 := by
    obtain ⟨z, _, h1, h2⟩ := hps.out
    have := chn_len ps 0 z h1
    have := h2.1
    rw [wrds_len]
    have := hlen.out
    omega
  replace hE1 := Lib.hid hE1
  have kt := Lib.hid (tidy_h U n c u w1 (Lib.hid (hU.out.below hb1)) hu (by omega))
  replace hb1 := Lib.hid hb1
  clear hv
  go_wp2_with fail
  refine kt.out.mono ?_; rintro e w2 ⟨v, hto, hvu, hvl, V, c2, rfl, hV, hb2, -⟩
  obtain ⟨qs, hqs⟩ := whl_exists v
  obtain ⟨hl0, hf0, htw⟩ := tidy_same (A := A) hto.symm hps.out hqs
  have hE12 := Lib.hid (hE1.out.below hb2)
  replace hb2 := Lib.hid (hb1.out.trans (hb2.mono hb1.out.size))
  have kd := words_h V v.length c2 v B m d A w2 (Lib.hid hV) (Lib.hid hvu) (Lib.hid (hA.out.below hb2.out)) ha (by omega) qs (Lib.hid hqs)
  unfold MadeWrds at kd
  rw [← hf0, ← hl0] at kd
  obtain ⟨q, hq⟩ : ∃ q, (wrds A u ps).length = q := ⟨_, rfl⟩
  rw [hq] at kd hE12 hqn ⊢
  have hq2 : (wrds A v qs).length = q := hl0.symm.trans hq
  have hbp : ∀ p ∈ ps, p.s ≤ p.t ∧ p.t ≤ 3000 := fun p hp => by
    obtain ⟨z, _, h1, _⟩ := hps.out
    have := chn_in ps 0 z h1 p hp
    have := hlen.out
    omega
  have hbq : ∀ p ∈ qs, p.s ≤ p.t ∧ p.t ≤ 3000 := fun p hp => by
    obtain ⟨z, _, h1, _⟩ := hqs
    have := chn_in qs 0 z h1 p hp
    omega
  replace hq := Lib.hid hq
  replace hq2 := Lib.hid hq2
  replace htw := Lib.hid htw
  replace hbp := Lib.hid hbp
  replace hbq := Lib.hid hbq
  replace kd := Lib.hid kd
  generalize fars A u ps = F1 at *
  clear kt hE1 hb1 hV hto hvu hf0 hl0
  go_wp2_with fail
  refine kd.out.mono ?_; rintro e w3 ⟨E2, k2, rfl, hE2, hb3, -⟩
  have hE13 := Lib.hid (hE12.out.below hb3)
  replace hE2 := Lib.hid hE2
  replace hb3 := Lib.hid (hb2.out.trans (hb3.mono hb2.out.size))
  clear kd hE12 hb2
  go_wp2_with fail
  go_loopw [9] (fun i wx => ∃ j : Nat, j ≤ q ∧ i = .int .i64 j ∧ Hid (Below w3.heap.size w3 wx)) (fun i _ => q - (intOf i).toNat)
  case atStart => exact ⟨0, Nat.zero_le _, rfl, Lib.hid (Below.refl _ _)⟩
  case round =>
    obtain ⟨i, hi, rfl, hb4⟩ := hrel
    have i1 : (0 : Int) ≤ (i : Int) := by omega
    by_cases hit : i < q
    · have i2 : (i : Int) < (q : Int) := by omega
      have hip : i < ps.length := by have := hq.out; rw [wrds_len] at this; omega
      have hiq : i < qs.length := by have := hq2.out; rw [wrds_len] at this; omega
      have e1 := List.getElem?_eq_getElem hip
      have e2 := List.getElem?_eq_getElem hiq
      have hx := wrds_get' (A := A) (u := u) e1
      have hy := wrds_get' (A := A) (u := v) e2
      obtain ⟨t1, t2, t3, t4⟩ := htw.out i _ _ hx hy
      have p1 := hbp.out _ (List.getElem_mem hip)
      have p2 := hbq.out _ (List.getElem_mem hiq)
      obtain ⟨g, rfl, -, c0, c1, c2', c3, c4⟩ := (hE13.out.below hb4.out).at_.wrd hx
      obtain ⟨g2, rfl, -, d0, d1, d2, d3, d4⟩ := (hE2.out.below hb4.out).at_.wrd hy
      rw [← t1] at d2
      rw [← t2] at d3
      rw [← t3] at d4
      simp only [wrdOf] at c0 c1 c2' c3 c4 d0 d1 d2 d3 d4 t4
      generalize ps[i].s = a1 at *
      generalize ps[i].t = a2 at *
      generalize qs[i].s = a3 at *
      generalize qs[i].t = a4 at *
      generalize cutI (wideS A (cut u a1 a2)) = Wx at *
      generalize gapOf A (decide (i = 0)) ps[i] = Gx at *
      generalize ps[i].e = Ex at *
      have s1 := IntWalk.i64_in ((a2 : Int) - (a1 : Int)) (by omega)
      have s2 := IntWalk.i64_in ((a4 : Int) - (a3 : Int)) (by omega)
      have s3 : (((a2 : Int) - (a1 : Int)) != ((a4 : Int) - (a3 : Int))) = false := by rw [t4]; simp
      clear t1 t2 t3 hx hy e1 e2 hip hiq p1 p2
      replace t4 := Lib.hid t4
      go_upto_region 10 with fail
      go_cut [110] (fun b wx => b = .bool false ∧ Hid (Below w3.heap.size w3 wx))
      case first =>
        go_quiet (fail)
        have hb5 := Lib.hid (bl_drewN hb4.out nq)
        go_wp2_with fail
        go_meet
        exact ⟨by first | rfl | (rw [s3]) | simp [s3], hb5⟩
      case rest =>
      obtain ⟨rfl, hb5⟩ := hcut
      clear c0 c1 c2' c3 c4 d0 d1 d2 d3 d4 s1 s2 s3 t4 hb4
      go_wp2_with fail
      go_roundw
      case rel => exact ⟨i + 1, by omega, by go_num, hb5⟩
      case measure => simp [intOf]; omega
    · have i2 : ¬ (i : Int) < (q : Int) := by omega
      have hE14 := Lib.hid (hE13.out.below hb4.out)
      replace hb4 := Lib.hid (hb3.out.trans (hb4.out.mono hb3.out.size))
      clear hE13 hE2 hb3 htw hbp hbq hq2
      go_wp2_with fail
      go_loopw [10] (fun i wx => ∃ j : Nat, j ≤ m ∧ i = .int .i64 j ∧ Hid (∀ k, k < j → ∀ z, A[k]? = some z → 0 ≤ z) ∧ wx = wr) (fun i _ => m - (intOf i).toNat)
      case atStart => exact ⟨0, Nat.zero_le _, rfl, Lib.hid (fun k hk => by omega), rfl⟩
      case round =>
        obtain ⟨j, hj, rfl, hnn, rfl⟩ := hrel
        have j1 : (0 : Int) ≤ (j : Int) := by omega
        by_cases hjt : j < m
        · have j2 : (j : Int) < (m : Int) := by omega
          have hjl : j < A.length := by rw [← hlenA.out]; exact hjt
          have hz := List.getElem?_eq_getElem hjl
          obtain ⟨b, rfl, _, hc⟩ := (hA.out.below hb4.out).at_.int hz
          generalize A[j] = z at *
          by_cases hz0 : z < 0
          · replace hz := Lib.hid hz
            clear hjl
            go_wp2_with fail
            refine (works6_h _).mono ?_; rintro e w5 ⟨rfl, hb5⟩
            replace hb5 := Lib.hid (hb4.out.trans (hb5.mono hb4.out.size))
            go_wp2_with fail
            go_ret
            exact ⟨rfl, hb5.out⟩
          · have hnn2 : Hid (∀ k, k < j + 1 → ∀ z, A[k]? = some z → 0 ≤ z) := Lib.hid (fun k hk y hy => by
              by_cases e : k = j
              · subst e; rw [hz] at hy; cases hy; omega
              · exact hnn.out k (by omega) y hy)
            replace hz := Lib.hid hz
            clear hjl
            go_wp2_with fail
            go_roundw
            case rel => exact ⟨j + 1, by omega, by go_num, hnn2, trivial⟩
            case measure => simp [intOf]; omega
        · have j2 : ¬ (j : Int) < (m : Int) := by omega
          have hAn : ∀ z ∈ A, 0 ≤ z := fun z hz => by
            obtain ⟨k, hk⟩ := List.getElem?_of_mem hz
            exact hnn.out k (by have := (List.getElem?_eq_some_iff.1 hk).1; have := hlenA.out; omega) z hk
          obtain ⟨rs, hrs⟩ := rwhl_exists (wrds A u ps)
          obtain ⟨hle1, hle2⟩ := nonneg_all hAn hps.out hrs
          have ke := extent_h E1 q k1 (wrds A u ps) wr hE14 (Lib.hid (wrds_ok (A := A) (by rw [← hlen.out]; exact hn1) hps.out)) (by omega) rs (Lib.hid hrs)
          have kw := fun (w5 : World) (hb : Below wr.heap.size wr w5) => wide_h U n c u B m d A w5 (Lib.hid (hU.out.below (hb4.out.trans (hb.mono hb4.out.size)))) hu (Lib.hid (hA.out.below (hb4.out.trans (hb.mono hb4.out.size)))) ha (by omega)
          generalize lst (wrds A u ps) = LS at *
          generalize grt (wrds A u ps) rs = GR at *
          generalize cutI (wideS A u) = WD at *
          replace ke := Lib.hid ke
          replace kw := Lib.hid kw
          clear hAn hrs hE14 hnn
          go_wp2_with fail
          refine ke.out.mono ?_; rintro e w5 ⟨rfl, hb5⟩
          have kw2 := Lib.hid (kw.out w5 hb5)
          replace hb5 := Lib.hid (hb4.out.trans (hb5.mono hb4.out.size))
          clear ke kw hb4
          go_wp2_with fail
          refine kw2.out.mono ?_; rintro e w6 ⟨rfl, hb6⟩
          replace hb6 := Lib.hid (hb5.out.trans (hb6.mono hb5.out.size))
          clear kw2 hb5
          go_wp2_with fail
          refine (works6_h _).mono ?_; rintro e w7 ⟨rfl, hb7⟩
          replace hb7 := Lib.hid (hb6.out.trans (hb7.mono hb6.out.size))
          go_wp2_with fail
          go_ret
          exact ⟨rfl, hb7.out⟩

set_option maxRecDepth 100000 in
theorem lifted (os : Os) (started : os.Started) (H : Type) (enc : TypeId × Value → H) :
    ReturnsInHanded {} Try.checked os 7 .any (Rows.textTidySpec.pre6 enc Try.prog Try.f7 Rows.textTidyRow.domain false) (Rows.textTidySpec.post enc Try.prog Try.f7 false true false false) := by
  refine returnsInHanded_of_change (C := Try.checked) own started (by kernel_rfl) Try.func7
    (ChangeSpec.witness6 (enc := enc) (C := Try.checked) false ⟨#[], #[.slice none 0 0, .slice none 0 0], []⟩ 20 (by kernel_rfl) (by kernel_rfl) (by kernel_rfl) (by kernel_rfl)) ?_
  intro W base args ds gs before hval0 hW hcnd _
  have hval : ∀ (j : Nat) t v, Try.f7.params[j]? = some t → args[j]? = some v → Value.okWide Try.prog W .any base t v := hval0
  have hW' := hW
  obtain ⟨p, q, hA0, hV, rfl, hfz, hnd⟩ := hW
  have hA : DataW.TrodAll enc Try.prog W 0 (fun _ => true) true Try.f7.params.toList args.toList ds p := hA0
  rw [Try.params7] at hA hval
  obtain ⟨v0, vs0, d0, ds0, p0, q0, hargs, rfl, rfl, h0, r0⟩ := trodAll_cons hA
  obtain ⟨v1, vs1, d1, ds1, p1, q1, rfl, rfl, rfl, h1, r1⟩ := trodAll_cons r0
  obtain ⟨rfl, rfl, rfl⟩ := trodAll_nil r1
  obtain rfl : args = #[v0, v1] := by cases args; simp_all
  obtain ⟨rfl, rfl⟩ := trodVars_none hV
  obtain ⟨A0, n0, c0, l0, rfl, m0, s0, o0⟩ := view_u16s (hval 0 36 v0 rfl rfl) h0
  obtain ⟨A1, n1, c1, l1, rfl, m1, s1, o1⟩ := view_i64s (hval 1 23 v1 rfl rfl) h1
  refine (walk W A0 n0 c0 l0 m0 s0 o0 A1 n1 c1 l1 m1 s1 o1).mono fun e W' ⟨he, hg⟩ => ?_
  subst he
  exact ⟨_, rfl, law_post laidOut (by kernel_rfl) rfl Try.underlying4 rfl hW' rfl rfl rfl hg⟩

theorem over : Rows.textTidyRow.holds Try.pinned (OpenSpec.ofChange Rows.textTidySpec) :=
  OpenClaim.holds_of_wide 7 Try.f7 rfl rfl rfl rfl rfl rfl rfl ⟨rfl, rfl, rfl, rfl, rfl⟩ rfl rfl rfl rfl rfl (by kernel_rfl) Try.func7 (by kernel_rfl)
    (of_decide_eq_true (by kernel_rfl)) (by unfold Func.isWrapper; first | (rw [if_pos (by decide +kernel)]; kernel_rfl) | (rw [if_neg (by decide +kernel)]; exact ⟨rfl, rfl⟩))
    (fun os started H enc _ => lifted os started H enc)

/-- The statement. -/
theorem proved : Rows.TextTidySaid := over
#print axioms proved
end Go.Proofs.Ytnmfcbmdopmglaa.lawTextTidy
