/-
  Two texts with an end between have the words of both: for every input, no conditions.
-/
import Derived.Test.YtnmfcbmdopmglaaWorks6
import Derived.Test.YtnmfcbmdopmglaaView8
import Derived.Test.YtnmfcbmdopmglaaLaw
import Derived.Test.YtnmfcbmdopmglaaExist6
import Derived.Test.YtnmfcbmdopmglaaJoin6
import Derived.Deep.DeepCutAuto
import Derived.Deep.RegionHeld3
import Derived.ProofKit
import Derived.OpenShut
import Derived.BigGuard
import Derived.Deep.QuietTactic
import Derived.BigQuiet
namespace Go.Proofs.Ytnmfcbmdopmglaa.lawTextJoined
open Go.ChangeShapes Go.WideShapes Go.ChangeAt Go.RowKit Go.Proofs.Ytnmfcbmdopmglaa
set_option linter.unusedVariables false

theorem own : ownKnob Try.prog.godebug = none := by kernel_rfl

set_option maxRecDepth 100000 in
set_option maxHeartbeats 6400000 in
theorem walk (W : World) (U : Option Addr) (n c : Nat) (u : List Int) (hm : c ≤ maxLen) (hU : Sl u16E W U n c u) (hu : ∀ r ∈ u, U16 r) (V : Option Addr) (n2 c2 : Nat) (v : List Int) (hm2 : c2 ≤ maxLen) (hV : Sl u16E W V n2 c2 v) (hv : ∀ r ∈ v, U16 r) (B : Option Addr) (m d : Nat) (A : List Int) (hd : d ≤ maxLen) (hA : Sl intE W B m d A) (ha : ∀ r ∈ A, I64 r) :
    Calls Try.prog 8 #[.slice U n c, .slice V n2 c2, .slice B m d] W fun e w' => e = .returned (.bool true) ∧ Below W.heap.size W w' := by
  obtain ⟨ps, hps⟩ := whl_exists u
  obtain ⟨qs, hqs⟩ := whl_exists v
  replace hU := Lib.hid hU
  replace hu := Lib.hid hu
  replace hV := Lib.hid hV
  replace hv := Lib.hid hv
  replace hA := Lib.hid hA
  replace ha := Lib.hid ha
  replace hps := Lib.hid hps
  replace hqs := Lib.hid hqs
  clear hm hm2 hd
  have hv1 := Lib.hid (vast6_h U n c B m d W)
  have hv2 := Lib.hid (vast6_h V n2 c2 B m d W)
  by_cases hbig : (3000 < n ∨ 8192 < m) ∨ (3000 < n2 ∨ 8192 < m)
  · have hways : decide (3000 < n ∨ 8192 < m) = true ∨ (decide (3000 < n ∨ 8192 < m) = false ∧ decide (3000 < n2 ∨ 8192 < m) = true) := by
      by_cases h : 3000 < n ∨ 8192 < m
      · exact .inl (decide_eq_true h)
      · exact .inr ⟨decide_eq_false h, decide_eq_true (by rcases hbig with h1 | h1; exact (h h1).elim; exact h1)⟩
    clear hbig
    rcases hways with h | ⟨h, h'⟩
    · rw [h] at hv1
      replace h := Lib.hid h
      go_enter Try.func8, Try.ntmps8
      go_wp2_with fail
      refine hv1.out.mono ?_; rintro e w1 ⟨rfl, rfl⟩
      go_wp2_with fail
      refine (works6_h _).mono ?_; rintro e w1 ⟨rfl, hb1⟩
      replace hb1 := Lib.hid hb1
      go_wp2_with fail
      go_ret
      exact ⟨rfl, hb1.out⟩
    · rw [h] at hv1
      rw [h'] at hv2
      replace h := Lib.hid h
      replace h' := Lib.hid h'
      go_enter Try.func8, Try.ntmps8
      go_wp2_with fail
      refine hv1.out.mono ?_; rintro e w1 ⟨rfl, rfl⟩
      go_wp2_with fail
      refine hv2.out.mono ?_; rintro e w1 ⟨rfl, rfl⟩
      go_wp2_with fail
      refine (works6_h _).mono ?_; rintro e w1 ⟨rfl, hb1⟩
      replace hb1 := Lib.hid hb1
      go_wp2_with fail
      go_ret
      exact ⟨rfl, hb1.out⟩
  rw [decide_eq_false (fun h => hbig (.inl h))] at hv1
  rw [decide_eq_false (fun h => hbig (.inr h))] at hv2
  have hn1 : n ≤ 3000 := by omega
  have hn2 : n2 ≤ 3000 := by omega
  clear hbig
  have hlen := Lib.hid hU.out.len
  have hlen2 := Lib.hid hV.out.len
  have hnil := Lib.hid hU.out.nil
  have hnil2 := Lib.hid hV.out.nil
  go_enter Try.func8, Try.ntmps8
  go_wp2_with fail
  refine hv1.out.mono ?_; rintro e w1 ⟨rfl, rfl⟩
  go_wp2_with fail
  refine hv2.out.mono ?_; rintro e w1 ⟨rfl, rfl⟩
  go_wp2_with fail
  refine (words_h U n c u B m d A W hU hu hA ha (by omega) ps hps).mono ?_; rintro e w1 ⟨E1, k1, rfl, hE1, hb1, -⟩
  obtain ⟨zf, mf, hch, hgf⟩ := hps.out
  have hbd := chn_bd ps 0 zf hch
  have hql1 : (wrds A u ps).length ≤ 3000 ∧ zf ≤ n := by
    have := chn_len ps 0 zf hch
    have := hgf.1
    rw [wrds_len]
    have := hlen.out
    omega
  have hql2 : (wrds A v qs).length ≤ 3000 := by
    obtain ⟨z, _, h1, h2⟩ := hqs.out
    have := chn_len qs 0 z h1
    have := h2.1
    rw [wrds_len]
    have := hlen2.out
    omega
  obtain ⟨r, hr1, hr2, hr3, hr4⟩ := wrds_both (A := A) (u := u) (v := v) (ps := ps) (qs := qs) (m := mf) hbd
  have hwb := Lib.hid (whl_both hch hgf hqs.out)
  replace hE1 := Lib.hid hE1
  replace hb1 := Lib.hid hb1
  clear hv1 hv2
  have k2 := words_h V n2 c2 v B m d A w1 (Lib.hid (hV.out.below hb1.out)) hv (Lib.hid (hA.out.below hb1.out)) ha (by omega) qs hqs
  replace k2 := Lib.hid k2
  have hwl1 := wrds_len A u ps
  have hwl2 := wrds_len A v qs
  generalize hL1 : wrds A u ps = L1 at *
  generalize hL2 : wrds A v qs = L2 at *
  generalize hF1 : fars A u ps = F1 at *
  generalize hF2 : fars A v qs = F2 at *
  obtain ⟨q1, hq1⟩ : ∃ q1, L1.length = q1 := ⟨_, rfl⟩
  obtain ⟨q2, hq2⟩ : ∃ q2, L2.length = q2 := ⟨_, rfl⟩
  obtain ⟨hql1, hzn⟩ := hql1
  rw [hq1] at hE1 hql1 hwl1 ⊢
  rw [hq2] at hql2 hwl2
  rw [← hwl2] at hr2
  replace hL1 := Lib.hid hL1
  replace hL2 := Lib.hid hL2
  replace hF1 := Lib.hid hF1
  replace hF2 := Lib.hid hF2
  replace hq1 := Lib.hid hq1
  replace hq2 := Lib.hid hq2
  replace hwl1 := Lib.hid hwl1
  replace hwl2 := Lib.hid hwl2
  replace hr1 := Lib.hid hr1
  replace hr2 := Lib.hid hr2
  replace hr3 := Lib.hid hr3
  replace hr4 := Lib.hid hr4
  replace hch := Lib.hid hch
  replace hgf := Lib.hid hgf
  replace hbd := Lib.hid hbd
  go_wp2_with fail
  refine k2.out.mono ?_; rintro e w2 ⟨E2, k3, rfl, hE2, hb2, -⟩
  rw [hq2.out] at hE2 ⊢
  have hE12 := Lib.hid (hE1.out.below hb2)
  replace hE2 := Lib.hid hE2
  replace hb2 := Lib.hid (hb1.out.trans (hb2.mono hb1.out.size))
  clear k2 hE1 hb1
  have hI := Lib.hid ((hU.out.below hb2.out).at_.keep ((Below.refl _ w2).alloc (Nat.le_refl _) (.cells #[] 26)))
  have hown : Hid ((w2.alloc (.cells #[] 26)).ownsRow w2.heap.size 26 1 (.slice (some ⟨w2.heap.size, 0, none⟩) 0 0) 0 (([] : List Int).flatMap u16E)) := Lib.hid (World.ownsRow_lit (e := 26) (size := 1) w2 #[] 0 (Nat.le_refl _) (by unfold maxLen; omega) rfl)
  have hbase : Hid (w2.heap.size ≤ (w2.alloc (.cells #[] 26)).heap.size) := Lib.hid (by simp)
  go_wp2_with (first
    | (at_builtin; refine append_row (l := []) rfl (.tmp 40) (.tmp 41) 36 26 rfl _ 2 Try.underlying36 infoU6 rfl (by decide) (by decide) u16E_len u16E_one6 w2.heap.size _ 0 rfl hown.out _ U n c u rfl hnil.out hlen hI.out (by omega) hbase.out ?_; intro v3 w3 h3 h4 h5; rw [Nat.zero_add, List.nil_append] at h3; have hG := (⟨by rw [← hlen.out]; exact h3, ((Below.refl w2.heap.size w2).alloc (Nat.le_refl _) (.cells #[] 26)).grown h4 (by simp) (fun j e => by cases e; exact Nat.le_refl _)⟩ : GRow u16E 26 1 w2 v3 u w3); have hA3 := Lib.hid (hG.alloc (.cells ([(10 : Int)].flatMap u16E).toArray 26)); have hlit := Lib.hid (Holds.lit (f := u16E) w3 [10] 26); have hown3 := Lib.hid hA3.out.row; have hbase3 := Lib.hid (hG.base (.cells ([(10 : Int)].flatMap u16E).toArray 26)); replace hG := Lib.hid hG; clear h3 h4 h5)
    | (at_builtin; refine append_row rfl (.tmp 42) (.tmp 43) 36 26 rfl _ 2 Try.underlying36 infoU6 rfl (by decide) (by decide) u16E_len u16E_one6 w2.heap.size v3 u.length u rfl hown3.out _ _ 1 1 [10] rfl (fun h => by cases h) (Lib.hid rfl) hlit.out (by rw [← hlen.out]; omega) hbase3.out ?_; intro v4 w4 h3 h4 h5; have hG4 := Lib.hid (hA3.out.step h3 rfl h4); have hI4 := Lib.hid (((hV.out.below hb2.out).below (hG4.out.hb)).at_); have hown4 := Lib.hid hG4.out.row; have hbase4 := Lib.hid hG4.out.hb.size; clear h3 h4 h5)
    | (at_builtin; refine append_row rfl (.tmp 44) (.tmp 45) 36 26 rfl _ 2 Try.underlying36 infoU6 rfl (by decide) (by decide) u16E_len u16E_one6 w2.heap.size v4 (u ++ [10]).length (u ++ [10]) rfl hown4.out _ V n2 c2 v rfl hnil2.out hlen2 hI4.out (by rw [List.length_append, ← hlen.out]; simp only [List.length_cons, List.length_nil]; omega) hbase4.out ?_; intro v5 w5 h3 h4 h5; have hG5 := Lib.hid (hG4.out.step h3 hlen2.out h4); clear h3 h4 h5))
  have e5 : (u ++ [10]) ++ v = both u v := by simp [both]
  rw [e5] at hG5
  obtain ⟨E5, c5, rfl, hE5, hN5⟩ := hG5.out.fin u16E_len (by omega)
  have hb5 := hG5.out.hb
  have hn5 : (both u v).length ≤ 10000 := by rw [both_len, ← hlen.out, ← hlen2.out]; omega
  have hub : Hid (∀ x ∈ both u v, U16 x) := Lib.hid (fun x hx => by
    unfold both at hx
    rcases List.mem_append.1 hx with h | h
    · exact hu.out x h
    · rcases List.mem_cons.1 h with rfl | h
      · unfold U16; omega
      · exact hv.out x h)
  have kb := words_h E5 (both u v).length c5 (both u v) B m d A w5 (Lib.hid hE5) hub (Lib.hid (hA.out.below (hb2.out.trans (hb5.mono hb2.out.size)))) ha (by omega) _ hwb
  rw [hr1.out, hr4.out] at kb
  have hE15 := Lib.hid (hE12.out.below hb5)
  have hE25 := Lib.hid (hE2.out.below hb5)
  replace hb5 := Lib.hid (hb2.out.trans (hb5.mono hb2.out.size))
  have hl3 : (L1 ++ r).length = q1 + q2 := by rw [List.length_append, hq1.out, hr2.out]
  unfold MadeWrds at kb
  rw [hl3] at kb
  generalize (both u v).length = n5 at *
  replace kb := Lib.hid kb
  replace hl3 := Lib.hid hl3
  replace hn5 := Lib.hid hn5
  clear hE5 hN5 hG5 hG4 hA3 hG hlit hown hown3 hown4 hbase hbase3 hbase4 hI hI4 hE12 hE2 hb2 e5
  go_wp2_with fail
  refine kb.out.mono ?_; rintro e w6 ⟨E3, c3, rfl, hE3, hb6, -⟩
  have hE16 := Lib.hid (hE15.out.below hb6)
  have hE26 := Lib.hid (hE25.out.below hb6)
  replace hE3 := Lib.hid hE3
  replace hb6 := Lib.hid (hb5.out.trans (hb6.mono hb5.out.size))
  clear kb hE15 hE25 hb5
  go_upto_region 7 with fail
  have hsl := slice_wrd_h E3 (q1 + q2) c3 q1 (by have := hE3.out.cap; omega)
  have ks := Lib.hid (same6_h E3 E1 q1 c3 q1 k1 L1 w6 (Lib.hid (hE3.out.pre hq1.out)) hE16 (by omega))
  go_cut [77] (fun b wx => b = .bool false ∧ Hid (Below w6.heap.size w6 wx))
  case first =>
    cases F1
    all_goals
      cases F2
      all_goals
        go_wp2_with fail
        refine ks.out.mono ?_; rintro e w7 ⟨rfl, hb7⟩
        replace hb7 := Lib.hid hb7
        go_wp2_with fail
        go_meet
        exact ⟨rfl, hb7⟩
  case rest =>
  obtain ⟨rfl, hb7⟩ := hcut
  have hE17 := Lib.hid (hE16.out.below hb7.out)
  have hE27 := Lib.hid (hE26.out.below hb7.out)
  have hE37 := Lib.hid (hE3.out.below hb7.out)
  replace hb7 := Lib.hid (hb6.out.trans (hb7.out.mono hb6.out.size))
  clear hE16 hE26 hE3 hb6 ks hsl
  go_upto_if 80 with fail
  go_cut [15] (fun f wx => f = .int .i64 (zf : Int) ∧ wx = wc)
  case first =>
    by_cases hq0 : 0 < q1
    · obtain ⟨k, rfl⟩ : ∃ k, q1 = k + 1 := ⟨q1 - 1, by omega⟩
      have hpl : k < ps.length := by have := hwl1.out; omega
      obtain ⟨p, hp⟩ : ∃ p, ps[k]? = some p := ⟨ps[k], List.getElem?_eq_getElem hpl⟩
      have hpt := chn_last hch.out (by have := hwl1.out; omega) hp
      have hx := wrds_get' (A := A) (u := u) hp
      rw [hL1.out] at hx
      obtain ⟨g, rfl, -, -, c1, -, -, -⟩ := hE17.out.at_.wrd hx
      simp only [wrdOf, hpt] at c1
      have hk0 : (0 : Int) ≤ (k : Int) := by omega
      have hk1 : (0 : Int) < (k : Int) + 1 := by omega
      have hk2 : (k : Int) < ((k + 1 : Nat) : Int) := by omega
      have hd : decide (0 < k + 1) = true := decide_eq_true (by omega)
      replace hx := Lib.hid hx
      replace hp := Lib.hid hp
      replace hpt := Lib.hid hpt
      replace hd := Lib.hid hd
      go_wp2_with fail
      go_meet
      exact ⟨rfl, rfl⟩
    · obtain rfl : q1 = 0 := by omega
      have hz0 : zf = 0 := by
        have h := hch.out
        rw [List.eq_nil_of_length_eq_zero hwl1.out.symm] at h
        cases h
        rfl
      replace hz0 := Lib.hid hz0
      go_wp2_with fail
      go_meet
      exact ⟨by rw [hz0.out]; rfl, rfl⟩
  case rest =>
  obtain ⟨rfl, hwc⟩ := hcut
  subst hwc
  have hst0 : Hid (endsN (cut u zf zf) = 0) := Lib.hid (by simp [cut, endsN])
  go_wp2_with fail
  go_loopw [14, 16] (fun bh i wx => ∃ (j e : Nat), zf ≤ j ∧ j ≤ n ∧ e ≤ j ∧ i = .int .i64 j ∧ bh = .int .i64 ((e + 1 : Nat) : Int) ∧ Hid (e = endsN (cut u zf j)) ∧ Hid (Below wc.heap.size wc wx)) (fun _ i _ => n - (intOf i).toNat)
  case atStart => exact ⟨zf, 0, Nat.le_refl _, hzn, Nat.zero_le _, rfl, rfl, Lib.hid hst0.out.symm, Lib.hid (Below.refl _ _)⟩
  case round =>
    obtain ⟨j, en, hj1, hj2, hj3, rfl, rfl, hen, hb8⟩ := hrel
    have i1 : (0 : Int) ≤ (j : Int) := by omega
    by_cases hlt : j < n
    · have i2 : (j : Int) < (n : Int) := by omega
      obtain ⟨b, rfl, _, hcu⟩ := u16_cell (hU.out.below (hb7.out.trans (hb8.out.mono hb7.out.size))) hlt
      have hju : j < u.length := by rw [← hlen.out]; exact hlt
      have hgx : u[j]? = some (u.getD j 0) := by rw [List.getD_eq_getElem?_getD, List.getElem?_eq_getElem hju]; rfl
      have he2 := endsCut_snoc hj1 hgx
      rw [← hen.out] at he2
      have hxu := u16_get hu.out j
      generalize u.getD j 0 = x at *
      obtain ⟨x0, x1⟩ := hxu
      clear hgx hju
      by_cases h10 : x = 10
      · subst h10
        have he3 : Hid (en + 1 = endsN (cut u zf (j + 1))) := Lib.hid (by rw [he2]; simp)
        clear he2
        go_wp2_with fail
        go_roundw
        case rel => exact ⟨j + 1, en + 1, by omega, by omega, by omega, by go_num, by go_num, he3, hb8⟩
        case measure => simp [intOf]; omega
      · have he3 : Hid (en = endsN (cut u zf (j + 1))) := Lib.hid (by rw [he2]; simp [h10])
        have hne : (x == 10) = false := by simpa using h10
        clear he2
        go_wp2_with fail
        go_roundw
        case rel => exact ⟨j + 1, en, by omega, by omega, by omega, by go_num, rfl, he3, hb8⟩
        case measure => simp [intOf]; omega
    · have i2 : ¬ (j : Int) < (n : Int) := by omega
      have hem : en = mf := by
        have h1 := hgf.out.2.2.2
        have h2 := hen.out
        rw [show j = u.length by rw [← hlen.out]; omega, h1] at h2
        exact h2
      subst hem
      have hE18 := Lib.hid (hE17.out.below hb8.out)
      have hE28 := Lib.hid (hE27.out.below hb8.out)
      have hE38 := Lib.hid (hE37.out.below hb8.out)
      replace hb8 := Lib.hid (hb7.out.trans (hb8.out.mono hb7.out.size))
      clear hE17 hE27 hE37 hb7 hst0 hen
      go_wp2_with fail
      go_loopw [17] (fun i wx => ∃ j : Nat, j ≤ q2 ∧ i = .int .i64 j ∧ Hid (Below wr.heap.size wr wx)) (fun i _ => q2 - (intOf i).toNat)
      case atStart => exact ⟨0, Nat.zero_le _, rfl, Lib.hid (Below.refl _ _)⟩
      case round =>
        obtain ⟨i, hi, rfl, hb9⟩ := hrel
        have j1 : (0 : Int) ≤ (i : Int) := by omega
        have hE19 := Lib.hid (hE18.out.below hb9.out)
        have hE29 := Lib.hid (hE28.out.below hb9.out)
        have hE39 := Lib.hid (hE38.out.below hb9.out)
        have hb10 := Lib.hid (hb8.out.trans (hb9.out.mono hb8.out.size))
        by_cases hit : i < q2
        · have j2 : (i : Int) < (q2 : Int) := by omega
          obtain ⟨q, hq⟩ : ∃ q, qs[i]? = some q := ⟨qs[i]'(by have := hwl2.out; omega), List.getElem?_eq_getElem _⟩
          have hx := wrds_get' (A := A) (u := v) hq
          rw [hL2.out] at hx
          have hqb : q.t ≤ n2 ∧ q.s ≤ n2 ∧ q.e ≤ n2 := by
            obtain ⟨z, _, h1, h2⟩ := hqs.out
            obtain ⟨y, _, h4⟩ := chn_at qs 0 z i q h1 hq
            have h5 := h4.le
            have h6 := h4.2.1
            have h7 : endsN (cut v y q.s) ≤ (cut v y q.s).length := List.length_filter_le _ _
            have h8 : (cut v y q.s).length ≤ q.s := by simp [cut]; omega
            have h9 := h4.1.2.2.2
            have := hlen2.out
            omega
          have hy : (L1 ++ r)[q1 + i]? = some ⟨(q.s : Int) + (n : Int) + 1, (q.t : Int) + (n : Int) + 1, cutI (wideS A (cut v q.s q.t)), gapOf A (decide (i = 0)) q, (q.e : Int) + (if i = 0 then (en : Int) + 1 else 0)⟩ := by
            rw [List.getElem?_append_right (by rw [hq1.out]; omega), hq1.out, show q1 + i - q1 = i by omega, hr3.out i _ hx, hlen.out]
            rfl
          obtain ⟨g, rfl, -, c0, c1, c2, c3, c4⟩ := hE29.out.at_.wrd hx
          simp only [wrdOf] at c0 c1 c2 c3 c4
          have hsum := IntWalk.i64_in ((q1 : Int) + (i : Int)) (by omega)
          have hs0 : (0 : Int) ≤ (q1 : Int) + (i : Int) := by omega
          have hsn : ((q1 : Int) + (i : Int)).toNat = q1 + i := by omega
          have hs1 : (q1 : Int) + (i : Int) < ((q1 + q2 : Nat) : Int) := by omega
          generalize cutI (wideS A (cut v q.s q.t)) = Wx at *
          generalize gapOf A (decide (i = 0)) q = Gx at *
          have hbx : Box (wr.alloc (.cells #[.int .i64 (q.s : Int), .int .i64 (q.t : Int), .int .i64 Wx, .int .i64 Gx, .int .i64 (q.e : Int)] 58)) wr.heap.size (wrdE ⟨q.s, q.t, Wx, Gx, q.e⟩) := Box.new wr (wrdE ⟨q.s, q.t, Wx, Gx, q.e⟩) _
          have hbl : Below wr.heap.size wr (wr.alloc (.cells #[.int .i64 (q.s : Int), .int .i64 (q.t : Int), .int .i64 Wx, .int .i64 Gx, .int .i64 (q.e : Int)] 58)) := (Below.refl _ _).alloc (Nat.le_refl _) _
          obtain ⟨hqb1, hqb2, hqb3⟩ := hqb
          replace hsum := Lib.hid hsum
          replace hsn := Lib.hid hsn
          replace hx := Lib.hid hx
          replace hy := Lib.hid hy
          replace hq := Lib.hid hq
          go_upto_region 22 with fail
          generalize hV0 : World.alloc wr _ = V0 at *
          obtain ⟨gw, hgw⟩ : ∃ gw, wr.heap.size = gw := ⟨_, rfl⟩
          rw [hgw] at hbx ⊢
          have b0 := hbx.cell 0 _ rfl
          have b1 := hbx.cell 1 _ rfl
          have b4 := hbx.cell 4 _ rfl
          have f0 := hbx.free 0 (by simp [wrdE])
          have f1 := hbx.free 1 (by simp [wrdE])
          have f4 := hbx.free 4 (by simp [wrdE])
          simp only at b0 b1 b4
          have hbx2 : Hid (Box ((V0.setCell ⟨gw, 0, none⟩ (.int .i64 ((q.s : Int) + (n : Int) + 1))).setCell ⟨gw, 1, none⟩ (.int .i64 ((q.t : Int) + (n : Int) + 1))) gw (wrdE ⟨(q.s : Int) + (n : Int) + 1, (q.t : Int) + (n : Int) + 1, Wx, Gx, q.e⟩)) :=
            Lib.hid ((hbx.set 0 (.int .i64 ((q.s : Int) + (n : Int) + 1)) (by simp [wrdE])).set 1 (.int .i64 ((q.t : Int) + (n : Int) + 1)) (by simp [wrdE]))
          have hbl2 : Hid (Below wr.heap.size wr ((V0.setCell ⟨gw, 0, none⟩ (.int .i64 ((q.s : Int) + (n : Int) + 1))).setCell ⟨gw, 1, none⟩ (.int .i64 ((q.t : Int) + (n : Int) + 1)))) :=
            Lib.hid ((hbl.setCell (p := ⟨gw, 0, none⟩) (by show _ ≤ gw; omega) _).setCell (p := ⟨gw, 1, none⟩) (by show _ ≤ gw; omega) _)
          replace hgw := Lib.hid hgw
          clear hbx hbl hV0 c0 c1 c2 c3 c4
          go_upto_region 24 with fail
          generalize hV1 : World.setCell _ _ _ = V1 at *
          clear hV1 b0 b1 b4 f0 f1 f4
          clear j1 hs0 hs1 hqb1 hqb2
          go_upto_if 127 with fail
          go_cut [] (fun wx => ∃ X : Int, Hid ((q.e : Int) + (if i = 0 then (en : Int) + 1 else 0) = X) ∧ Hid (Box wx gw (wrdE ⟨(q.s : Int) + (n : Int) + 1, (q.t : Int) + (n : Int) + 1, Wx, Gx, X⟩)) ∧ Hid (Below wr.heap.size wr wx))
          case first =>
            by_cases hi0 : i = 0
            · have hi1 : ((i : Int) == 0) = true := by simpa using hi0
              have b4 : V1.cell? ⟨gw, 4, none⟩ = some (.int .i64 (q.e : Int)) := hbx2.out.cell 4 _ rfl
              have f4 := hbx2.out.free 4 (by simp [wrdE])
              have hbx3 : Hid (Box (V1.setCell ⟨gw, 4, none⟩ (.int .i64 ((q.e : Int) + ((en : Int) + 1)))) gw (wrdE ⟨(q.s : Int) + (n : Int) + 1, (q.t : Int) + (n : Int) + 1, Wx, Gx, (q.e : Int) + ((en : Int) + 1)⟩)) := Lib.hid (hbx2.out.set 4 (.int .i64 ((q.e : Int) + ((en : Int) + 1))) (by simp [wrdE]))
              have hbl3 : Hid (Below wr.heap.size wr (V1.setCell ⟨gw, 4, none⟩ (.int .i64 ((q.e : Int) + ((en : Int) + 1))))) := Lib.hid (hbl2.out.setCell (p := ⟨gw, 4, none⟩) (by rw [hgw.out]; exact Nat.le_refl _) _)
              have hX : Hid ((q.e : Int) + (if i = 0 then (en : Int) + 1 else 0) = (q.e : Int) + ((en : Int) + 1)) := Lib.hid (by rw [if_pos hi0])
              replace hi0 := Lib.hid hi0
              clear hbx2 hbl2
              go_wp2_with fail
              go_meet
              exact ⟨_, hX, hbx3, hbl3⟩
            · have hi1 : ((i : Int) == 0) = false := by simpa using hi0
              have hX : Hid ((q.e : Int) + (if i = 0 then (en : Int) + 1 else 0) = (q.e : Int)) := Lib.hid (by rw [if_neg hi0, Int.add_zero])
              replace hi0 := Lib.hid hi0
              go_wp2_with fail
              go_meet
              exact ⟨_, hX, hbx2, hbl2⟩
          case rest =>
          obtain ⟨X, hX, hbx3, hbl3⟩ := hcut
          replace hy := Lib.hid (hX.out ▸ hy.out)
          clear hbx2 hbl2
          obtain ⟨g3, rfl, -, d0, d1, d2, d3, d4⟩ := (hE39.out.below hbl3.out).at_.wrd hy.out
          have e0 := hbx3.out.cell 0 _ rfl
          have e1 := hbx3.out.cell 1 _ rfl
          have e2 := hbx3.out.cell 2 _ rfl
          have e3 := hbx3.out.cell 3 _ rfl
          have e4 := hbx3.out.cell 4 _ rfl
          have hqq := wrd_eq ⟨(q.s : Int) + (n : Int) + 1, (q.t : Int) + (n : Int) + 1, Wx, Gx, X⟩
          simp only at d0 d1 d2 d3 d4 e0 e1 e2 e3 e4 hqq
          have j1 : (0 : Int) ≤ (i : Int) := by omega
          have hs0 : (0 : Int) ≤ (q1 : Int) + (i : Int) := by omega
          have hs1 : (q1 : Int) + (i : Int) < ((q1 + q2 : Nat) : Int) := by omega
          have hsm := hsum.out
          have hsn2 := hsn.out
          go_step
          go_step
          go_quiet (fail)
          have hb12 := Lib.hid (hb9.out.trans ((bl_drewN hbl3.out nq).mono hb9.out.size))
          clear d0 d1 d2 d3 d4 e0 e1 e2 e3 e4 hqq hsm hsn2 hs0 hs1 hbl3 hbx3 hE19 hE29 hE39 hy hx hq hX hb10
          go_wp2_with fail
          go_roundw
          case rel => exact ⟨i + 1, by omega, by go_num, hb12⟩
          case measure => simp [intOf]; omega
        · have j2 : ¬ (i : Int) < (q2 : Int) := by omega
          go_wp2_with fail
          refine (works6_h _).mono ?_; rintro e w9 ⟨rfl, hb11⟩
          replace hb11 := Lib.hid (hb10.out.trans (hb11.mono hb10.out.size))
          go_wp2_with fail
          go_ret
          exact ⟨rfl, hb11.out⟩

set_option maxRecDepth 100000 in
theorem lifted (os : Os) (started : os.Started) (H : Type) (enc : TypeId × Value → H) :
    ReturnsInHanded {} Try.checked os 8 .any (Rows.textJoinedSpec.pre6 enc Try.prog Try.f8 Rows.textJoinedRow.domain false) (Rows.textJoinedSpec.post enc Try.prog Try.f8 false true false false) := by
  refine returnsInHanded_of_change (C := Try.checked) own started (by kernel_rfl) Try.func8
    (ChangeSpec.witness6 (enc := enc) (C := Try.checked) false ⟨#[], #[.slice none 0 0, .slice none 0 0, .slice none 0 0], []⟩ 20 (by kernel_rfl) (by kernel_rfl) (by kernel_rfl) (by kernel_rfl)) ?_
  intro W base args ds gs before hval0 hW hcnd _
  have hval : ∀ (j : Nat) t v, Try.f8.params[j]? = some t → args[j]? = some v → Value.okWide Try.prog W .any base t v := hval0
  have hW' := hW
  obtain ⟨p, q, hA0, hV, rfl, hfz, hnd⟩ := hW
  have hA : DataW.TrodAll enc Try.prog W 0 (fun _ => true) true Try.f8.params.toList args.toList ds p := hA0
  rw [Try.params8] at hA hval
  obtain ⟨v0, vs0, d0, ds0, p0, q0, hargs, rfl, rfl, h0, r0⟩ := trodAll_cons hA
  obtain ⟨v1, vs1, d1, ds1, p1, q1, rfl, rfl, rfl, h1, r1⟩ := trodAll_cons r0
  obtain ⟨v2, vs2, d2, ds2, p2, q2, rfl, rfl, rfl, h2, r2⟩ := trodAll_cons r1
  obtain ⟨rfl, rfl, rfl⟩ := trodAll_nil r2
  obtain rfl : args = #[v0, v1, v2] := by cases args; simp_all
  obtain ⟨rfl, rfl⟩ := trodVars_none hV
  obtain ⟨A0, n0, c0, l0, rfl, m0, s0, o0⟩ := view_u16s (hval 0 36 v0 rfl rfl) h0
  obtain ⟨A1, n1, c1, l1, rfl, m1, s1, o1⟩ := view_u16s (hval 1 36 v1 rfl rfl) h1
  obtain ⟨A2, n2, c2, l2, rfl, m2, s2, o2⟩ := view_i64s (hval 2 23 v2 rfl rfl) h2
  refine (walk W A0 n0 c0 l0 m0 s0 o0 A1 n1 c1 l1 m1 s1 o1 A2 n2 c2 l2 m2 s2 o2).mono fun e W' ⟨he, hg⟩ => ?_
  subst he
  exact ⟨_, rfl, law_post laidOut (by kernel_rfl) rfl Try.underlying4 rfl hW' rfl rfl rfl hg⟩

theorem over : Rows.textJoinedRow.holds Try.pinned (OpenSpec.ofChange Rows.textJoinedSpec) :=
  OpenClaim.holds_of_wide 8 Try.f8 rfl rfl rfl rfl rfl rfl rfl ⟨rfl, rfl, rfl, rfl, rfl⟩ rfl rfl rfl rfl rfl (by kernel_rfl) Try.func8 (by kernel_rfl)
    (of_decide_eq_true (by kernel_rfl)) (by unfold Func.isWrapper; first | (rw [if_pos (by decide +kernel)]; kernel_rfl) | (rw [if_neg (by decide +kernel)]; exact ⟨rfl, rfl⟩))
    (fun os started H enc _ => lifted os started H enc)

/-- The statement. -/
theorem proved : Rows.TextJoinedSaid := over
#print axioms proved
end Go.Proofs.Ytnmfcbmdopmglaa.lawTextJoined
