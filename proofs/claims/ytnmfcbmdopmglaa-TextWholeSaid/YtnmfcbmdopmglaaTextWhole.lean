/-
  Words and the spaces and ends between them are all units, in order, each end counted: for every input, no conditions.
-/
import Derived.Test.YtnmfcbmdopmglaaWorks6
import Derived.Test.YtnmfcbmdopmglaaView8
import Derived.Test.YtnmfcbmdopmglaaLaw
import Derived.Test.YtnmfcbmdopmglaaExist6
import Derived.Test.YtnmfcbmdopmglaaEnds6
import Derived.Deep.DeepCutAuto
import Derived.Deep.RegionHeld3
import Derived.ProofKit
import Derived.OpenShut
import Derived.BigGuard
namespace Go.Proofs.Ytnmfcbmdopmglaa.lawTextWhole
open Go.ChangeShapes Go.WideShapes Go.ChangeAt Go.RowKit Go.Proofs.Ytnmfcbmdopmglaa
set_option linter.unusedVariables false

theorem own : ownKnob Try.prog.godebug = none := by kernel_rfl

set_option maxRecDepth 100000 in
set_option maxHeartbeats 3200000 in
theorem walk (W : World) (U : Option Addr) (n c : Nat) (u : List Int) (hm : c ≤ maxLen) (hU : Sl u16E W U n c u) (hu : ∀ r ∈ u, U16 r) (B : Option Addr) (m d : Nat) (A : List Int) (hd : d ≤ maxLen) (hA : Sl intE W B m d A) (ha : ∀ r ∈ A, I64 r) :
    Calls Try.prog 6 #[.slice U n c, .slice B m d] W fun e w' => e = .returned (.bool true) ∧ Below W.heap.size W w' := by
  obtain ⟨ps, hps⟩ := whl_exists u
  replace hU := Lib.hid hU
  replace hu := Lib.hid hu
  replace hA := Lib.hid hA
  replace ha := Lib.hid ha
  replace hps := Lib.hid hps
  clear hm hd
  have hv := Lib.hid (vast6_h U n c B m d W)
  by_cases hbig : 3000 < n ∨ 8192 < m
  · rw [decide_eq_true hbig] at hv
    go_enter Try.func6, Try.ntmps6
    go_wp2_with fail
    refine hv.out.mono ?_; rintro e w1 ⟨rfl, rfl⟩
    go_wp2_with fail
    refine (works6_h _).mono ?_; rintro e w1 ⟨rfl, hb1⟩
    replace hb1 := Lib.hid hb1
    go_wp2_with fail
    go_ret
    exact ⟨rfl, hb1.out⟩
  rw [decide_eq_false hbig] at hv
  have hn1 : n ≤ 3000 := by omega
  have hm1 : m ≤ 8192 := by omega
  have hlen := Lib.hid hU.out.len
  clear hbig
  go_enter Try.func6, Try.ntmps6
  go_wp2_with fail
  refine hv.out.mono ?_; rintro e w1 ⟨rfl, rfl⟩
  go_wp2_with fail
  refine (words_h U n c u B m d A W hU hu hA ha (by omega) ps hps).mono ?_; rintro e w3 ⟨L1, k1, rfl, hL1, hb3, -⟩
  obtain ⟨zf, mf, hch, hgf⟩ := hps.out
  have hlw : (wrds A u ps).length ≤ n := by
    have := chn_len ps 0 zf hch
    have := hgf.1
    rw [wrds_len, hlen.out]
    omega
  have hU3 := Lib.hid (hU.out.below hb3)
  replace hL1 := Lib.hid hL1
  replace hb3 := Lib.hid hb3
  have hql : (wrds A u ps).length = ps.length := wrds_len A u ps
  generalize hlq : (wrds A u ps).length = q at *
  replace hlq := Lib.hid hlq
  replace hql := Lib.hid hql
  replace hch := Lib.hid hch
  replace hgf := Lib.hid hgf
  clear hv hA
  go_wp2_with fail
  go_loopw [7, 8] (fun at_ i wr => ∃ (j y : Nat), j ≤ q ∧ y ≤ n ∧ i = .int .i64 j ∧ at_ = .int .i64 y ∧ Hid (Chn u 0 (ps.take j) y) ∧ Hid (Below w3.heap.size w3 wr)) (fun _ i _ => q - (intOf i).toNat)
  case atStart => exact ⟨0, 0, Nat.zero_le _, Nat.zero_le _, rfl, rfl, Lib.hid rfl, Lib.hid (Below.refl _ _)⟩
  case round =>
    obtain ⟨j, y, hj, hy, rfl, rfl, hc, hb7⟩ := hrel
    by_cases hlt : j < q
    · have i1 : (0 : Int) ≤ (j : Int) := by omega
      have i2 : (j : Int) < (q : Int) := by omega
      obtain ⟨p, hp⟩ : ∃ p, ps[j]? = some p := ⟨ps[j]'(by have := hql.out; omega), List.getElem?_eq_getElem _⟩
      obtain ⟨y', hc', hnx⟩ := chn_at ps 0 zf j p hch.out hp
      obtain rfl : y = y' := chn_det _ 0 _ _ hc.out hc'
      have hx := wrds_get' (A := A) (u := u) hp
      have hne := fun h0 => nxt_ne hc' h0 hp hnx
      have hs1 : y ≤ p.s := hnx.1.1
      have hs2 : p.s < p.t := hnx.2.1
      have hs3 : p.t ≤ n := by rw [hlen.out]; exact hnx.le
      obtain ⟨a0, rfl⟩ : ∃ a0, U = some a0 := by
        cases U with
        | none => have := (hU.out.nil rfl).1; omega
        | some a0 => exact ⟨a0, rfl⟩
      have hcap := hU.out.cap
      have hsl := slice_u16 a0 n c y p.s hs1 (by omega) (by omega)
      have hgc := gap_cut hnx.1
      have hR := hL1.out.below hb7.out
      obtain ⟨g, rfl, hgb, c0, c1, -, -, c4⟩ := hR.at_.wrd hx
      have q0 := Later.cell (by rw [add_block]; exact hgb) c0
      have q1 := Later.cell (V := wr) (p := ⟨(g.add (j * 5)).block, (g.add (j * 5)).off + 1, none⟩) (by show (g.add (j * 5)).block < _; rw [add_block]; exact hgb) c1
      have q4 := Later.cell (V := wr) (p := ⟨(g.add (j * 5)).block, (g.add (j * 5)).off + 4, none⟩) (by show (g.add (j * 5)).block < _; rw [add_block]; exact hgb) c4
      have m1 : Hid (∀ z : Later wr, Calls Try.prog 27 #[.slice (some (a0.add y)) (p.s - y) (c - y)] z.w fun e w' => e = .returned (.int .i64 (p.e : Int)) ∧ Below z.w.heap.size z.w w') := by
        refine Lib.hid (fun z => ?_)
        have h := ((hU3.out.below hb7.out).below z.h).sub u16E_len hs1 (by omega : p.s ≤ n)
        rw [Nat.mul_one] at h
        have k := ends_h (some (a0.add y)) (p.s - y) (c - y) (cut u y p.s) z.w (Lib.hid h) (Lib.hid (fun x hx => hu.out x (List.mem_of_mem_take (List.mem_of_mem_drop hx)))) (Lib.hid hgc.1) (by omega)
        rw [hgc.2] at k
        exact k.mono fun e w' ⟨h1, h2⟩ => ⟨h1, by subst h2; exact Below.refl _ _⟩
      have hrun := hnx.2.2.1
      have hnext := Lib.hid (chn_take hc' hp hnx)
      have hx' := Lib.hid hx
      replace hrun := Lib.hid hrun
      simp only [wrdOf] at c0 c1 c4 q0 q1 q4
      have t1 : ¬ (p.s : Int) < (y : Int) := by omega
      have t2 : ¬ (p.t : Int) ≤ (p.s : Int) := by omega
      have t3 : ¬ (n : Int) < (p.t : Int) := by omega
      have t4 : 0 < j → ((p.s : Int) == (y : Int)) = false := fun h0 => by have := hne h0; simp; omega
      replace t4 := Lib.hid t4
      have hfin : Hid ((decide (p.s < y) || decide (p.t ≤ p.s) || decide (n < p.t)) = false) := Lib.hid (by simp; omega)
      clear hx hc hc' hne hnx hgc hR hp
      go_wp2_with fail
      go_cut [85] (fun b wx => b = .bool false ∧ Hid (Below wr.heap.size wr wx))
      case first =>
        clear c0 c1 c4
        by_cases hj0 : 0 < j
        · have j0' : (0 : Int) < (j : Int) := by omega
          have t5 := t4.out hj0
          refine wp_region_later wr (by kernel_rfl) (by kernel_rfl) (Below.refl _ _) ?_
          repeat (first | (go_big_quiet_step ((go_at_call 27; (with_reducible exact Later.call _ (m1.out _))))) | (quiet_step ((go_at_call 27; (with_reducible exact Later.call _ (m1.out _))))))
          refine wpQuiet_nil ?_
          rintro wq ⟨⟨_, hbq⟩, rfl⟩
          go_wp2_with fail
          go_meet
          exact ⟨by rw [hfin.out], Lib.hid hbq⟩
        · have j0' : ¬ (0 : Int) < (j : Int) := by omega
          refine wp_region_later wr (by kernel_rfl) (by kernel_rfl) (Below.refl _ _) ?_
          repeat (first | (go_big_quiet_step ((go_at_call 27; (with_reducible exact Later.call _ (m1.out _))))) | (quiet_step ((go_at_call 27; (with_reducible exact Later.call _ (m1.out _))))))
          refine wpQuiet_nil ?_
          rintro wq ⟨⟨_, hbq⟩, rfl⟩
          go_wp2_with fail
          go_meet
          exact ⟨by rw [hfin.out], Lib.hid hbq⟩
      case rest =>
      obtain ⟨rfl, hbc⟩ := hcut
      have hb8 := Lib.hid (hb7.out.trans (hbc.out.mono hb7.out.size))
      clear q0 q1 q4 m1 hfin t4 hb7 hsl
      have e0 := (hbc.out.cell (by rw [add_block]; exact hgb)).trans c0
      clear c0 c1 c4 hbc
      have hgb3 : g.block < w3.heap.size := by
        obtain ⟨g', eg, hgb', -, -, -, -, -⟩ := hL1.out.at_.wrd hx'.out
        cases eg
        exact hgb'
      have cell1 : ∀ v, Below w3.heap.size w3 v → v.cell? ⟨(g.add (j * 5)).block, (g.add (j * 5)).off + 1, none⟩ = some (.int .i64 (p.t : Int)) := fun v hb => by
        obtain ⟨g', eg, -, -, d1, -, -, -⟩ := (hL1.out.below hb).at_.wrd hx'.out
        cases eg
        exact d1
      replace cell1 := Lib.hid cell1
      go_wp2_with fail
      go_loopw [9] (fun k wx => ∃ t : Nat, p.s ≤ t ∧ t ≤ p.t ∧ k = .int .i64 t ∧ Hid (Below w3.heap.size w3 wx)) (fun k _ => p.t - (intOf k).toNat)
      case atStart => exact ⟨p.s, Nat.le_refl _, by omega, rfl, hb8⟩
      case round =>
        clear hb8 e0
        obtain ⟨t, ht1, ht2, rfl, hb9⟩ := hrel
        have e1 := cell1.out _ hb9.out
        have i3 : (0 : Int) ≤ (t : Int) := by omega
        by_cases htl : t < p.t
        · have i4 : (t : Int) < (p.t : Int) := by omega
          have i5 : (t : Int) < (n : Int) := by omega
          obtain ⟨a1, ea, _, a0c⟩ := u16_cell (hU3.out.below hb9.out) (show t < n by omega)
          cases ea
          have hwt := hrun.out.2 t ht1 htl
          rw [wAt_get (by rw [← hlen.out]; omega)] at hwt
          generalize u.getD t 0 = x at *
          have t6 : (x == 32) = false := by cases h : (x == 32) <;> simp_all [isW]
          have t7 : (x == 10) = false := by cases h : (x == 10) <;> simp_all [isW]
          clear hwt
          go_wp2_with fail
          go_roundw
          case rel => exact ⟨t + 1, by omega, by omega, by go_num, hb9⟩
          case measure => simp [intOf]; omega
        · have et : t = p.t := by omega
          have i4 : ¬ (t : Int) < (p.t : Int) := by omega
          go_wp2_with fail
          go_roundw
          case rel => exact ⟨j + 1, p.t, by omega, hs3, by go_num, rfl, hnext, hb9⟩
          case measure => simp [intOf]; omega
    · have ej : ps.take j = ps := List.take_of_length_le (by have := hql.out; omega)
      rw [ej] at hc
      obtain rfl : y = zf := chn_det _ 0 _ _ hc.out hch.out
      have hgc := gap_cut hgf.out
      have i1 : ¬ (j : Int) < (q : Int) := by omega
      obtain ⟨V, hsl, hV⟩ := slice_end U n c y u wr (hU3.out.below hb7.out) hy
      have ke := ends_h V (n - y) (c - y) (cut u y u.length) wr (Lib.hid hV) (Lib.hid (fun x hx => hu.out x (List.mem_of_mem_take (List.mem_of_mem_drop hx)))) (Lib.hid hgc.1) (by omega)
      have he0 : (0 : Int) ≤ (endsN (cut u y u.length) : Int) := by omega
      generalize endsN (cut u y u.length) = en at *
      replace ke := Lib.hid ke
      have hb8 := Lib.hid (hb3.out.trans (hb7.out.mono hb3.out.size))
      clear hV hgc hc ej
      go_wp2_with fail
      refine ke.out.mono ?_; rintro e w5 ⟨rfl, rfl⟩
      go_wp2_with fail
      refine (works6_h _).mono ?_; rintro e w6 ⟨rfl, hb9⟩
      replace hb9 := Lib.hid (hb8.out.trans (hb9.mono hb8.out.size))
      go_wp2_with fail
      go_ret
      exact ⟨rfl, hb9.out⟩

set_option maxRecDepth 100000 in
theorem lifted (os : Os) (started : os.Started) (H : Type) (enc : TypeId × Value → H) :
    ReturnsInHanded {} Try.checked os 6 .any (Rows.textWholeSpec.pre6 enc Try.prog Try.f6 Rows.textWholeRow.domain false) (Rows.textWholeSpec.post enc Try.prog Try.f6 false true false false) := by
  refine returnsInHanded_of_change (C := Try.checked) own started (by kernel_rfl) Try.func6
    (ChangeSpec.witness6 (enc := enc) (C := Try.checked) false ⟨#[], #[.slice none 0 0, .slice none 0 0], []⟩ 20 (by kernel_rfl) (by kernel_rfl) (by kernel_rfl) (by kernel_rfl)) ?_
  intro W base args ds gs before hval0 hW hcnd _
  have hval : ∀ (j : Nat) t v, Try.f6.params[j]? = some t → args[j]? = some v → Value.okWide Try.prog W .any base t v := hval0
  have hW' := hW
  obtain ⟨p, q, hA0, hV, rfl, hfz, hnd⟩ := hW
  have hA : DataW.TrodAll enc Try.prog W 0 (fun _ => true) true Try.f6.params.toList args.toList ds p := hA0
  rw [Try.params6] at hA hval
  obtain ⟨v0, vs0, d0, ds0, p0, q0, hargs, rfl, rfl, h0, r0⟩ := trodAll_cons hA
  obtain ⟨v1, vs1, d1, ds1, p1, q1, rfl, rfl, rfl, h1, r1⟩ := trodAll_cons r0
  obtain ⟨rfl, rfl, rfl⟩ := trodAll_nil r1
  obtain rfl : args = #[v0, v1] := by cases args; simp_all
  obtain ⟨rfl, rfl⟩ := trodVars_none hV
  obtain ⟨A0, n0, c0, l0, rfl, m0, s0, o0⟩ := view_u16s (hval 0 36 v0 rfl rfl) h0
  obtain ⟨A1, n1, c1, l1, rfl, m1, s1, o1⟩ := view_i64s (hval 1 23 v1 rfl rfl) h1
  refine (walk W A0 n0 c0 l0 m0 s0 o0 A1 n1 c1 l1 m1 s1 o1).mono fun e W' ⟨he, hg⟩ => ?_
  subst he
  exact ⟨_, rfl, law_post laidOut (by kernel_rfl) rfl Try.underlying4 rfl hW' rfl rfl rfl hg⟩

theorem over : Rows.textWholeRow.holds Try.pinned (OpenSpec.ofChange Rows.textWholeSpec) :=
  OpenClaim.holds_of_wide 6 Try.f6 rfl rfl rfl rfl rfl rfl rfl ⟨rfl, rfl, rfl, rfl, rfl⟩ rfl rfl rfl rfl rfl (by kernel_rfl) Try.func6 (by kernel_rfl)
    (of_decide_eq_true (by kernel_rfl)) (by unfold Func.isWrapper; first | (rw [if_pos (by decide +kernel)]; kernel_rfl) | (rw [if_neg (by decide +kernel)]; exact ⟨rfl, rfl⟩))
    (fun os started H enc _ => lifted os started H enc)

/-- The statement. -/
theorem proved : Rows.TextWholeSaid := over
#print axioms proved
end Go.Proofs.Ytnmfcbmdopmglaa.lawTextWhole
