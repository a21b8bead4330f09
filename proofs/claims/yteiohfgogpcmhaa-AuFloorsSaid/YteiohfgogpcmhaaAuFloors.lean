/-
  The theorem of stage 1: a quotient of a product that au.MulDiv answers, times what it was divided by, leaves a rest that is at least 0 and less than that; one that is beyond is so: for every input, no conditions.
-/
import Derived.Test.YteiohfgogpcmhaaWorks
import Derived.ProofKit
import Derived.OpenShut
import Derived.BigGuard
namespace Go.Proofs.Yteiohfgogpcmhaa.lawAuFloors
open Go.ChangeShapes Go.WideShapes Go.ChangeAt Go.RowKit Go.Proofs.Yteiohfgogpcmhaa
set_option linter.unusedVariables false

theorem own : ownKnob Try.prog.godebug = none := by kernel_rfl



set_option maxRecDepth 100000 in
theorem none_ (a b c x y : Int) (w : World) (r1 : a.tmod 2147483648 = x) (r2 : b.tmod 1073741824 = y) (hc : c < 1) :
    Calls Try.prog 6 #[.int .i64 a, .int .i64 b, .int .i64 c] w fun e w' => e = .returned (.bool true) ∧ Qt w.heap.size w w' := by
  go_enter Try.func6, Try.ntmps6
  go_wp2_with fail
  refine (works_any _).mono ?_; rintro e w' ⟨rfl, hq⟩
  go_wp2_with fail
  go_ret
  exact ⟨rfl, hq⟩

section
variable (a b c x y P T : Int) (w : World)
  (r1 : a.tmod 2147483648 = x) (r2 : b.tmod 1073741824 = y) (hx : -2147483648 < x) (hx' : x < 2147483648) (hy : -1073741824 < y) (hy' : y < 1073741824)
  (hc' : c ≤ 9223372036854775807)
include r1 r2 hx hx' hy hy' hc'

variable (hc : 1 ≤ c) (r3 : x * y = P) (hP : -2305843009213693952 ≤ P) (hP' : P ≤ 2305843009213693952)
include hc r3 hP hP'

set_option maxRecDepth 100000 in
theorem near_ (f R : Int) (e1 : Hid (cutI (qI x y c) = f)) (e2 : Hid (farI (qI x y c) = false)) (r5 : wrap64 (P - wrap64 (f * c)) = R) (t1 : 0 ≤ R) (t2 : R < c) :
    Calls Try.prog 6 #[.int .i64 a, .int .i64 b, .int .i64 c] w fun e w' => e = .returned (.bool true) ∧ Qt w.heap.size w w' := by
  go_enter Try.func6, Try.ntmps6
  go_wp2_with fail
  refine (muldiv_any x y c (by omega) (by omega) (by omega) (by omega) (by omega) (by omega) (by omega) _).mono ?_; rintro e w' ⟨rfl, m, rfl⟩; rw [e1.out, e2.out]
  go_wp2_with fail
  refine (works_any _).mono ?_; rintro e w' ⟨rfl, hq⟩
  go_wp2_with fail
  go_ret
  exact ⟨rfl, ((Qt.refl _ w).drewN m).trans hq⟩
variable (r4 : P.tdiv c = T) (hT : -2305843009213693952 ≤ T) (hT' : T ≤ 2305843009213693952)
include r4 hT hT'

set_option maxRecDepth 100000 in
theorem high_ (e1 : Hid (cutI (qI x y c) = 1099511627776)) (e2 : Hid (farI (qI x y c) = true)) (t1 : 1099511627776 < T) :
    Calls Try.prog 6 #[.int .i64 a, .int .i64 b, .int .i64 c] w fun e w' => e = .returned (.bool true) ∧ Qt w.heap.size w w' := by
  go_enter Try.func6, Try.ntmps6
  go_wp2_with fail
  refine (muldiv_any x y c (by omega) (by omega) (by omega) (by omega) (by omega) (by omega) (by omega) _).mono ?_; rintro e w' ⟨rfl, m, rfl⟩; rw [e1.out, e2.out]
  go_wp2_with fail
  refine (works_any _).mono ?_; rintro e w' ⟨rfl, hq⟩
  go_wp2_with fail
  go_ret
  exact ⟨rfl, ((Qt.refl _ w).drewN m).trans hq⟩

set_option maxRecDepth 100000 in
theorem deep_ (e1 : Hid (cutI (qI x y c) = -1099511627776)) (e2 : Hid (farI (qI x y c) = true)) (t1 : T ≤ -1099511627776) :
    Calls Try.prog 6 #[.int .i64 a, .int .i64 b, .int .i64 c] w fun e w' => e = .returned (.bool true) ∧ Qt w.heap.size w w' := by
  go_enter Try.func6, Try.ntmps6
  go_wp2_with fail
  refine (muldiv_any x y c (by omega) (by omega) (by omega) (by omega) (by omega) (by omega) (by omega) _).mono ?_; rintro e w' ⟨rfl, m, rfl⟩; rw [e1.out, e2.out]
  go_wp2_with fail
  refine (works_any _).mono ?_; rintro e w' ⟨rfl, hq⟩
  go_wp2_with fail
  go_ret
  exact ⟨rfl, ((Qt.refl _ w).drewN m).trans hq⟩

end

theorem prod_bound (x y : Int) (hx : -2147483648 < x) (hx' : x < 2147483648) (hy : -1073741824 < y) (hy' : y < 1073741824) : -2305843009213693952 ≤ x * y ∧ x * y ≤ 2305843009213693952 := by
  have h1 : x.natAbs * y.natAbs ≤ 2147483648 * 1073741824 := Nat.mul_le_mul (by omega) (by omega)
  rw [← Int.natAbs_mul] at h1
  omega

set_option maxRecDepth 100000 in
theorem walk (a b c : Int) (w0 : (Lit.int .i64 a).wf = true) (w1 : (Lit.int .i64 b).wf = true) (w2 : (Lit.int .i64 c).wf = true) (w : World) :
    Calls Try.prog 6 #[.int .i64 a, .int .i64 b, .int .i64 c] w fun e w' => e = .returned (.bool true) ∧ Qt w.heap.size w w' := by
  have hc' : I64 c := bounds_i64 w2
  have hx := Int.tmod_lt_of_pos a (show (0 : Int) < 2147483648 by omega)
  have hx' := Int.lt_tmod_of_pos a (show (0 : Int) < 2147483648 by omega)
  have hy := Int.tmod_lt_of_pos b (show (0 : Int) < 1073741824 by omega)
  have hy' := Int.lt_tmod_of_pos b (show (0 : Int) < 1073741824 by omega)
  obtain ⟨x, r1⟩ : ∃ x, a.tmod 2147483648 = x := ⟨_, rfl⟩
  obtain ⟨y, r2⟩ : ∃ y, b.tmod 1073741824 = y := ⟨_, rfl⟩
  rw [r1] at hx hx'
  rw [r2] at hy hy'
  by_cases hc : c < 1
  · exact none_ a b c x y w r1 r2 hc
  · have hP := prod_bound x y hx' hx hy' hy
    obtain ⟨P, r3⟩ : ∃ P, x * y = P := ⟨_, rfl⟩
    obtain ⟨T, r4⟩ : ∃ T, P.tdiv c = T := ⟨_, rfl⟩
    have hq : qI x y c = P / c := by unfold qI; rw [if_pos (by omega), r3]
    rw [r3] at hP
    have hm := Int.mul_ediv_add_emod P c
    have hm0 := Int.emod_nonneg P (show c ≠ 0 by omega)
    have hm1 := Int.emod_lt_of_pos P (show 0 < c by omega)
    have hT := Int.tdiv_eq_ediv (a := P) (b := c)
    rw [r4, Int.sign_eq_one_of_pos (by omega)] at hT
    have hT1 : P / c ≤ T ∧ T ≤ P / c + 1 ∧ (0 ≤ P → T = P / c) := by
      by_cases h : 0 ≤ P
      · rw [if_pos (Or.inl h)] at hT; omega
      · split at hT <;> omega
    have hb : P / c ≤ 2305843009213693952 ∧ -2305843009213693952 ≤ P / c := by
      constructor
      · exact Int.le_trans (Int.ediv_le_ediv (by omega) hP.2) (Int.ediv_le_self _ (by omega))
      · rw [Int.le_ediv_iff_mul_le (by omega)]
        have : 2305843009213693952 * 1 ≤ 2305843009213693952 * c := Int.mul_le_mul_of_nonneg_left (by omega) (by omega)
        omega
    have hpos : 0 < P / c → 0 ≤ P := fun h => by
      rcases Int.lt_or_le P 0 with hn | hn
      · have := Int.ediv_neg_of_neg_of_pos hn (show 0 < c by omega); omega
      · exact hn
    have hT2 : -2305843009213693952 ≤ T ∧ T ≤ 2305843009213693952 := by
      by_cases h : 0 ≤ P
      · have := hT1.2.2 h; omega
      · have : ¬ 0 < P / c := fun z => h (hpos z)
        omega
    by_cases h1 : 1099511627776 < P / c
    · have e1 : cutI (qI x y c) = 1099511627776 := by rw [hq]; unfold cutI; rw [if_pos h1]
      have e2 : farI (qI x y c) = true := by rw [hq]; unfold farI; simp [h1]
      exact high_ a b c x y P T w r1 r2 hx' hx hy' hy hc'.2 (by omega) r3 hP.1 hP.2 r4 hT2.1 hT2.2 (Lib.hid e1) (Lib.hid e2) (by omega)
    · by_cases h2 : P / c < -1099511627776
      · have e1 : cutI (qI x y c) = -1099511627776 := by rw [hq]; unfold cutI; rw [if_neg h1, if_pos h2]
        have e2 : farI (qI x y c) = true := by rw [hq]; unfold farI; simp [h2]
        exact deep_ a b c x y P T w r1 r2 hx' hx hy' hy hc'.2 (by omega) r3 hP.1 hP.2 r4 hT2.1 hT2.2 (Lib.hid e1) (Lib.hid e2) (by omega)
      · have e1 : cutI (qI x y c) = P / c := by rw [hq]; unfold cutI; rw [if_neg h1, if_neg h2]
        have e2 : farI (qI x y c) = false := by rw [hq]; unfold farI; simp; omega
        have r5 : wrap64 (P - wrap64 (P / c * c)) = P % c := by
          rw [Int.mul_comm] at hm
          generalize P / c * c = z at *
          simp only [wrap64]
          unfold I64 at hc'
          omega
        exact near_ a b c x y P w r1 r2 hx' hx hy' hy hc'.2 (by omega) r3 hP.1 hP.2 _ _ (Lib.hid e1) (Lib.hid e2) r5 hm0 hm1

set_option maxRecDepth 100000 in
theorem lifted (os : Os) (started : os.Started) (H : Type) (enc : TypeId × Value → H) :
    ReturnsInHanded {} Try.checked os 6 .any (Rows.auFloorsSpec.pre6 enc Try.prog Try.f6 Rows.auFloorsRow.domain false) (Rows.auFloorsSpec.post enc Try.prog Try.f6 false true false false) := by
  refine returnsInHanded_of_change (C := Try.checked) own started (by kernel_rfl) Try.func6
    (ChangeSpec.witness6 (enc := enc) (C := Try.checked) false ⟨#[], #[.int .i64 0, .int .i64 0, .int .i64 0], []⟩ 6 (by kernel_rfl) (by kernel_rfl) (by kernel_rfl) (by kernel_rfl)) ?_
  intro W base args ds gs before hval0 hW hcnd _
  have hval : ∀ (j : Nat) t v, Try.f6.params[j]? = some t → args[j]? = some v → Value.okWide Try.prog W .any base t v := hval0
  have hW' := hW
  obtain ⟨p, q, hA0, hV, rfl, hfz, hnd⟩ := hW
  have hA : DataW.TrodAll enc Try.prog W 0 (fun _ => true) true Try.f6.params.toList args.toList ds p := hA0
  rw [Try.params6] at hA hval
  obtain ⟨v0, vs0, d0, ds0, p0, q0, hargs, rfl, rfl, h0, r0⟩ := trodAll_cons hA
  obtain ⟨v1, vs1, d1, ds1, p1, q1, rfl, rfl, rfl, h1, r1⟩ := trodAll_cons r0
  obtain ⟨v2, vs2, d2, ds2, p2, q2, rfl, rfl, rfl, h2, r2⟩ := trodAll_cons r1
  obtain ⟨rfl, rfl, rfl⟩ := trodAll_nil r2
  obtain rfl : args = #[v0, v1, v2] := by cases args; simp_all
  obtain ⟨rfl, rfl⟩ := trodVars_none hV
  obtain ⟨a0, rfl, rfl, rfl, w0⟩ := open_int Try.underlying2 (hval 0 2 v0 rfl rfl) h0
  obtain ⟨a1, rfl, rfl, rfl, w1⟩ := open_int Try.underlying2 (hval 1 2 v1 rfl rfl) h1
  obtain ⟨a2, rfl, rfl, rfl, w2⟩ := open_int Try.underlying2 (hval 2 2 v2 rfl rfl) h2
  clear hA0 hval0
  simp only [List.append_nil] at hW'
  refine (walk a0 a1 a2 w0 w1 w2 W).mono fun e W' ⟨he, hg⟩ => ?_
  subst he
  exact ⟨_, rfl, post_of_same (pa := []) (pv := []) hW' (fun _ _ _ => (trodAll_cons_mk (shut_bool Try.underlying4 _) trodAll_mk0)) (fun sp _ => (trodAll_cons_mk (shut_int Try.underlying2 w0) (trodAll_cons_mk (shut_int Try.underlying2 w1) (trodAll_cons_mk (shut_int Try.underlying2 w2) trodAll_mk0)))) (fun _ _ => rfl) rfl
    (hg.grown.frame _) hg.2 (ok_one (by kernel_rfl) rfl (okWide_bool_mk Try.underlying4 _))⟩

theorem over : Rows.auFloorsRow.holds Try.pinned (OpenSpec.ofChange Rows.auFloorsSpec) :=
  OpenClaim.holds_of_wide 6 Try.f6 rfl rfl rfl rfl rfl rfl rfl ⟨rfl, rfl, rfl, rfl, rfl⟩ rfl rfl rfl rfl rfl (by kernel_rfl) Try.func6 (by kernel_rfl)
    (of_decide_eq_true (by kernel_rfl)) (by unfold Func.isWrapper; first | (rw [if_pos (by decide +kernel)]; kernel_rfl) | (rw [if_neg (by decide +kernel)]; exact ⟨rfl, rfl⟩))
    (fun os started H enc _ => lifted os started H enc)

/-- The statement. -/
theorem proved : Rows.AuFloorsSaid := over
#print axioms proved
end Go.Proofs.Yteiohfgogpcmhaa.lawAuFloors
